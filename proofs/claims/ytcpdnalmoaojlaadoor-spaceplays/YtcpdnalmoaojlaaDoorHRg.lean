import Derived.Test.YtcpdnalmoaojlaaDoorHSp3
import Derived.Test.YtcpdnalmoaojlaaDoorHSp8

/-
  Ranges over functions whose rounds may have other ranges beneath them: what each side has of memory is told by a set of blocks.
-/
namespace Go.Proofs.YtcpdnalmoaojlaaDoor
open Go.RowKit Go.Shelf
set_option linter.unusedVariables false

/-- What lay in these blocks lies there. -/
structure Kept (U : Nat → Prop) (W W' : World) : Prop where
  os : W'.os = W.os
  tape : W'.tape = W.tape
  output : W'.output = W.output
  size : W.heap.size ≤ W'.heap.size
  block : ∀ k, k < W.heap.size → U k → W'.heap[k]? = W.heap[k]?
theorem Kept.refl (U : Nat → Prop) (W : World) : Kept U W W := ⟨rfl, rfl, rfl, Nat.le_refl _, fun _ _ _ => rfl⟩
theorem Kept.trans {U : Nat → Prop} {A B C : World} (h : Kept U A B) (k : Kept U B C) : Kept U A C :=
  ⟨k.os.trans h.os, k.tape.trans h.tape, k.output.trans h.output, Nat.le_trans h.size k.size, fun i hi hu => (k.block i (Nat.lt_of_lt_of_le hi h.size) hu).trans (h.block i hi hu)⟩
theorem Kept.sub {U V : Nat → Prop} {A B : World} (h : Kept U A B) (hs : ∀ k, k < A.heap.size → V k → U k) : Kept V A B := ⟨h.os, h.tape, h.output, h.size, fun k hk hv => h.block k hk (hs k hk hv)⟩
theorem Kept.put {U : Nat → Prop} {W : World} (l : Nat) (o : Obj) (h : ¬ U l) : Kept U W (W.putObj l o) := ⟨rfl, rfl, rfl, by simp, fun k _ hu => World.putObj_heap_other (fun e => h (e ▸ hu))⟩
theorem Kept.of_below {U : Nat → Prop} {A B : World} (h : Below A.heap.size A B) : Kept U A B := ⟨h.os, h.tape, h.output, h.size, fun k hk _ => h.block k hk⟩
theorem Kept.below {U : Nat → Prop} {A B : World} {n : Nat} (h : Kept U A B) (hn : n ≤ A.heap.size) (hu : ∀ k, k < n → U k) : Below n A B := ⟨h.os, h.tape, h.output, h.size, fun k hk => h.block k (Nat.lt_of_lt_of_le hk hn) (hu k hk)⟩
/-- All that is another one is of U, or new; and of U' is only what was of U, or new. -/
structure Grow (U : Nat → Prop) (W : World) (U' : Nat → Prop) (W' : World) : Prop where
  kept : Kept (fun k => ¬ U k) W W'
  sub : ∀ k, U' k → (U k ∨ W.heap.size ≤ k) ∧ k < W'.heap.size
theorem Grow.refl {U : Nat → Prop} {W : World} (h : ∀ k, U k → k < W.heap.size) : Grow U W U W := ⟨Kept.refl _ _, fun k hk => ⟨.inl hk, h k hk⟩⟩
theorem Grow.trans {U V X : Nat → Prop} {A B C : World} (h : Grow U A V B) (k : Grow V B X C) : Grow U A X C := by
  refine ⟨⟨k.kept.os.trans h.kept.os, k.kept.tape.trans h.kept.tape, k.kept.output.trans h.kept.output, Nat.le_trans h.kept.size k.kept.size, fun i hi hu => ?_⟩, fun i hi => ?_⟩
  · exact (k.kept.block i (Nat.lt_of_lt_of_le hi h.kept.size) (fun hv => (h.sub i hv).1.elim hu (fun h2 => absurd hi (by omega)))).trans (h.kept.block i hi hu)
  · obtain ⟨h1, h2⟩ := k.sub i hi
    refine ⟨?_, h2⟩
    rcases h1 with h1 | h1
    · exact (h.sub i h1).1
    · exact .inr (Nat.le_trans h.kept.size h1)
/-- It speaks of its blocks alone. -/
def Foot1 (J : (Nat → Prop) → World → Prop) : Prop := ∀ U W W', J U W → Kept U W W' → J U W'
def Foot {α : Type} (J : List α → (Nat → Prop) → World → Prop) : Prop := ∀ s, Foot1 (J s)
/-- What a function hands on, one by one, to whatever loop that has blocks of its own. -/
def SeqU {α : Type} (P : Program) (g : Nat) (lb : Array Value) (encs : α → Array Value) (G : α → Prop) (Own : Nat → Prop) (S Sp : List α → Prop) (N : Nat) (w : World) : Prop :=
  ∀ (n l : Nat) (J Jx : List α → (Nat → Prop) → World → Prop) (U : Nat → Prop) (W : World), Kept Own w W → (∀ k, U k → ¬ Own k ∧ k < W.heap.size) → Foot J → Foot Jx →
    (∀ m pre V x X, G x → J pre V X → (∀ k, V k → k < X.heap.size) → pre.length < N → YieldAt Fence.wide m P l (encs x) X fun e X' => ∃ V', Grow V X V' X' ∧
      ((e = .returned (.bool true) ∧ J (pre ++ [x]) V' X') ∨ (e = .returned (.bool false) ∧ Jx (pre ++ [x]) V' X'))) →
    J [] U W → CallsIn Fence.wide n P g (#[.func (.yield l) #[] #[]] ++ lb) W fun e W' => (∃ v, e = .returned v) ∧ ∃ U', Grow U W U' W' ∧ ((∃ xs, S xs ∧ J xs U' W') ∨ (∃ pre, Sp pre ∧ Jx pre U' W'))
/-- How a round is left. -/
def RoundU {α : Type} (I : List α → (Nat → Prop) → World → Prop) (Ix : Code → List α → (Nat → Prop) → World → Prop) (xs : List α) (U : Nat → Prop) (W : World) : Exit → Act → World → Prop
  | .normal, _, W' => ∃ U', Grow U W U' W' ∧ I xs U' W'
  | .ret, _, W' => ∃ U', Grow U W U' W' ∧ Ix .ret xs U' W'
  | .exit id, _, W' => ∃ U', Grow U W U' W' ∧ Ix (.exit id) xs U' W'
  | _, _, _ => False
theorem range_own {α : Type} {P : Program} {n : Nat} {g : Operand} {ps : Array Tmp} {assign body : Code} {Q : Exit → Act → World → Prop} {a : Act} {w : World} {gf : Nat} {lb : Array Value}
    (hg : a.eval g = .func (.func gf) #[] lb) (eg : ∀ args w, (callFunc gf args).run P w = .ok (.enter gf args) w) {encs : α → Array Value} {G : α → Prop} {Own : Nat → Prop} {S Sp : List α → Prop} {N : Nat} {w0 : World}
    (hseq : SeqU P gf lb encs G Own S Sp N w0) (hk0 : Kept Own w0 w) (hw0 : w0.heap.size ≤ w.heap.size) (hOwn : ∀ k, Own k → k < w0.heap.size) (hps : ∀ x, (encs x).size = ps.size)
    (I : List α → (Nat → Prop) → World → Prop) (Ix : Code → List α → (Nat → Prop) → World → Prop) (A : List α → α → Act → (Nat → Prop) → World → Prop) (hI : Foot I) (hIx : ∀ c, Foot (Ix c)) (hA : ∀ pre x a', Foot1 (A pre x a'))
    (U0 : Nat → Prop) (hU0 : ∀ k, U0 k → ¬ Own k ∧ k < w.heap.size) (h0 : I [] U0 w)
    (hassign : ∀ (l m : Nat) (pre : List α) (x : α) (V : Nat → Prop) (X : World), G x → I pre V X → (∀ k, V k → k < X.heap.size) →
      assign.wpIn (Fence.wide.inRound l) m P (Exit.then (fun a' X' => ∃ V', Grow V X V' X' ∧ A pre x a' V' X') (fun _ _ _ => False)) { tmps := (ps.zip (encs x)).foldl (fun t (p, v) => t.setIfInBounds p v) a.tmps, defers := [] } X)
    (hbody : ∀ (l m : Nat) (pre : List α) (x : α) (a' : Act) (V : Nat → Prop) (X : World), G x → A pre x a' V X → (∀ k, V k → k < X.heap.size) → pre.length < N → body.wpIn (Fence.wide.inRound l) m P (RoundU I Ix (pre ++ [x]) V X) a' X)
    (hdone : ∀ (D : Nat) (xs : List α) (V : Nat → Prop) (W : World), w.heap.size ≤ D → S xs → I xs V W → Grow U0 w V W → ¬ V D → W.heap[D]? = some (.deferred (some [])) → Q .normal { a with defers := { target := .collected D, args := #[] } :: a.defers } W)
    (hstop : ∀ (D : Nat) (c : Code) (pre : List α) (V : Nat → Prop) (W : World), w.heap.size ≤ D → Sp pre → Ix c pre V W → Grow U0 w V W → ¬ V D → W.heap[D]? = some (.deferred (some [])) → c.wpIn Fence.wide n P Q { a with defers := { target := .collected D, args := #[] } :: a.defers } W) :
    (Code.rangeFunc g ps assign body).wpIn Fence.wide n P Q a w := by
  refine wpIn_rangeFunc ?_
  intro fn hfn
  obtain ⟨D, hD⟩ : ∃ D, D = w.heap.size := ⟨_, rfl⟩
  obtain ⟨rec, hrec⟩ : ∃ rec : LoopState → Option Code → Loop, rec = fun st pe => { state := st, pending := pe, fn, tmps := a.tmps, params := ps, assign, body, defers := D } := ⟨_, rfl⟩
  obtain ⟨W1, hW1⟩ : ∃ W1, W1 = (w.alloc (.deferred (some []))).alloc (.loop (rec .ready none)) := ⟨_, rfl⟩
  have s1 : W1.heap.size = D + 2 := by rw [hW1, hD]; simp
  have b1 : Below w.heap.size w W1 := by rw [hW1]; exact ((Below.refl _ w).alloc (Nat.le_refl _) _).alloc (by simp) _
  have l1 : W1.heap[D + 1]? = some (.loop (rec .ready none)) := by
    rw [hW1, hD]
    have := World.alloc_heap_new (w.alloc (.deferred (some []))) (.loop (rec .ready none))
    rwa [World.size_alloc] at this
  have d1 : W1.heap[D]? = some (.deferred (some [])) := by
    rw [hW1, hD]
    exact (Below.heap_alloc _ _ _ (by simp)).trans (World.alloc_heap_new w _)
  have hlo : ∀ k, U0 k → k < D := fun k hk => by rw [hD]; exact (hU0 k hk).2
  have hold : ∀ k, Own k → k < D := fun k hk => by rw [hD]; exact Nat.lt_of_lt_of_le (hOwn k hk) hw0
  refine ⟨D + 1, [{ target := .collected D, args := #[] }], W1, { target := .fn (.func gf) lb, args := #[.func (.yield (D + 1)) #[] #[]] }, W1, gf, #[.func (.yield (D + 1)) #[] #[]] ++ lb, W1, ?_, ?_, fun _ _ => trivial, ?_, (fun h => by cases h), ?_⟩
  · rw [hW1, hrec, hD]
    exact run_enterLoop_outer _ _ _ _ _
  · simp only [resolve, hg]
    simp [go_sem]
  · simp [invoke, go_sem, eg]
  have back : ∀ (V U' : Nat → Prop) (W2 : World) (o : Obj), (∀ k, V k → k < W2.heap.size ∧ k ≠ D ∧ k ≠ D + 1) → (∀ k, U' k ↔ (V k ∨ k = D ∨ k = D + 1)) → Grow (fun k => U0 k ∨ k = D ∨ k = D + 1) W1 U' W2 → Grow U0 w V (W2.putObj (D + 1) o) := by
    intro V U' W2 o hb hU hgr
    refine ⟨⟨hgr.kept.os.trans b1.os, hgr.kept.tape.trans b1.tape, hgr.kept.output.trans b1.output, by have := hgr.kept.size; rw [World.putObj_size]; omega, fun k hk hu => ?_⟩, fun k hk => ?_⟩
    · rw [World.putObj_heap_other (by omega)]
      refine (hgr.kept.block k (by omega) ?_).trans (b1.block k hk)
      rintro (h | h | h)
      · exact hu h
      · omega
      · omega
    · obtain ⟨h1, h2, h3⟩ := hb k hk
      refine ⟨?_, by rw [World.putObj_size]; exact h1⟩
      rcases (hgr.sub k ((hU k).2 (.inl hk))).1 with (h | h | h) | h
      · exact .inl h
      · exact absurd h h2
      · exact absurd h h3
      · exact .inr (by omega)
  have main := hseq (n - 1) (D + 1)
    (fun pre U W => ∃ V : Nat → Prop, I pre V W ∧ (∀ k, V k → k < W.heap.size ∧ k ≠ D ∧ k ≠ D + 1) ∧ (∀ k, U k ↔ (V k ∨ k = D ∨ k = D + 1)) ∧ W.heap[D + 1]? = some (.loop (rec .ready none)) ∧ W.heap[D]? = some (.deferred (some [])))
    (fun pre U W => ∃ (V : Nat → Prop) (c : Code), Ix c pre V W ∧ (∀ k, V k → k < W.heap.size ∧ k ≠ D ∧ k ≠ D + 1) ∧ (∀ k, U k ↔ (V k ∨ k = D ∨ k = D + 1)) ∧ W.heap[D + 1]? = some (.loop (rec .done (some c))) ∧ W.heap[D]? = some (.deferred (some [])))
    (fun k => U0 k ∨ k = D ∨ k = D + 1) W1 (hk0.trans (Kept.of_below b1)) ?_ ?_ ?_ ?_ ?_
  · refine main.mono ?_
    rintro e W2 ⟨⟨v, rfl⟩, U', hgr, (⟨xs, hS, V, hi, hb, hU, hl, hd⟩ | ⟨pre, hSp, V, c, hi, hb, hU, hl, hd⟩)⟩
    · have hend := run_endLoop (P := P) hl (by rw [hrec]; simp)
      rw [hrec] at hend
      exact ⟨none, _, hend, hdone D xs V _ (by omega) hS (hI _ _ _ _ hi (Kept.put _ _ (fun h => (hb _ h).2.2 rfl))) (back V U' W2 _ hb hU hgr) (fun h => (hb _ h).2.1 rfl) ((World.putObj_heap_other (by omega)).trans hd)⟩
    · have hend := run_endLoop (P := P) hl (by rw [hrec]; simp)
      rw [hrec] at hend
      exact ⟨some c, _, hend, hstop D c pre V _ (by omega) hSp (hIx _ _ _ _ _ hi (Kept.put _ _ (fun h => (hb _ h).2.2 rfl))) (back V U' W2 _ hb hU hgr) (fun h => (hb _ h).2.1 rfl) ((World.putObj_heap_other (by omega)).trans hd)⟩
  · rintro k (hk | rfl | rfl)
    · exact ⟨(hU0 k hk).1, by have := hlo k hk; omega⟩
    · exact ⟨fun h => by have := hold _ h; omega, by omega⟩
    · exact ⟨fun h => by have := hold _ h; omega, by omega⟩
  · rintro pre U W W' ⟨V, hi, hb, hU, hl, hd⟩ hK
    exact ⟨V, hI _ _ _ _ hi (hK.sub (fun k _ hv => (hU k).2 (.inl hv))), fun k hk => ⟨Nat.lt_of_lt_of_le (hb k hk).1 hK.size, (hb k hk).2⟩, hU, (hK.block _ (Array.getElem?_eq_some_iff.1 hl).1 ((hU _).2 (.inr (.inr rfl)))).trans hl, (hK.block _ (Array.getElem?_eq_some_iff.1 hd).1 ((hU _).2 (.inr (.inl rfl)))).trans hd⟩
  · rintro pre U W W' ⟨V, c, hi, hb, hU, hl, hd⟩ hK
    exact ⟨V, c, hIx _ _ _ _ _ hi (hK.sub (fun k _ hv => (hU k).2 (.inl hv))), fun k hk => ⟨Nat.lt_of_lt_of_le (hb k hk).1 hK.size, (hb k hk).2⟩, hU, (hK.block _ (Array.getElem?_eq_some_iff.1 hl).1 ((hU _).2 (.inr (.inr rfl)))).trans hl, (hK.block _ (Array.getElem?_eq_some_iff.1 hd).1 ((hU _).2 (.inr (.inl rfl)))).trans hd⟩
  · rintro m pre U x W hG ⟨V, hi, hb, hU, hl, hd⟩ hUb hlen
    have hy := run_yield (P := P) (args := encs x) hl (by rw [hrec]; exact hps x)
    rw [hrec] at hy
    refine ⟨fn, _, assign, body, hy, roundIn_of_wpIn hfn (wpIn_mono (hassign (D + 1) m pre x V W hG hi (fun k hk => (hb k hk).1)) ?_)⟩
    clear hy
    have hDW : D + 1 < W.heap.size := (Array.getElem?_eq_some_iff.1 hl).1
    intro e a' Wa hpost
    cases e with
    | normal =>
      obtain ⟨Va, ga, ha⟩ := hpost
      have nVl : ¬ Va (D + 1) := fun h => (ga.sub _ h).1.elim (fun h => (hb _ h).2.2 rfl) (fun h => by omega)
      have nVd : ¬ Va D := fun h => (ga.sub _ h).1.elim (fun h => (hb _ h).2.1 rfl) (fun h => by omega)
      have hla := (ga.kept.block (D + 1) hDW (fun h => (hb _ h).2.2 rfl)).trans hl
      have hda := (ga.kept.block D (by omega) (fun h => (hb _ h).2.1 rfl)).trans hd
      have hlt : D + 1 < Wa.heap.size := (Array.getElem?_eq_some_iff.1 hla).1
      refine ⟨_, run_beginRound hla (by rw [hrec]), ?_⟩
      obtain ⟨Wb, hWb⟩ : ∃ Wb, Wb = Wa.putObj (D + 1) (.loop { rec .ready none with state := .busy }) := ⟨_, rfl⟩
      have hlb : Wb.heap[D + 1]? = some (.loop { rec .ready none with state := .busy }) := by rw [hWb]; exact World.putObj_heap_same hlt
      have hdb : Wb.heap[D]? = some (.deferred (some [])) := by rw [hWb]; exact (World.putObj_heap_other (by omega)).trans hda
      have sb : Wb.heap.size = Wa.heap.size := by rw [hWb, World.putObj_size]
      have kb : Kept (fun k => k ≠ D + 1) Wa Wb := by rw [hWb]; exact Kept.put _ _ (fun h => h rfl)
      have hab : A pre x a' Va Wb := hA _ _ _ _ _ _ ha (kb.sub (fun k _ hv e => nVl (e ▸ hv)))
      have hbo := hbody (D + 1) m pre x a' Va Wb hG hab (fun k hk => by rw [sb]; exact (ga.sub k hk).2) hlen
      rw [← hWb]
      clear hWb
      refine wpIn_mono hbo ?_
      have fin : ∀ (jump : Option Code) (V3 : Nat → Prop) (W3 : World), Grow Va Wb V3 W3 →
          (Instr.endRound (D + 1) jump).run P W3 = .ok (.bool jump.isNone) (W3.putObj (D + 1) (.loop (rec (if jump.isNone then .ready else .done) jump))) ∧
          (W3.putObj (D + 1) (.loop (rec (if jump.isNone then .ready else .done) jump))).heap[D + 1]? = some (.loop (rec (if jump.isNone then .ready else .done) jump)) ∧
          (W3.putObj (D + 1) (.loop (rec (if jump.isNone then .ready else .done) jump))).heap[D]? = some (.deferred (some [])) ∧ ¬ V3 (D + 1) ∧
          (∀ k, V3 k → k < (W3.putObj (D + 1) (.loop (rec (if jump.isNone then .ready else .done) jump))).heap.size ∧ k ≠ D ∧ k ≠ D + 1) ∧
          Grow U W (fun k => V3 k ∨ k = D ∨ k = D + 1) (W3.putObj (D + 1) (.loop (rec (if jump.isNone then .ready else .done) jump))) := by
        intro jump V3 W3 g3
        have hl3 := (g3.kept.block (D + 1) (by omega) nVl).trans hlb
        have hd3 := (g3.kept.block D (by omega) nVd).trans hdb
        have hend := run_endRound (P := P) jump hl3
        have nl3 : ¬ V3 (D + 1) := fun h => (g3.sub _ h).1.elim nVl (fun h => by omega)
        have nd3 : ¬ V3 D := fun h => (g3.sub _ h).1.elim nVd (fun h => by omega)
        have hlt3 := (Array.getElem?_eq_some_iff.1 hl3).1
        rw [hrec] at hend ⊢
        refine ⟨hend, World.putObj_heap_same hlt3, (World.putObj_heap_other (by omega)).trans hd3, nl3, fun k hk => ⟨by rw [World.putObj_size]; exact (g3.sub k hk).2, fun e => nd3 (e ▸ hk), fun e => nl3 (e ▸ hk)⟩, ⟨⟨?_, ?_, ?_, ?_, ?_⟩, ?_⟩⟩
        · exact g3.kept.os.trans (kb.os.trans ga.kept.os)
        · exact g3.kept.tape.trans (kb.tape.trans ga.kept.tape)
        · exact g3.kept.output.trans (kb.output.trans ga.kept.output)
        · have := g3.kept.size
          have := ga.kept.size
          rw [World.putObj_size]
          omega
        · intro k hk hu
          have hne : k ≠ D + 1 := fun e => hu ((hU k).2 (.inr (.inr e)))
          have hnV : ¬ V k := fun h => hu ((hU k).2 (.inl h))
          have hsa := ga.kept.size
          rw [World.putObj_heap_other hne]
          have hnVa : ¬ Va k := fun h => (ga.sub k h).1.elim hnV (fun h => by omega)
          exact (g3.kept.block k (by omega) hnVa).trans ((kb.block k (by omega) hne).trans (ga.kept.block k hk hnV))
        · have hsa := ga.kept.size
          have hs3 := g3.kept.size
          rw [World.putObj_size]
          rintro k (hk | rfl | rfl)
          · obtain ⟨h1, h2⟩ := g3.sub k hk
            refine ⟨?_, h2⟩
            rcases h1 with h1 | h1
            · rcases (ga.sub k h1).1 with h | h
              · exact .inl ((hU k).2 (.inl h))
              · exact .inr h
            · exact .inr (by omega)
          · exact ⟨.inl ((hU _).2 (.inr (.inl rfl))), by omega⟩
          · exact ⟨.inl ((hU _).2 (.inr (.inr rfl))), by omega⟩
      rintro e a3 W3 hp
      cases e with
      | normal =>
        obtain ⟨V3, g3, i3⟩ := hp
        obtain ⟨hr, hl4, hd4, n4, b4, g4⟩ := fin none V3 W3 g3
        exact ⟨_, _, hr, _, g4, .inl ⟨rfl, V3, hI _ _ _ _ i3 (Kept.put _ _ n4), b4, fun _ => Iff.rfl, hl4, hd4⟩⟩
      | ret =>
        obtain ⟨V3, g3, i3⟩ := hp
        obtain ⟨hr, hl4, hd4, n4, b4, g4⟩ := fin (some .ret) V3 W3 g3
        exact ⟨_, _, hr, _, g4, .inr ⟨rfl, V3, .ret, hIx _ _ _ _ _ i3 (Kept.put _ _ n4), b4, fun _ => Iff.rfl, hl4, hd4⟩⟩
      | exit id =>
        obtain ⟨V3, g3, i3⟩ := hp
        obtain ⟨hr, hl4, hd4, n4, b4, g4⟩ := fin (some (.exit id)) V3 W3 g3
        exact ⟨_, _, hr, _, g4, .inr ⟨rfl, V3, .exit id, hIx _ _ _ _ _ i3 (Kept.put _ _ n4), b4, fun _ => Iff.rfl, hl4, hd4⟩⟩
      | goto t => exact hp.elim
      | panic ch => exact hp.elim
      | outgrown => exact hp.elim
    | ret => exact hpost.elim
    | exit id => exact hpost.elim
    | goto t => exact hpost.elim
    | panic ch => exact hpost.elim
    | outgrown => exact hpost.elim
  · exact ⟨U0, hI _ _ _ _ h0 (Kept.of_below b1), fun k hk => ⟨by have := hlo k hk; omega, by have := hlo k hk; omega, by have := hlo k hk; omega⟩, fun k => Iff.rfl, l1, d1⟩
end Go.Proofs.YtcpdnalmoaojlaaDoor

/-
  append: which block the slice lies in then.
-/
namespace Go.Proofs.YtcpdnalmoaojlaaDoor
open Go.ChangeShapes Go.WideShapes Go.ChangeAt Go.RowKit
set_option linter.unusedVariables false

/-- The block of a slice. -/
def own (v : Value) (k : Nat) : Prop := v.ownBlock = some k
theorem append_where {P : Program} (w : World) (base : Nat) (t ty e : TypeId) (i : TypeInfo) (z : Value) (size bytes : Nat) (ht : P.underlying t = some (.slice e)) (hi : P.info? e = some i) (hz : i.zero = some z)
    (hsize : i.size = size) (hby : i.bytes = bytes) (v : Value) (n : Nat) (xs : List Value) (hown : w.ownsRow base e size v n xs) (a : Addr) (m c : Nat) (news : List Value) (hl : news.length = m * size)
    (hnews : ∀ j u, news[j]? = some u → w.cell? (a.add j) = some u) (h1 : ∀ u ∈ news, u.oneCell' = true) (hm0 : 0 < m) (h63 : n + m ≤ maxLen) (hbytes : (n + m) * bytes ≤ 140737488355328) (v' : Value) (w' : World)
    (hr : (Builtin.append_ #[t, t] ty #[v, .slice (some a) m c]).run P w = .ok v' w') : ∀ k, own v' k → own v k ∨ w.heap.size ≤ k := by
  subst hsize hby
  unfold maxLen at h63
  rcases hown.2 with ⟨rfl, rfl⟩ | ⟨g, cap, cur, rfl, hbg, hg, hnc, hcm, hcs, htake⟩
  · rw [run_append_nil (P := P) w t ty e i z ht hi hz a m c news hl hnews hm0 (by omega) (by rw [Nat.zero_add] at hbytes; omega)] at hr
    injection hr with e1 e2
    intro k hk
    rw [← e1] at hk
    simp [own, Value.ownBlock] at hk
    exact .inr (by omega)
  · by_cases hroom : n + m ≤ cap
    · have hfit : n * i.size + news.length ≤ cur.size := by rw [hl, hcs, ← Nat.add_mul]; exact Nat.mul_le_mul_right _ hroom
      rw [run_append_room (P := P) w t ty e i ht hi g n cap cur hg a m c news hl hnews h1 hroom hfit] at hr
      injection hr with e1 e2
      intro k hk
      rw [← e1] at hk
      exact .inl hk
    · rw [run_append_grow (P := P) w t ty e i z ht hi hz ⟨g, 0, none⟩ n cap xs hown.1 (hown.cells (g := g) rfl) a m c news hl hnews (by omega) (by omega) (growslice_fits (by omega) hbytes)] at hr
      injection hr with e1 e2
      intro k hk
      rw [← e1] at hk
      simp [own, Value.ownBlock] at hk
      exact .inr (by omega)
theorem owns_lt {w : World} {base : Nat} {e : TypeId} {size : Nat} {v : Value} {n : Nat} {xs : List Value} (h : w.ownsRow base e size v n xs) : ∀ k, own v k → k < w.heap.size := fun k hk => (h.lt k hk).2
theorem grow_own {w w' : World} {base : Nat} {e : TypeId} {size : Nat} {v v' : Value} {n : Nat} {xs : List Value} (hg : w.grownBy w' v.ownBlock) (h1 : ∀ k, own v' k → own v k ∨ w.heap.size ≤ k) (h2 : w'.ownsRow base e size v' n xs) : Grow (own v) w (own v') w' :=
  ⟨⟨hg.os, hg.tape, hg.output, hg.size, fun k hk hu => hg.block k hk (fun e => hu e.symm)⟩, fun k hk => ⟨h1 k hk, owns_lt h2 k hk⟩⟩
/-- append to a slice that a function has made itself. -/
theorem wpList_app {P : Program} {w : World} {ops : Array Oper} {rest : List Oper} {o : Oper} {a : Act} {Q : Exit → Act → World → Prop} (hgd : o.guard = none) (s x : Operand) (t : TypeId)
    (ho : o.op = .call { callee := .builtin .append, args := #[s, x], argTypes := #[t, t] }) (base : Nat) (e : TypeId) (i : TypeInfo) (z : Value) (size bytes : Nat) (ht : P.underlying t = some (.slice e)) (hi : P.info? e = some i) (hz : i.zero = some z)
    (hsize : i.size = size) (hby : i.bytes = bytes) (hzs : z.cells.size = size) (hsz : 0 < size) (v : Value) (n : Nat) (xs : List Value) (hs : a.eval s = v) (hown : w.ownsRow base e size v n xs)
    (ad : Addr) (m c : Nat) (news : List Value) (hx : a.eval x = .slice (some ad) m c) (hl : news.length = m * size) (hnews : ∀ j u, news[j]? = some u → w.cell? (ad.add j) = some u) (h1 : ∀ u ∈ news, u.oneCell' = true) (hm0 : 0 < m)
    (h63 : n + m ≤ maxLen) (hbytes : (n + m) * bytes ≤ 140737488355328) (hbase : base ≤ w.heap.size)
    (h : ∀ v' w', w'.ownsRow base e size v' (n + m) (xs ++ news) → Grow (own v) w (own v') w' → wpList P ops Q rest (a.put o.dst v') w') : wpList P ops Q (o :: rest) a w := by
  refine wpList_plain hgd fun _ hK => ?_
  obtain ⟨v', w', hr, h2, h3, h4⟩ := run_append_own (P := P) w base t o.type e i z size bytes ht hi hz hsize hby hzs hsz v n xs hown ad m c news hl hnews h1 h63 hbytes hbase
  have h5 := append_where w base t o.type e i z size bytes ht hi hz hsize hby v n xs hown ad m c news hl hnews h1 hm0 h63 hbytes v' w' hr
  unfold Oper.wp execOp
  simp only [ho, resolve, invoke, builtin, Sem.run_bind, Sem.run_pure, Result.andThen_ok, List.map_toArray, List.map_cons, List.map_nil, hs, hx, hr]
  exact hK _ _ (h v' w' h2 (grow_own h3 h5 h2))
theorem wpListIn_app {F : Fence} {n' : Nat} {P : Program} {w : World} {ops : Array Oper} {rest : List Oper} {o : Oper} {a : Act} {Q : Exit → Act → World → Prop} (hgd : o.guard = none) (s x : Operand) (t : TypeId)
    (ho : o.op = .call { callee := .builtin .append, args := #[s, x], argTypes := #[t, t] }) (base : Nat) (e : TypeId) (i : TypeInfo) (z : Value) (size bytes : Nat) (ht : P.underlying t = some (.slice e)) (hi : P.info? e = some i) (hz : i.zero = some z)
    (hsize : i.size = size) (hby : i.bytes = bytes) (hzs : z.cells.size = size) (hsz : 0 < size) (v : Value) (n : Nat) (xs : List Value) (hs : a.eval s = v) (hown : w.ownsRow base e size v n xs)
    (ad : Addr) (m c : Nat) (news : List Value) (hx : a.eval x = .slice (some ad) m c) (hl : news.length = m * size) (hnews : ∀ j u, news[j]? = some u → w.cell? (ad.add j) = some u) (h1 : ∀ u ∈ news, u.oneCell' = true) (hm0 : 0 < m)
    (h63 : n + m ≤ maxLen) (hbytes : (n + m) * bytes ≤ 140737488355328) (hbase : base ≤ w.heap.size)
    (h : ∀ v' w', w'.ownsRow base e size v' (n + m) (xs ++ news) → Grow (own v) w (own v') w' → wpListIn F n' P ops Q rest (a.put o.dst v') w') : wpListIn F n' P ops Q (o :: rest) a w := by
  refine wpListIn_plain hgd fun K hK => ?_
  obtain ⟨v', w', hr, h2, h3, h4⟩ := run_append_own (P := P) w base t o.type e i z size bytes ht hi hz hsize hby hzs hsz v n xs hown ad m c news hl hnews h1 h63 hbytes hbase
  have h5 := append_where w base t o.type e i z size bytes ht hi hz hsize hby v n xs hown ad m c news hl hnews h1 hm0 h63 hbytes v' w' hr
  unfold Oper.wpIn
  refine ⟨?_, ?_⟩
  · simp [Oper.about, ho, resolve, Target.leads, Sem.run_pure]
  · rw [Oper.semAt_plain F _ _ (by rw [ho]; intro c hc'; cases hc')]
    simp [execOp, ho, resolve, invoke, builtin, hs, hx, hr, Result.andThen]
    exact hK _ _ (h v' w' h2 (grow_own h3 h5 h2))
set_option maxRecDepth 100000 in
theorem append_any (l : List UInt8) (base N size : Nat) (v : Value) (w : World) (hN : N < 18446744073709551616) (hs : size ≤ 8) (hl : l.length ≤ 70368744177664) (hb : base ≤ w.heap.size) (ho : Owns w base v l) :
    Calls Tryd.prog 65 #[v, .int .u64 (N : Int), .int .i64 (size : Int)] w fun e w' => ∃ v', e = .returned v' ∧ Owns w' base v' (l ++ toLe N size) ∧ Grow (own v) w (own v') w' := by
  have HO := hid_mk ho
  obtain ⟨ao, cp, rfl⟩ := ho.shape
  have HLT := hid_mk (owns_lt ho)
  clear ho
  obtain ⟨i0, hi, hz0, hz1, hz2⟩ := info_parts Tryd.info5
  have HI0 := hid_mk hi
  have HZ0 := hid_mk hz0
  have HZ1 := hid_mk hz1
  have HZ2 := hid_mk hz2
  clear hi hz0 hz1 hz2
  go_enter Tryd.func65, Tryd.ntmps65
  go_wp2
  go_loopw [0, 9] (fun x i wr => ∃ k : Nat, i = .int .i64 (k : Int) ∧ k ≤ size ∧ Owns wr base x (l ++ toLe N k) ∧ Grow (own (.slice ao l.length cp)) w (own x) wr) (fun _ i _ => size - (intOf i).toNat)
  case atStart => exact ⟨0, rfl, by omega, by simpa [toLe] using HO.out, Grow.refl HLT.out⟩
  case round =>
    rename_i x
    obtain ⟨k, rfl, hk, hx, hbe⟩ := hrel
    obtain ⟨xo, xc, rfl⟩ := hx.shape
    have HX := hid_mk hx
    have HB := hid_mk hbe
    obtain ⟨m, hm⟩ : ∃ m, m = (l ++ toLe N k).length := ⟨_, rfl⟩
    have hm2 : m = l.length + k := by rw [hm, List.length_append, toLe_length]
    rw [← hm] at HX HB ⊢
    have HM := hid_mk hm
    have hm47 : m ≤ 70368744177680 := by omega
    clear hx hbe hm hm2
    by_cases hlt : k < size
    · have HBY := hid_mk (byte_at N k)
      have HTL : Hid (l ++ toLe N (k + 1) = (l ++ toLe N k) ++ [UInt8.ofNat (N / 256 ^ k)]) := by show _ = _; rw [List.append_assoc]; rfl
      have HBS : Hid (base ≤ wr.heap.size) := Nat.le_trans hb HB.out.kept.size
      have HA : Hid (∀ u, Owns (wr.alloc (.cells #[u] 5)) base (.slice xo m xc) (l ++ toLe N k)) := fun u => HX.out.below (Below.alloc (Below.refl _ _) (Nat.le_refl _) _)
      have HGA : Hid (∀ u, Grow (own (.slice ao l.length cp)) w (own (.slice xo m xc)) (wr.alloc (.cells #[u] 5))) := fun u =>
        HB.out.trans ⟨Kept.of_below (Below.alloc (Below.refl _ _) (Nat.le_refl _) _), fun k hk => ⟨.inl hk, by have := (HB.out.sub k hk).2; simp; omega⟩⟩
      go_wp2_with (at_builtin; refine wpList_app rfl _ _ 53 rfl base 5 i0 (.int .u8 0) 1 1 Tryd.underlying53 HI0.out HZ0.out HZ1.out HZ2.out rfl (by decide) _ (l ++ toLe N k).length ((l ++ toLe N k).map by8) rfl (HA.out _) ⟨wr.heap.size, 0, none⟩ 1 1 ([UInt8.ofNat (N / 256 ^ k)].map by8) rfl rfl (add_bytes (one_bytes wr _ _ (by rw [HBY.out]) _ rfl)) (by8_one _) (by decide) (by rw [← HM.out]; unfold maxLen; omega) (by rw [← HM.out]; omega) (Nat.le_trans HBS.out (by simp)) ?_; intro v' w2 h1 h2; have H1 := hid_mk h1; have H2 : Hid (Grow (own (.slice ao l.length cp)) w (own v') w2) := (HGA.out _).trans h2; clear h1 h2)
      go_roundw
      case rel =>
        refine ⟨k + 1, by go_num, by omega, ?_, H2.out⟩
        rw [HTL.out]
        have h := H1.out
        unfold Owns
        rw [List.length_append, List.map_append]
        exact h
      case measure => simp [intOf]; omega
    · obtain rfl : k = size := by omega
      go_wp2
      go_ret
      exact ⟨_, rfl, HX.out, HB.out⟩
end Go.Proofs.YtcpdnalmoaojlaaDoor
