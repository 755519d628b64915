import Derived.Test.YtcpdnalmoaojlaaDoorHSp17
import Derived.RegionIn

/-
  plain's list of runs.
-/
namespace Go.Proofs.YtcpdnalmoaojlaaDoor
open Go.RowKit Go.Shelf
set_option linter.unusedVariables false
set_option linter.unusedSimpArgs false
attribute [local go_sem] Oper.semAt_some

theorem alloc_old_sq (w : World) (o : Obj) (i : Nat) (h : i < w.heap.size) : (w.alloc o).heap[i]? = w.heap[i]? := by
  show (w.heap.push o)[i]? = w.heap[i]?
  rw [Array.getElem?_push, if_neg (Nat.ne_of_lt h)]

/-- Runs in a slice that a function has made. -/
def ROwns (w : World) (base : Nat) (v : Value) (l : List Pc) : Prop := w.ownsRow base 48 4 v l.length (l.flatMap fun x => (runv x).toList)
theorem ROwns.kept {U : Nat → Prop} {W W' : World} {B : Nat} {v : Value} {l : List Pc} (h : ROwns W B v l) (hK : Kept U W W') (hu : ∀ k, own v k → U k) : ROwns W' B v l := by
  refine ⟨h.1, ?_⟩
  rcases h.2 with hn | ⟨g, c, cur, rfl, h4, h5, h6⟩
  · exact .inl hn
  · exact .inr ⟨g, c, cur, rfl, h4, (hK.block g (Array.getElem?_eq_some_iff.1 h5).1 (hu g rfl)).trans h5, h6⟩
theorem ROwns.form {w : World} {B : Nat} {v : Value} {l : List Pc} (h : ROwns w B v l) : ∃ ao n cp, v = .slice ao n cp := by
  rcases h.2 with ⟨rfl, _⟩ | ⟨g, c, cur, rfl, _⟩
  · exact ⟨_, _, _, rfl⟩
  · exact ⟨_, _, _, rfl⟩
/-- What the first loop keeps: nothing has come; three boxes. -/
def L1I (B : Nat) (pre : List Pc) (V : Nat → Prop) (X : World) : Prop :=
  X.heap[B]? = some (.cells #[.int .i64 0] 3 (0, 0)) ∧ X.heap[B + 1]? = some (.cells #[.slice none 0 0] 43 (0, 0)) ∧ X.heap[B + 2]? = some (.cells #[.slice none 0 0] 43 (0, 0)) ∧ ∀ k, V k ↔ (k = B ∨ k = B + 1 ∨ k = B + 2)
theorem info_run : (Tryd.prog.info? 48).map (fun i => (i.zero, i.size, i.bytes)) = some (some (.agg #[.int .i64 0, .int .i64 0, .int .i64 0, .int .u64 0]), 4, 32) := by kernel_rfl
/-- What the second loop keeps: those that have come, in a slice. -/
def L2I (n₀ B : Nat) (pre : List Pc) (V : Nat → Prop) (X : World) : Prop :=
  ∃ v, X.heap[B + 2]? = some (.cells #[v] 43 (0, 0)) ∧ ROwns X n₀ v pre ∧ ¬ own v (B + 2) ∧ ¬ own v (B + 1) ∧ X.heap[B + 1]? = some (.cells #[.slice none 0 0] 43 (0, 0)) ∧ ∀ k, V k ↔ (own v k ∨ k = B + 1 ∨ k = B + 2)
theorem L2I.foot (n₀ B : Nat) : Foot (L2I n₀ B) := by
  rintro pre V W W' ⟨v, h1, h2, h3, h4, h5, h6⟩ hK
  exact ⟨v, (hK.block _ (Array.getElem?_eq_some_iff.1 h1).1 ((h6 _).2 (.inr (.inr rfl)))).trans h1, h2.kept hK (fun k hk => (h6 k).2 (.inl hk)), h3, h4, (hK.block _ (Array.getElem?_eq_some_iff.1 h5).1 ((h6 _).2 (.inr (.inl rfl)))).trans h5, h6⟩
def L2T (gf : Nat) (lb : Array Value) (B : Nat) (b x : Value) : Array Value :=
  #[.func (.func gf) #[] lb, .int .i64 0, undef, .pointer (some ⟨B, 0, none⟩), .slice none 0 0, .slice none 0 0, .pointer (some ⟨B + 1, 0, none⟩), .pointer (some ⟨B + 2, 0, none⟩), undef, b, .func (.func gf) #[] lb, .bool false, .func (.func gf) #[] lb, undef, undef, undef, undef, undef, undef, undef, undef, undef, .func (.func gf) #[] lb, x, undef, undef, undef, undef, undef, undef]
def L2A (gf : Nat) (lb : Array Value) (n₀ B : Nat) (pre : List Pc) (x : Pc) (a' : Act) (V : Nat → Prop) (X : World) : Prop :=
  ∃ b V', a' = { tmps := L2T gf lb B (.pointer (some ⟨b, 0, none⟩)) (.agg (runv x)), defers := [] } ∧ L2I n₀ B pre V' X ∧ (∀ k, V k ↔ (V' k ∨ k = b)) ∧ ¬ V' b ∧ X.heap[b]? = some (.cells (runv x) 48 (0, 0))
theorem L2A.foot (gf : Nat) (lb : Array Value) (n₀ B : Nat) (pre : List Pc) (x : Pc) (a' : Act) : Foot1 (L2A gf lb n₀ B pre x a') := by
  rintro V W W' ⟨b, V', h1, h2, h3, h4, h5⟩ hK
  exact ⟨b, V', h1, L2I.foot n₀ B _ _ _ _ h2 (hK.sub (fun k _ h => (h3 k).2 (.inl h))), h3, h4, (hK.block _ (Array.getElem?_eq_some_iff.1 h5).1 ((h3 _).2 (.inr rfl))).trans h5⟩
def L1T (gf : Nat) (lb : Array Value) (B : Nat) (b x : Value) : Array Value :=
  #[.func (.func gf) #[] lb, .int .i64 0, undef, .pointer (some ⟨B, 0, none⟩), .slice none 0 0, .slice none 0 0, .pointer (some ⟨B + 1, 0, none⟩), .pointer (some ⟨B + 2, 0, none⟩), b, undef, .func (.func gf) #[] lb, .bool false, .func (.func gf) #[] lb, x, undef, undef, undef, undef, undef, undef, undef, undef, undef, undef, undef, undef, undef, undef, undef, undef]
theorem L1I.foot (B : Nat) : Foot (L1I B) := by
  rintro pre V W W' ⟨h1, h2, h3, h4⟩ hK
  exact ⟨(hK.block _ (Array.getElem?_eq_some_iff.1 h1).1 ((h4 _).2 (.inl rfl))).trans h1, (hK.block _ (Array.getElem?_eq_some_iff.1 h2).1 ((h4 _).2 (.inr (.inl rfl)))).trans h2, (hK.block _ (Array.getElem?_eq_some_iff.1 h3).1 ((h4 _).2 (.inr (.inr rfl)))).trans h3, h4⟩
def L1A (gf : Nat) (lb : Array Value) (B : Nat) (pre : List Pc) (x : Pc) (a' : Act) (V : Nat → Prop) (X : World) : Prop :=
  ∃ b V', a' = { tmps := L1T gf lb B (.pointer (some ⟨b, 0, none⟩)) (.agg (runv x)), defers := [] } ∧ L1I B pre V' X ∧ (∀ k, V' k → V k)
theorem L1A.foot (gf : Nat) (lb : Array Value) (B : Nat) (pre : List Pc) (x : Pc) (a' : Act) : Foot1 (L1A gf lb B pre x a') := by
  rintro V W W' ⟨b, V', h1, h2, h3⟩ hK
  exact ⟨b, V', h1, L1I.foot B _ _ _ _ h2 (hK.sub (fun k _ h => h3 k h)), h3⟩
set_option maxRecDepth 100000 in
set_option maxHeartbeats 4000000 in
theorem listed_runs (gf : Nat) (lb : Array Value) (G : Pc → Prop) (Own : Nat → Prop) (N : Nat) (ls : List Pc) (w : World) (eg : ∀ args w, (callFunc gf args).run Tryd.prog w = .ok (.enter gf args) w)
    (hseq : SeqU Tryd.prog gf lb (fun x : Pc => #[Value.agg (runv x)]) G Own (fun ys => ys = ls) (fun pre => pre <+: ls) N w) (hOwn : ∀ k, Own k → k < w.heap.size) (hN : N ≤ 1073741824) :
    Calls Tryd.prog 37 #[.func (.func gf) #[] lb, .int .i64 0] w fun e w' => ∃ v, e = .returned (.tuple #[.slice none 0 0, v]) ∧ ROwns w' w.heap.size v ls ∧ Below w.heap.size w w' := by
  have hbin : ∀ W, (binOp BinOp.eql 78 (.func (.func gf) #[] lb) .nilFunc).run Tryd.prog W = .ok (.bool false) W := fun W => by kernel_rfl
  refine (callsIn_wide (n := 3)).1 ?_
  refine callsIn_of_wp_marks Tryd.func37 rfl trivial ?_ rfl
  simp only [Tryd.ntmps37, List.size_toArray, List.length_cons, List.length_nil, Nat.reduceAdd, Nat.reduceSub, Array.replicate_succ, Array.replicate_zero, List.push_toArray, List.append_toArray, List.nil_append, List.cons_append]
  gi_wp2
  obtain ⟨B, hB⟩ : ∃ B, B = w.heap.size := ⟨_, rfl⟩
  obtain ⟨W0, hW0⟩ : ∃ W0, W0 = (((w.alloc (.cells #[.int .i64 0] 3)).alloc (.cells #[.slice none 0 0] 43)).alloc (.cells #[.slice none 0 0] 43)) := ⟨_, rfl⟩
  have hsW : W0.heap.size = B + 3 := by rw [hW0, hB]; simp
  have bw : Below w.heap.size w W0 := by rw [hW0]; exact (((Below.refl _ w).alloc (Nat.le_refl _) _).alloc (by simp) _).alloc (by simp; omega) _
  have i0 : L1I B [] (fun k => k = B ∨ k = B + 1 ∨ k = B + 2) W0 := by
    refine ⟨?_, ?_, ?_, fun k => Iff.rfl⟩
    · rw [hW0, alloc_old_sq _ _ _ (by simp; omega), alloc_old_sq _ _ _ (by simp; omega), hB]
      exact heap_alloc_new _ _
    · have h := heap_alloc_new (w.alloc (.cells #[.int .i64 0] 3)) (.cells #[.slice none 0 0] 43)
      rw [hW0, alloc_old_sq _ _ _ (by simp; omega)]
      simpa [hB] using h
    · have h := heap_alloc_new ((w.alloc (.cells #[.int .i64 0] 3)).alloc (.cells #[.slice none 0 0] 43)) (.cells #[.slice none 0 0] 43)
      rw [hW0]
      simpa [hB] using h
  rw [← hW0, ← hB, show B + 1 + 1 = B + 2 from rfl]
  rename_i Q' K hK
  have REST : ∀ (D : Nat) (V : Nat → Prop) (pre : List Pc) (X : World), B + 3 ≤ D → L1I B pre V X → Kept (fun k => ¬ (k = B ∨ k = B + 1 ∨ k = B + 2)) W0 X → X.heap[D]? = some (.deferred (some [])) →
      Exit.then K Q' .normal { tmps := L1T gf lb B undef undef, defers := [{ target := .collected D, args := #[] }] } X := by
    intro D V pre X hD hI hkp hd
    have hI2 : L2I w.heap.size B [] (fun k => k = B + 1 ∨ k = B + 2) X := ⟨_, hI.2.2.1, World.ownsRow_nil _ _ _ _, by simp [own, Value.ownBlock], by simp [own, Value.ownBlock], hI.2.1, fun k => by simp [own, Value.ownBlock]⟩
    have hsX := hkp.size
    have hbX : Below w.heap.size w X := bw.trans (hkp.below (by omega) (fun k hk h => by omega))
    clear hI i0 hkp
    unfold L1T
    gi_wp2
    refine range_own (n := 3) (gf := gf) (lb := lb) rfl eg hseq (Kept.of_below hbX) hbX.size hOwn (fun _ => rfl)
      (L2I w.heap.size B) (fun c pre V X => False) (L2A gf lb w.heap.size B) (L2I.foot _ B) (fun c pre V W W' h hK => h) (L2A.foot gf lb _ B) (fun k => k = B + 1 ∨ k = B + 2) ?_ hI2 ?_ ?_ ?_ ?_
    · intro k hk
      exact ⟨fun h => by have := hOwn k h; omega, by omega⟩
    · intro l' m pre x V X' hG hI hV
      have HX : Hid (∃ V'', Grow V X' V'' (X'.alloc (.cells (runv x) 48)) ∧ L2A gf lb w.heap.size B pre x { tmps := L2T gf lb B (.pointer (some ⟨X'.heap.size, 0, none⟩)) (.agg (runv x)), defers := [] } V'' (X'.alloc (.cells (runv x) 48))) := by
        have hbe : Below X'.heap.size X' (X'.alloc (.cells (runv x) 48)) := (Below.refl _ X').alloc (Nat.le_refl _) _
        refine ⟨fun k => V k ∨ k = X'.heap.size, ⟨Kept.of_below hbe, ?_⟩, X'.heap.size, V, rfl, L2I.foot _ B _ _ _ _ hI (Kept.of_below hbe), fun k => Iff.rfl, fun h => by have := hV _ h; omega, heap_alloc_new _ _⟩
        rintro k (hk | rfl)
        · exact ⟨.inl hk, by have := hV k hk; simp; omega⟩
        · exact ⟨.inr (Nat.le_refl _), by simp⟩
      clear hI hV hG hOwn hseq hN hB hW0 hsW bw hbin hI2 hsX hbX hd
      unfold L2T at HX
      unfold runv at HX ⊢
      gi_wp2
      exact HX.out
    · rintro l' m pre x a' V X' hG ⟨b, V', rfl, hI, hVV, hnb, hbx⟩ hV hlen'
      have HI := hid_mk hI
      obtain ⟨v, h1, h2, h3, h4, h5, h6⟩ := hI
      obtain ⟨ao, n0, cp, rfl⟩ := h2.form
      have q1 : X'.cell? ⟨B + 2, 0, none⟩ = some (.slice ao n0 cp) := by simp [World.cell?, h1]
      have qf : X'.frozen? ⟨B + 2, 0, none⟩ = false := unfrozen h1 0
      have r0 : X'.cell? ⟨b, 0, none⟩ = some (.int .i64 (x.at' : Int)) := by simp [World.cell?, hbx, runv]
      have r1 : X'.cell? ⟨b, 1, none⟩ = some (.int .i64 (x.n : Int)) := by simp [World.cell?, hbx, runv]
      have r2 : X'.cell? ⟨b, 2, none⟩ = some (.int .i64 (x.count : Int)) := by simp [World.cell?, hbx, runv]
      have r3 : X'.cell? ⟨b, 3, none⟩ = some (.int .u64 (x.tag : Int)) := by simp [World.cell?, hbx, runv]
      have HBB : Hid (B + 2 < X'.heap.size) := (Array.getElem?_eq_some_iff.1 h1).1
      have HBW : Hid (w.heap.size ≤ X'.heap.size) := by have := HBB.out; show _ ≤ _; omega
      have HVV := hid_mk hVV
      have HH6 := hid_mk h6
      have HN3 := hid_mk h3
      have HN4 := hid_mk h4
      have HV0 := hid_mk hV
      have HE1 := hid_mk h1
      have HE5 := hid_mk h5
      have HLN : Hid (pre.length ≤ 1073741824) := by show _ ≤ _; omega
      have HAL : Hid (∀ c, Below X'.heap.size X' (X'.alloc (.cells c 48))) := fun c => (Below.refl _ X').alloc (Nat.le_refl _) _
      have HOW : Hid (∀ c, ROwns (X'.alloc (.cells c 48)) w.heap.size (.slice ao n0 cp) pre) := fun c => h2.kept (Kept.of_below (U := fun _ => True) (HAL.out c)) (fun _ _ => trivial)
      have HLT := hid_mk (owns_lt h2)
      obtain ⟨i0, hi, hz0, hz1, hz2⟩ := info_parts info_run
      have HI0 := hid_mk hi
      have HZ0 := hid_mk hz0
      have HZ1 := hid_mk hz1
      have HZ2 := hid_mk hz2
      clear hi hz0 hz1 hz2 h1 h2 h3 h4 h5 h6 hVV hV hlen' hG hnb hbx hOwn hseq hN hB hW0 hsW bw hbin hI2 hsX hbX hd HI
      have HNW : Hid (∀ j u, (runv x).toList[j]? = some u → (X'.alloc (.cells (runv x) 48)).cell? ((⟨X'.heap.size, 0, none⟩ : Addr).add j) = some u) := by
        intro j u hj
        have h := heap_alloc_new X' (.cells (runv x) 48)
        have e : (⟨X'.heap.size, 0, none⟩ : Addr).add j = ⟨X'.heap.size, j, none⟩ := by
          unfold Addr.add
          by_cases h0 : j = 0
          · rw [if_pos h0, h0]
          · rw [if_neg h0, Nat.zero_add]
        rw [e]
        simp only [World.cell?, h]
        simpa using hj
      unfold L2T
      unfold runv at HNW ⊢
      gi_wp2_with (gi_at_builtin; go_loud (refine wpListIn_app rfl _ _ 43 rfl w.heap.size 48 i0 (.agg #[.int .i64 0, .int .i64 0, .int .i64 0, .int .u64 0]) 4 32 Tryd.underlying43 HI0.out HZ0.out HZ1.out HZ2.out rfl (by decide) _ pre.length (pre.flatMap fun x => (runv x).toList) rfl (HOW.out _) ⟨X'.heap.size, 0, none⟩ 1 1 (runv x).toList rfl rfl HNW.out (by simp [runv, Value.oneCell']) (by decide) (by have := HLN.out; unfold maxLen; omega) (by have := HLN.out; omega) (Nat.le_trans HBW.out (by simp)) ?_); intro v' w2 h1 h2; go_loud ( obtain ⟨ao2, n2, cp2, rfl⟩ := ROwns.form (l := pre ++ [x]) (by unfold ROwns; rw [List.length_append, List.flatMap_append]; simpa using h1); have HO2 := hid_mk h1; have HG2 := hid_mk h2; have y1 : w2.cell? ⟨B + 2, 0, none⟩ = some (.slice ao n0 cp) := (World.cell?_of_block (w := X'.alloc _) (h2.kept.block (B + 2) (by have := HBB.out; simp; omega) HN3.out)).trans (((HAL.out _).cell (p := ⟨B + 2, 0, none⟩) HBB.out).trans q1); have yf : w2.frozen? ⟨B + 2, 0, none⟩ = false := unfrozen ((h2.kept.block (B + 2) (by have := HBB.out; simp; omega) HN3.out).trans (((HAL.out _).block (B + 2) HBB.out).trans HE1.out)) 0; clear h1 h2))
      have hsz := HG2.out.kept.size
      have hx1 : (X'.alloc (.cells #[.int .i64 (x.at' : Int), .int .i64 (x.n : Int), .int .i64 (x.count : Int), .int .u64 (x.tag : Int)] 48)).heap.size = X'.heap.size + 1 := by simp
      rw [hx1] at hsz
      have hBB := HBB.out
      have m2 : ¬ own (.slice ao2 n2 cp2) (B + 2) := fun h => (HG2.out.sub _ h).1.elim HN3.out (fun h => by rw [hx1] at h; omega)
      have m1 : ¬ own (.slice ao2 n2 cp2) (B + 1) := fun h => (HG2.out.sub _ h).1.elim HN4.out (fun h => by rw [hx1] at h; omega)
      have e1 := (HG2.out.kept.block (B + 2) (by rw [hx1]; omega) HN3.out).trans (((HAL.out _).block (B + 2) HBB.out).trans HE1.out)
      have e5 := (HG2.out.kept.block (B + 1) (by rw [hx1]; omega) HN4.out).trans (((HAL.out _).block (B + 1) (by omega)).trans HE5.out)
      refine ⟨fun k => own (.slice ao2 n2 cp2) k ∨ k = B + 1 ∨ k = B + 2, ⟨⟨?_, ?_, ?_, ?_, ?_⟩, ?_⟩, _, ?_, ?_, m2, m1, ?_, fun k => Iff.rfl⟩
      · exact HG2.out.kept.os.trans (HAL.out _).os
      · exact HG2.out.kept.tape.trans (HAL.out _).tape
      · exact HG2.out.kept.output.trans (HAL.out _).output
      · simp [World.setCell]
        omega
      · intro k hk hu
        have hu' : ¬ V' k := fun h => hu ((HVV.out k).2 (.inl h))
        have h2 : k ≠ B + 2 := fun e => hu' ((HH6.out k).2 (.inr (.inr e)))
        rw [Below.heap_setCell _ _ _ _ h2]
        exact (HG2.out.kept.block k (by rw [hx1]; omega) (fun h => hu' ((HH6.out k).2 (.inl h)))).trans ((HAL.out _).block k hk)
      · have hs2 : (w2.setCell ⟨B + 2, 0, none⟩ (Value.slice ao2 n2 cp2)).heap.size = w2.heap.size := by simp [World.setCell]
        rw [hs2]
        rintro k (hk | rfl | rfl)
        · obtain ⟨h1, h2⟩ := HG2.out.sub k hk
          refine ⟨?_, h2⟩
          rcases h1 with h1 | h1
          · exact .inl ((HVV.out k).2 (.inl ((HH6.out k).2 (.inl h1))))
          · exact .inr (by rw [hx1] at h1; omega)
        · exact ⟨.inl ((HVV.out _).2 (.inl ((HH6.out _).2 (.inr (.inl rfl))))), by omega⟩
        · exact ⟨.inl ((HVV.out _).2 (.inl ((HH6.out _).2 (.inr (.inr rfl))))), by omega⟩
      · rw [heap_put e1]
        simp
      · have h := World.ownsRow.kept HO2.out (w' := w2.setCell ⟨B + 2, 0, none⟩ (Value.slice ao2 n2 cp2)) (row := some (B + 2)) ⟨rfl, rfl, rfl, by simp [World.setCell], fun k _ hk => Below.heap_setCell _ _ _ _ (fun e => hk (by rw [e]))⟩ (.inr m2)
        unfold ROwns
        rw [List.length_append, List.flatMap_append]
        simpa [runv] using h
      · rw [Below.heap_setCell _ _ _ _ (show B + 1 ≠ B + 2 by omega)]
        exact e5
    · rintro D2 xs V2 X2 hD2 hS ⟨v, h1, h2, h3, h4, h5, h6⟩ hgr hnD2 hd2
      obtain ⟨ao, n0, cp, rfl⟩ := h2.form
      have c1 : X2.cell? ⟨B + 1, 0, none⟩ = some (.slice none 0 0) := by simp [World.cell?, h5]
      have c2 : X2.cell? ⟨B + 2, 0, none⟩ = some (.slice ao n0 cp) := by simp [World.cell?, h1]
      have hD2' : X2.heap[D]? = some (.deferred (some [])) := (hgr.kept.block D (Array.getElem?_eq_some_iff.1 hd).1 (by omega)).trans hd
      have hDlt := (Array.getElem?_eq_some_iff.1 hd).1
      have HP : Hid (∀ Y, Kept (fun k => k ≠ D ∧ k ≠ D2) X2 Y → ROwns Y w.heap.size (.slice ao n0 cp) ls ∧ Below w.heap.size w Y) := by
        intro Y hY
        refine ⟨?_, ?_⟩
        · rw [← hS]
          have nD : ¬ V2 D := fun h => by
            rcases (hgr.sub _ h).1 with h | h
            · omega
            · omega
          exact h2.kept hY (fun k hk => ⟨fun e => nD (e ▸ (h6 k).2 (.inl hk)), fun e => hnD2 (e ▸ (h6 k).2 (.inl hk))⟩)
        · refine hbX.trans ((hgr.kept.below (by omega) (fun k hk h => by omega)).trans (hY.below (by have := hgr.kept.size; omega) (fun k hk => by omega)))
      clear hOwn hseq hN hB hW0 hsW bw hbin hI2 hsX hbX h1 h2 h3 h4 h5 h6 hS hgr hnD2
      gi_wp2
      gi_region
      gi_wp2
      have hne : D ≠ D2 := fun e => by subst e; omega
      have hd3 : (X2.drew.putObj D2 (.deferred none)).heap[D]? = some (.deferred (some [])) := (World.putObj_heap_other hne).trans hD2'
      refine ⟨by simp, .inl ⟨_, _, rfl, run_takeDeferred (w := X2.drew) hd2, ?_⟩⟩
      refine ⟨by simp, .inl ⟨_, _, rfl, run_takeDeferred hd3, ?_⟩⟩
      have hp := HP.out ((X2.drew.putObj D2 (.deferred none)).putObj D (.deferred none)) ⟨rfl, rfl, rfl, by rw [World.putObj_size, World.putObj_size]; exact Nat.le_refl _, fun k hk hu => (World.putObj_heap_other hu.1).trans (World.putObj_heap_other hu.2)⟩
      refine ⟨_, results_tmp2 (t := 4) (u := 5) rfl _ _ _, _, rfl, ?_, hp.2⟩
      exact hp.1
    · rintro D c pre V W _ _ h
      exact h.elim
  refine range_own (n := 3) (gf := gf) (lb := lb) rfl eg hseq (Kept.of_below bw) bw.size hOwn (fun _ => rfl)
    (L1I B) (fun c pre V X => c = .exit 0 ∧ L1I B pre V X) (L1A gf lb B) (L1I.foot B) (fun c pre V W W' h hK => ⟨h.1, L1I.foot B _ _ _ _ h.2 hK⟩) (L1A.foot gf lb B) (fun k => k = B ∨ k = B + 1 ∨ k = B + 2) ?_ i0 ?_ ?_ ?_ ?_
  · intro k hk
    exact ⟨fun h => by have := hOwn k h; omega, by omega⟩
  · clear hOwn hseq hN hB hW0 hsW bw i0 REST hbin
    intro l' m pre x V X hG hI hV
    have HX : Hid (∃ V'', Grow V X V'' (X.alloc (.cells (runv x) 48)) ∧ L1A gf lb B pre x { tmps := L1T gf lb B (.pointer (some ⟨X.heap.size, 0, none⟩)) (.agg (runv x)), defers := [] } V'' (X.alloc (.cells (runv x) 48))) := by
      have hbe : Below X.heap.size X (X.alloc (.cells (runv x) 48)) := (Below.refl _ X).alloc (Nat.le_refl _) _
      exact ⟨V, ⟨Kept.of_below hbe, fun k hk => ⟨.inl hk, by have := hV k hk; simp; omega⟩⟩, X.heap.size, V, rfl, L1I.foot B _ _ _ _ hI (Kept.of_below hbe), fun k h => h⟩
    clear hI hV hG
    unfold L1T at HX
    unfold runv at HX ⊢
    gi_wp2
    exact HX.out
  · clear hOwn hseq hN hB hW0 hsW bw i0 REST hbin
    rintro l' m pre x a' V X hG ⟨b, V', rfl, hI, hsub⟩ hV hlen'
    have HI := hid_mk hI
    obtain ⟨h1, h2, h3, h4⟩ := hI
    have q0 : X.cell? ⟨B, 0, none⟩ = some (.int .i64 0) := by simp [World.cell?, h1]
    have q1 : X.cell? ⟨B + 1, 0, none⟩ = some (.slice none 0 0) := by simp [World.cell?, h2]
    have HG : Hid (Grow V X V' X) := ⟨Kept.refl _ _, fun k hk => ⟨.inl (hsub k hk), hV k (hsub k hk)⟩⟩
    clear h1 h2 h3 h4 hV hsub
    unfold L1T
    gi_wp2
    exact ⟨_, HG.out, rfl, HI.out⟩
  · rintro D xs V X hD hS hI hgr hnD hd
    exact REST D V xs X (by omega) hI hgr.kept hd
  · rintro D c pre V X hD hSp ⟨rfl, hI⟩ hgr hnD hd
    exact wpIn_exit (REST D V pre X (by omega) hI hgr.kept hd)
end Go.Proofs.YtcpdnalmoaojlaaDoor
