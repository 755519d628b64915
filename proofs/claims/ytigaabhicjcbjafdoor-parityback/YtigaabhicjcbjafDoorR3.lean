/-
  What the texts of the program's own Mend and Find need of R2 and R3, with none of the document's own functions (for a seat that has none; it is saved there as R3).
-/
import Derived.Test.YtigaabhicjcbjafDoorM2
import Derived.Deep.QuietTactic
import Derived.BigQuiet
namespace Go.Proofs.YtigaabhicjcbjafDoor
open Go.ChangeShapes Go.WideShapes Go.ChangeAt Go.RowKit
set_option linter.unusedVariables false

theorem drewN_below (B : Nat) (w : World) (n : Nat) : Below B w (w.drewN n) := ⟨rfl, rfl, rfl, Nat.le_refl _, fun _ _ => rfl⟩
theorem drew_below (B : Nat) (w : World) : Below B w w.drew := Below.drew (Below.refl _ _)
theorem Rd.byte {n₀ : Nat} {w : World} {ul : Option Addr} {n uc : Nat} {l : List UInt8} (h : Rd n₀ w (.slice ul n uc) l) (k : Nat) (hk : k < l.length) : ∃ b off, ul = some ⟨b, off, none⟩ ∧ b < n₀ ∧ w.cell? ⟨b, off + k, none⟩ = some (.int .u8 ((at0 l k).toNat : Int)) := by
  rcases h with ⟨_, rfl⟩ | ⟨b, off, cp, e, hb, hc⟩
  · simp at hk
  · simp at e
    exact ⟨b, off, e.1, hb, by rw [at0_lt hk]; exact hc k hk⟩
theorem szOf_snoc (L : List (List UInt8)) (b : List UInt8) : szOf (L ++ [b]) = if szOf L = 0 then b.length else szOf L := by
  rw [szOf_append]
  simp only [szOf]
  by_cases h : b.length = 0
  · simp [h]
  · simp [h]
theorem lostN_snoc (L : List (List UInt8)) (b : List UInt8) : lostN (L ++ [b]) = lostN L + (if b.length = 0 then 1 else 0) := by
  rw [lostN_append]
  unfold lostN
  simp only [gaps]
  split <;> rfl
/-- What the document's size answers. -/
def rsz (L : List (List UInt8)) (data : Int) : Int := haveI := decEven L; if Even L ∧ 1 ≤ data ∧ data ≤ 16 then (szOf L : Int) else -1
theorem szOf_take {L : List (List UInt8)} {k : Nat} (h : szOf (L.take k) ≠ 0) : szOf L = szOf (L.take k) := by
  conv => lhs; rw [← List.take_append_drop k L, szOf_append, if_neg h]
/-- Bytes that lie in a block of the call's own, whose frozen part is as p says. -/
def ElP (p : Nat × Nat → Prop) (w : World) (base : Nat) (v : Value) (l : List UInt8) : Prop := (v = .slice none 0 0 ∧ l = []) ∨ ∃ b off cp, v = .slice (some ⟨b, off, none⟩) l.length cp ∧ base ≤ b ∧ BytesAt w b off l ∧ ∃ cur fz, w.heap[b]? = some (.cells cur 5 fz) ∧ p fz
theorem ElP.mono {p q : Nat × Nat → Prop} {w : World} {base : Nat} {v : Value} {l : List UInt8} (h : ElP p w base v l) (hq : ∀ z, p z → q z) : ElP q w base v l := by
  rcases h with h | ⟨b, off, cp, h1, h2, h3, cur, fz, h4, h5⟩
  · exact .inl h
  · exact .inr ⟨b, off, cp, h1, h2, h3, cur, fz, h4, hq _ h5⟩
theorem ElP.keep {p : Nat × Nat → Prop} {w w' : World} {base : Nat} {v : Value} {l : List UInt8} (h : ElP p w base v l) (hk : ∀ (b : Nat) (cur : Array Value) (fz : Nat × Nat), w.heap[b]? = some (Obj.cells cur 5 fz) → p fz → w'.heap[b]? = w.heap[b]?) : ElP p w' base v l := by
  rcases h with h | ⟨b, off, cp, h1, h2, h3, cur, fz, h4, h5⟩
  · exact .inl h
  · have e := hk b cur fz h4 h5
    exact .inr ⟨b, off, cp, h1, h2, fun i hi => (World.cell?_of_block (a := ⟨b, off + i, none⟩) e).trans (h3 i hi), cur, fz, e.trans h4, h5⟩
theorem ElP.below {p : Nat × Nat → Prop} {w w' : World} {base : Nat} {v : Value} {l : List UInt8} (h : ElP p w base v l) (hb : Below w.heap.size w w') : ElP p w' base v l := h.keep (fun b cur fz e _ => hb.block b (Array.getElem?_eq_some_iff.1 e).1)
theorem SOwns.ne5 {w : World} {base b : Nat} {v : Value} {l : List Value} {cur : Array Value} {fz : Nat × Nat} (h : SOwns w base v l) (hp : w.heap[b]? = some (.cells cur 5 fz)) : v.ownBlock ≠ some b := by
  intro e
  rcases h.2 with ⟨rfl, _⟩ | ⟨g, c, cur', rfl, _, h5, _⟩
  · simp [Value.ownBlock] at e
  · simp [Value.ownBlock] at e
    subst e
    rw [hp] at h5
    cases h5
theorem ElP.other {p : Nat × Nat → Prop} {w w' : World} {base base' : Nat} {v x : Value} {l : List UInt8} {vs : List Value} (h : ElP p w base v l) (hx : SOwns w base' x vs) (hg : w.grownBy w' x.ownBlock) : ElP p w' base v l :=
  h.keep (fun b cur fz e _ => hg.block b (Array.getElem?_eq_some_iff.1 e).1 (Ne.symm (hx.ne5 e)))
theorem ElP.rdR {p : Nat × Nat → Prop} {w : World} {base : Nat} {v : Value} {l : List UInt8} (h : ElP p w base v l) : RdS (fun x => base ≤ x ∧ x < w.heap.size) w v l := by
  rcases h with h | ⟨b, off, cp, h1, h2, h3, cur, fz, h4, h5⟩
  · exact .inl h
  · exact .inr ⟨b, off, cp, h1, ⟨h2, (Array.getElem?_eq_some_iff.1 h4).1⟩, h3⟩
theorem ElP.rd {p : Nat × Nat → Prop} {w : World} {base : Nat} {v : Value} {l : List UInt8} (h : ElP p w base v l) : Rd w.heap.size w v l := by
  rcases h with h | ⟨b, off, cp, h1, h2, h3, cur, fz, h4, h5⟩
  · exact .inl h
  · exact .inr ⟨b, off, cp, h1, (Array.getElem?_eq_some_iff.1 h4).1, h3⟩
theorem Owns.el {w : World} {base : Nat} {v : Value} {l : List UInt8} (h : Owns w base v l) : ElP (fun _ => True) w base v l := by
  obtain ⟨ao, cp, rfl⟩ := h.shape
  cases ao with
  | none => obtain ⟨rfl, _, rfl⟩ := h.none; exact .inl ⟨rfl, rfl⟩
  | some a =>
    obtain ⟨g, rfl, _, hb, hg, _⟩ := h.some
    refine .inr ⟨g, 0, cp, rfl, hb, h.at, ?_⟩
    rcases h.2 with ⟨h2, _⟩ | ⟨g', c, cur, h3, h4, h5, _⟩
    · cases h2
    · simp at h3
      obtain ⟨rfl, _⟩ := h3
      exact ⟨cur, _, h5, trivial⟩
/-- A list of lists of bytes that the call has made, each of them too. -/
def Lst (p : Nat × Nat → Prop) (w : World) (base : Nat) (x : Value) (M : List (List UInt8)) : Prop := ∃ vs : List Value, SOwns w base x vs ∧ vs.length = M.length ∧ ∀ i (h1 : i < vs.length) (h2 : i < M.length), ElP p w base vs[i] M[i]
abbrev Own2 (w : World) (base : Nat) (x : Value) (M : List (List UInt8)) : Prop := Lst (fun _ => True) w base x M
theorem Lst.nil (p : Nat × Nat → Prop) (w : World) (base : Nat) : Lst p w base (.slice none 0 0) [] := ⟨[], SOwns.nil _ _, rfl, fun i h => by simp at h⟩
theorem Lst.shape {p : Nat × Nat → Prop} {w : World} {base : Nat} {x : Value} {M : List (List UInt8)} (h : Lst p w base x M) : ∃ ao cp, x = .slice ao M.length cp := by
  obtain ⟨vs, h1, h2, _⟩ := h
  rw [← h2]; exact h1.shape
theorem Lst.below {p : Nat × Nat → Prop} {w w' : World} {base : Nat} {x : Value} {M : List (List UInt8)} (h : Lst p w base x M) (hb : Below w.heap.size w w') : Lst p w' base x M := by
  obtain ⟨vs, h1, h2, h3⟩ := h
  exact ⟨vs, h1.below hb, h2, fun i a b => (h3 i a b).below hb⟩
theorem Lst.pcsR {p : Nat × Nat → Prop} {w : World} {base : Nat} {x : Value} {M : List (List UInt8)} (h : Lst p w base x M) : PcsR base w.heap.size w x M := by
  obtain ⟨vs, h1, h2, h3⟩ := h
  exact sowns_pcsR h1 h2 fun i a b => (h3 i a b).rdR
theorem Lst.pcs {p : Nat × Nat → Prop} {w : World} {base : Nat} {x : Value} {M : List (List UInt8)} (h : Lst p w base x M) : Pcs w.heap.size w x M := h.pcsR.pcs (Nat.le_refl _)
/-- 'append(out, b)' as a law. -/
theorem wpList_add2 (p : Nat × Nat → Prop) (T : TypeId) (hT : Tryd.prog.underlying T = some (.slice 23)) {w : World} {ops : Array Oper} {rest : List Oper} {o : Oper} {a : Act} {Q : Exit → Act → World → Prop} (hgd : o.guard = none) (s x : Operand)
    (ho : o.op = .call { callee := .builtin .append, args := #[s, x], argTypes := #[T, T] }) (base : Nat) (v : Value) (M : List (List UInt8)) (hs : a.eval s = v) (W : World) (ul : Option Addr) (un uc : Nat) (l : List UInt8) (hw : w = W.alloc (.cells #[.slice ul un uc] 23)) (hown : Lst p W base v M) (hl : ElP p W base (.slice ul un uc) l)
    (b : Nat) (hb' : b = W.heap.size) (hx : a.eval x = .slice (some ⟨b, 0, none⟩) 1 1) (hb : M.length + 1 ≤ 1000000000) (hbase : base ≤ W.heap.size)
    (h : ∀ v' w', Lst p w' base v' (M ++ [l]) → Below base W w' → W.grownBy w' v.ownBlock → wpList Tryd.prog ops Q rest (a.put o.dst v') w') : wpList Tryd.prog ops Q (o :: rest) a w := by
  obtain ⟨vs, h1, h2, h3⟩ := hown
  refine wpList_addS T hT hgd s x ho base v vs hs W ul un uc hw h1 b hb' hx (by omega) hbase ?_
  intro v' w' g1 g2 g3
  refine h v' w' ⟨vs ++ [.slice ul un uc], g1, by simp [h2], fun i a b => ?_⟩ g3 g2
  by_cases hi : i < vs.length
  · rw [List.getElem_append_left hi, List.getElem_append_left (by omega)]
    exact (h3 i hi (by omega)).other h1 g2
  · have hi' : i = vs.length := by simp at a; omega
    subst hi'
    rw [List.getElem_append_right (by omega), List.getElem_append_right (by omega)]
    simp only [Nat.sub_self, h2, List.getElem_cons_zero]
    exact hl.other h1 g2
/-- The sum of a column, plain or weighted. -/
def colX (k : Nat) (L : List (List UInt8)) (i : Nat) : UInt8 := if k = 1 then colP L i else colQ 0 L i
def mkL (L : List (List UInt8)) (k : Nat) : List (List UInt8) := (List.range k).map (fun j => vec (szOf L) (colX (j + 1) L))
theorem mkL_succ (L : List (List UInt8)) (k : Nat) : mkL L (k + 1) = mkL L k ++ [vec (szOf L) (colX (k + 1) L)] := by simp [mkL, List.range_succ]
theorem mkL_length (L : List (List UInt8)) (k : Nat) : (mkL L k).length = k := by simp [mkL]
theorem mkL_make (L : List (List UInt8)) (level : Nat) (h : level ≤ 2) : mkL L level = makeL L (level : Int) := by
  obtain rfl | rfl | rfl : level = 0 ∨ level = 1 ∨ level = 2 := by omega
  · rfl
  · rfl
  · rfl
theorem pmPost_bad {err c : Int} {M : List (List UInt8)} {w w' : World} (h : err = c) (hc : c ≠ 0) (hb : Below w.heap.size w w') : PMPost err M w (.returned (.tuple #[.slice none 0 0, .int .i64 c])) w' :=
  ⟨.slice none 0 0, by rw [h], by rw [h, if_neg hc]; exact .inl ⟨rfl, rfl⟩, hb⟩
theorem no_lost {L : List (List UInt8)} (h : lostN L = 0) : ∀ b ∈ L, b.length ≠ 0 := by
  intro b hb h0
  obtain ⟨j, hj, rfl⟩ := List.getElem_of_mem hb
  have := (mem_gaps 0 L j).2 ⟨j, hj, by omega, h0⟩
  unfold lostN at h
  rw [List.eq_nil_of_length_eq_zero h] at this
  cases this
theorem Owns.mono {w : World} {base base' : Nat} {v : Value} {l : List UInt8} (h : Owns w base v l) (hb : base' ≤ base) : Owns w base' v l :=
  ⟨h.1, by rcases h.2 with h | ⟨g, c, cur, h4, h5, h6⟩; exact .inl h; exact .inr ⟨g, c, cur, h4, by omega, h6⟩⟩
end Go.Proofs.YtigaabhicjcbjafDoor
