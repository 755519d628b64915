/-
  The document's own Make.
-/
import Derived.Test.YtigaabhicjcbjabDoorR2
namespace Go.Proofs.YtigaabhicjcbjabDoor
open Go.ChangeShapes Go.WideShapes Go.ChangeAt Go.RowKit
set_option linter.unusedVariables false

/-- Bytes that lie in a block of the call's own, whose frozen part is as p says. -/
def ElP (p : Nat × Nat → Prop) (w : World) (base : Nat) (v : Value) (l : List UInt8) : Prop := (v = .slice none 0 0 ∧ l = []) ∨ ∃ b off cp, v = .slice (some ⟨b, off, none⟩) l.length cp ∧ base ≤ b ∧ BytesAt w b off l ∧ ∃ cur fz, w.heap[b]? = some (.cells cur 5 fz) ∧ p fz
theorem ElP.mono {p q : Nat × Nat → Prop} {w : World} {base : Nat} {v : Value} {l : List UInt8} (h : ElP p w base v l) (hq : ∀ z, p z → q z) : ElP q w base v l := by
  rcases h with h | ⟨b, off, cp, h1, h2, h3, cur, fz, h4, h5⟩
  · exact .inl h
  · exact .inr ⟨b, off, cp, h1, h2, h3, cur, fz, h4, hq _ h5⟩
theorem ElP.keep {p : Nat × Nat → Prop} {w w' : World} {base : Nat} {v : Value} {l : List UInt8} (h : ElP p w base v l) (hk : ∀ (b : Nat) (cur : Array Value) (fz : Nat × Nat), w.heap[b]? = some (Obj.cells cur 5 fz) → p fz → w'.heap[b]? = w.heap[b]?) : ElP p w' base v l := by
  rcases h with h | ⟨b, off, cp, h1, h2, h3, cur, fz, h4, h5⟩
  · exact .inl h
  · have e := hk b cur fz h4 h5
    exact .inr ⟨b, off, cp, h1, h2, fun i hi => (World.cell?_of_block (a := ⟨b, off + i, none⟩) e).trans (h3 i hi), cur, fz, e.trans h4, h5⟩
theorem ElP.below {p : Nat × Nat → Prop} {w w' : World} {base : Nat} {v : Value} {l : List UInt8} (h : ElP p w base v l) (hb : Below w.heap.size w w') : ElP p w' base v l := h.keep (fun b cur fz e _ => hb.block b (Array.getElem?_eq_some_iff.1 e).1)
theorem SOwns.ne5 {w : World} {base b : Nat} {v : Value} {l : List Value} {cur : Array Value} {fz : Nat × Nat} (h : SOwns w base v l) (hp : w.heap[b]? = some (.cells cur 5 fz)) : v.ownBlock ≠ some b := by
  intro e
  rcases h.2 with ⟨rfl, _⟩ | ⟨g, c, cur', rfl, _, h5, _⟩
  · simp [Value.ownBlock] at e
  · simp [Value.ownBlock] at e
    subst e
    rw [hp] at h5
    cases h5
theorem ElP.other {p : Nat × Nat → Prop} {w w' : World} {base base' : Nat} {v x : Value} {l : List UInt8} {vs : List Value} (h : ElP p w base v l) (hx : SOwns w base' x vs) (hg : w.grownBy w' x.ownBlock) : ElP p w' base v l :=
  h.keep (fun b cur fz e _ => hg.block b (Array.getElem?_eq_some_iff.1 e).1 (Ne.symm (hx.ne5 e)))
theorem ElP.rdR {p : Nat × Nat → Prop} {w : World} {base : Nat} {v : Value} {l : List UInt8} (h : ElP p w base v l) : RdS (fun x => base ≤ x ∧ x < w.heap.size) w v l := by
  rcases h with h | ⟨b, off, cp, h1, h2, h3, cur, fz, h4, h5⟩
  · exact .inl h
  · exact .inr ⟨b, off, cp, h1, ⟨h2, (Array.getElem?_eq_some_iff.1 h4).1⟩, h3⟩
theorem ElP.rd {p : Nat × Nat → Prop} {w : World} {base : Nat} {v : Value} {l : List UInt8} (h : ElP p w base v l) : Rd w.heap.size w v l := by
  rcases h with h | ⟨b, off, cp, h1, h2, h3, cur, fz, h4, h5⟩
  · exact .inl h
  · exact .inr ⟨b, off, cp, h1, (Array.getElem?_eq_some_iff.1 h4).1, h3⟩
theorem Owns.el {w : World} {base : Nat} {v : Value} {l : List UInt8} (h : Owns w base v l) : ElP (fun _ => True) w base v l := by
  obtain ⟨ao, cp, rfl⟩ := h.shape
  cases ao with
  | none => obtain ⟨rfl, _, rfl⟩ := h.none; exact .inl ⟨rfl, rfl⟩
  | some a =>
    obtain ⟨g, rfl, _, hb, hg, _⟩ := h.some
    refine .inr ⟨g, 0, cp, rfl, hb, h.at, ?_⟩
    rcases h.2 with ⟨h2, _⟩ | ⟨g', c, cur, h3, h4, h5, _⟩
    · cases h2
    · simp at h3
      obtain ⟨rfl, _⟩ := h3
      exact ⟨cur, _, h5, trivial⟩
/-- A list of lists of bytes that the call has made, each of them too. -/
def Lst (p : Nat × Nat → Prop) (w : World) (base : Nat) (x : Value) (M : List (List UInt8)) : Prop := ∃ vs : List Value, SOwns w base x vs ∧ vs.length = M.length ∧ ∀ i (h1 : i < vs.length) (h2 : i < M.length), ElP p w base vs[i] M[i]
abbrev Own2 (w : World) (base : Nat) (x : Value) (M : List (List UInt8)) : Prop := Lst (fun _ => True) w base x M
theorem Lst.nil (p : Nat × Nat → Prop) (w : World) (base : Nat) : Lst p w base (.slice none 0 0) [] := ⟨[], SOwns.nil _ _, rfl, fun i h => by simp at h⟩
theorem Lst.shape {p : Nat × Nat → Prop} {w : World} {base : Nat} {x : Value} {M : List (List UInt8)} (h : Lst p w base x M) : ∃ ao cp, x = .slice ao M.length cp := by
  obtain ⟨vs, h1, h2, _⟩ := h
  rw [← h2]; exact h1.shape
theorem Lst.below {p : Nat × Nat → Prop} {w w' : World} {base : Nat} {x : Value} {M : List (List UInt8)} (h : Lst p w base x M) (hb : Below w.heap.size w w') : Lst p w' base x M := by
  obtain ⟨vs, h1, h2, h3⟩ := h
  exact ⟨vs, h1.below hb, h2, fun i a b => (h3 i a b).below hb⟩
theorem Lst.pcsR {p : Nat × Nat → Prop} {w : World} {base : Nat} {x : Value} {M : List (List UInt8)} (h : Lst p w base x M) : PcsR base w.heap.size w x M := by
  obtain ⟨vs, h1, h2, h3⟩ := h
  exact sowns_pcsR h1 h2 fun i a b => (h3 i a b).rdR
theorem Lst.pcs {p : Nat × Nat → Prop} {w : World} {base : Nat} {x : Value} {M : List (List UInt8)} (h : Lst p w base x M) : Pcs w.heap.size w x M := h.pcsR.pcs (Nat.le_refl _)
/-- 'append(out, b)' as a law. -/
theorem wpList_add2 (p : Nat × Nat → Prop) (T : TypeId) (hT : Tryd.prog.underlying T = some (.slice 22)) {w : World} {ops : Array Oper} {rest : List Oper} {o : Oper} {a : Act} {Q : Exit → Act → World → Prop} (hgd : o.guard = none) (s x : Operand)
    (ho : o.op = .call { callee := .builtin .append, args := #[s, x], argTypes := #[T, T] }) (base : Nat) (v : Value) (M : List (List UInt8)) (hs : a.eval s = v) (W : World) (ul : Option Addr) (un uc : Nat) (l : List UInt8) (hw : w = W.alloc (.cells #[.slice ul un uc] 22)) (hown : Lst p W base v M) (hl : ElP p W base (.slice ul un uc) l)
    (b : Nat) (hb' : b = W.heap.size) (hx : a.eval x = .slice (some ⟨b, 0, none⟩) 1 1) (hb : M.length + 1 ≤ 1000000000) (hbase : base ≤ W.heap.size)
    (h : ∀ v' w', Lst p w' base v' (M ++ [l]) → Below base W w' → W.grownBy w' v.ownBlock → wpList Tryd.prog ops Q rest (a.put o.dst v') w') : wpList Tryd.prog ops Q (o :: rest) a w := by
  obtain ⟨vs, h1, h2, h3⟩ := hown
  refine wpList_addS T hT hgd s x ho base v vs hs W ul un uc hw h1 b hb' hx (by omega) hbase ?_
  intro v' w' g1 g2 g3
  refine h v' w' ⟨vs ++ [.slice ul un uc], g1, by simp [h2], fun i a b => ?_⟩ g3 g2
  by_cases hi : i < vs.length
  · rw [List.getElem_append_left hi, List.getElem_append_left (by omega)]
    exact (h3 i hi (by omega)).other h1 g2
  · have hi' : i = vs.length := by simp at a; omega
    subst hi'
    rw [List.getElem_append_right (by omega), List.getElem_append_right (by omega)]
    simp only [Nat.sub_self, h2, List.getElem_cons_zero]
    exact hl.other h1 g2
/-- The sum of a column, plain or weighted. -/
def colX (k : Nat) (L : List (List UInt8)) (i : Nat) : UInt8 := if k = 1 then colP L i else colQ 0 L i
theorem extra_any (k : Nat) (L : List (List UInt8)) (n₀ i : Nat) (v : Value) (w : World) (hk : k = 1 ∨ k = 2) (hl : L.length ≤ 16) (hi : i ≤ 4096) (hn : n₀ ≤ w.heap.size) (hv : Pcs n₀ w v L) (hp : ∀ b ∈ L, i < b.length) (hp4 : ∀ b ∈ L, b.length ≤ 1000000) : Calls Tryd.prog 31 #[v, .int .i64 (i : Int), .int .i64 (k : Int)] w fun e w' => e = .returned (.int .u8 ((colX k L i).toNat : Int)) ∧ ∃ m, w' = w.drewN m := by
  rcases hk with rfl | rfl
  · exact (extra_1 L n₀ i v w (by omega) hi hv hp hp4).mono fun e w' ⟨h, hw⟩ => ⟨h, 0, by rw [hw]; rfl⟩
  · exact extra_2 L n₀ i v w hl hi hn hv hp hp4
def mkL (L : List (List UInt8)) (k : Nat) : List (List UInt8) := (List.range k).map (fun j => vec (szOf L) (colX (j + 1) L))
theorem mkL_succ (L : List (List UInt8)) (k : Nat) : mkL L (k + 1) = mkL L k ++ [vec (szOf L) (colX (k + 1) L)] := by simp [mkL, List.range_succ]
theorem mkL_length (L : List (List UInt8)) (k : Nat) : (mkL L k).length = k := by simp [mkL]
theorem mkL_make (L : List (List UInt8)) (level : Nat) (h : level ≤ 2) : mkL L level = makeL L (level : Int) := by
  obtain rfl | rfl | rfl : level = 0 ∨ level = 1 ∨ level = 2 := by omega
  · rfl
  · rfl
  · rfl
theorem pmPost_bad {err c : Int} {M : List (List UInt8)} {w w' : World} (h : err = c) (hc : c ≠ 0) (hb : Below w.heap.size w w') : PMPost err M w (.returned (.tuple #[.slice none 0 0, .int .i64 c])) w' :=
  ⟨.slice none 0 0, by rw [h], by rw [h, if_neg hc]; exact .inl ⟨rfl, rfl⟩, hb⟩
theorem no_lost {L : List (List UInt8)} (h : lostN L = 0) : ∀ b ∈ L, b.length ≠ 0 := by
  intro b hb h0
  obtain ⟨j, hj, rfl⟩ := List.getElem_of_mem hb
  have := (mem_gaps 0 L j).2 ⟨j, hj, by omega, h0⟩
  unfold lostN at h
  rw [List.eq_nil_of_length_eq_zero h] at this
  cases this
theorem Owns.mono {w : World} {base base' : Nat} {v : Value} {l : List UInt8} (h : Owns w base v l) (hb : base' ≤ base) : Owns w base' v l :=
  ⟨h.1, by rcases h.2 with h | ⟨g, c, cur, h4, h5, h6⟩; exact .inl h; exact .inr ⟨g, c, cur, h4, by omega, h6⟩⟩
set_option maxRecDepth 100000 in
set_option maxHeartbeats 1000000 in
theorem rmake_good (L : List (List UInt8)) (level : Nat) (v : Value) (w : World) (h2 : level ≤ 2) (hL : 1 ≤ L.length ∧ L.length ≤ 16) (hE : Even L) (h0 : lostN L = 0) (hv : Pcs w.heap.size w v L) : Calls Tryd.prog 19 #[v, .int .i64 (level : Int)] w fun e w' => ∃ u, e = .returned (.tuple #[u, .int .i64 0]) ∧ Own2 w' w.heap.size u (mkL L level) ∧ Below w.heap.size w w' := by
  have hp : ∀ b ∈ L, b.length = szOf L := fun b hb => by
    rcases hE.1 b hb with h | h
    · exact absurd h (no_lost h0 b hb)
    · exact h
  have hsz1 := hE.2.1
  have hsz2 := hE.2.2
  have HR := hid_mk (rsize_any L w.heap.size (L.length : Int) v w (by omega) hv (fun b hb => by rw [hp b hb]; omega))
  have HM := hid_mk (rempty_any L w.heap.size v w (by omega) hv)
  have he : rsz L (L.length : Int) = (szOf L : Int) := by unfold rsz; rw [if_pos ⟨hE, by omega, by omega⟩]
  rw [he] at HR
  rw [h0] at HM
  obtain ⟨ao, cp, rfl⟩ := hv.shape
  have HX : Hid (∀ (k i : Nat) (w' : World), k = 1 ∨ k = 2 → i < szOf L → Below w.heap.size w w' → Calls Tryd.prog 31 #[.slice ao L.length cp, .int .i64 (i : Int), .int .i64 (k : Int)] w' fun e w'' => e = .returned (.int .u8 ((colX k L i).toNat : Int)) ∧ ∃ m, w'' = w'.drewN m) := fun k i w' hk hi hb =>
    extra_any k L w.heap.size i _ w' hk hL.2 (by omega) hb.size (hv.below hb (Nat.le_refl _)) (fun b hb => by rw [hp b hb]; exact hi) (fun b hb => by rw [hp b hb]; omega)
  obtain ⟨sz, hsz⟩ : ∃ sz, sz = szOf L := ⟨_, rfl⟩
  rw [← hsz] at HR HX hsz1 hsz2
  have HZ := hid_mk hsz
  clear hv hp he hE h0 hsz hL
  go_enter Tryd.func19, Tryd.ntmps19
  go_wp2_with fail
  refine HR.out.mono ?_
  rintro e w1 ⟨rfl, rfl⟩
  go_wp2_with fail
  refine HM.out.mono ?_
  rintro e w1' ⟨rfl, rfl⟩
  clear HR HM
  go_wp2
  go_loopw [7, 8] (fun x kk wr => ∃ (xo : Option Addr) (xc k : Nat), x = .slice xo k xc ∧ kk = .int .i64 ((k : Int) + 1) ∧ k ≤ level ∧ Own2 wr w1'.heap.size (.slice xo k xc) (mkL L k) ∧ Below w1'.heap.size w1' wr) (fun _ kk _ => level + 1 - (intOf kk).toNat)
  case atStart => exact ⟨none, 0, 0, rfl, rfl, by omega, Lst.nil _ _ _, Below.refl _ _⟩
  case round =>
    obtain ⟨xo, xc, k, rfl, rfl, hk, ho, hb⟩ := hrel
    obtain ⟨V, hV⟩ : ∃ V, V = wr := ⟨_, rfl⟩
    subst hV
    have HO := hid_mk ho
    have HB := hid_mk hb
    clear ho hb
    by_cases hlt : k < level
    · obtain ⟨K, hK⟩ : ∃ K, K = k + 1 := ⟨_, rfl⟩
      have hKi : (k : Int) + 1 = (K : Int) := by omega
      have hlt' : (K : Int) ≤ (level : Int) := by omega
      have hK12 : K = 1 ∨ K = 2 := by omega
      rw [hKi]
      have HK := hid_mk hK
      have HK12 := hid_mk hK12
      have hK2 : (K : Int) ≤ 2 := by omega
      clear hK hKi hK12
      go_wp2
      go_loopw [9, 10] (fun b at' w2 => ∃ (bo : Option Addr) (bc i : Nat), b = .slice bo i bc ∧ at' = .int .i64 (i : Int) ∧ i ≤ sz ∧ Owns w2 V.heap.size (.slice bo i bc) (vec i (colX K L)) ∧ Below V.heap.size V w2) (fun _ at' _ => sz - (intOf at').toNat)
      case atStart => exact ⟨none, 0, 0, rfl, rfl, by omega, owns_nil _ _, Below.refl _ _⟩
      case round =>
        obtain ⟨w2, hw2⟩ : ∃ w2, w2 = wr := ⟨_, rfl⟩
        subst hw2
        obtain ⟨bo, bc, i, rfl, rfl, hi, hob, hb2⟩ := hrel
        have HOB := hid_mk hob
        have HB2 := hid_mk hb2
        clear hob hb2
        by_cases hil : i < sz
        · have HE := hid_mk (HX.out K i w2 HK12.out hil (HB.out.trans (HB2.out.mono HB.out.size)))
          go_wp2_with fail
          refine HE.out.mono ?_
          rintro e w3 ⟨rfl, m, hm⟩
          have HB3 : Hid (Below w2.heap.size w2 w3) := by show Below _ _ _; rw [hm]; exact drewN_below _ _ _
          clear hm HE
          obtain ⟨c, hc⟩ : ∃ c, c = colX K L i := ⟨_, rfl⟩
          rw [← hc]
          have HC := hid_mk hc
          clear hc
          have HAL : Hid (Owns (w3.alloc (.cells #[.int .u8 (c.toNat : Int)] 5)) V.heap.size (.slice bo i bc) (vec i (colX K L))) := (HOB.out.below HB3.out).below ((Below.refl _ _).alloc (Nat.le_refl _) _)
          have HBA : Hid (Below V.heap.size V (w3.alloc (.cells #[.int .u8 (c.toNat : Int)] 5))) := by
            have h := HB2.out.trans (HB3.out.mono HB2.out.size)
            exact h.alloc h.size _
          go_wp2_with (at_builtin; refine wpList_add rfl (.tmp 38) (.tmp 43) rfl V.heap.size _ (vec i (colX K L)) rfl HAL.out w3.heap.size 0 1 1 [c] rfl rfl (one_bytes w3 c _ rfl _ rfl) (by simp [vec_length]; omega) HBA.out.size ?_; intro v' w4 h1 h2 h3; obtain ⟨co, cc, rfl⟩ := h1.shape; have H4 := hid_mk h1; have HB4 := hid_mk h2; clear h1 h2 h3)
          go_roundw
          case rel =>
            refine ⟨co, cc, i + 1, by simp [vec_length], by go_num, by omega, ?_, HBA.out.trans HB4.out⟩
            have h := H4.out
            rw [HC.out, ← vec_succ] at h
            rw [vec_length] at h
            exact h
          case measure => simp [intOf]; omega
        · have his : i = sz := by omega
          subst his
          have HO2 : Hid (Own2 w2 w1'.heap.size (.slice xo k xc) (mkL L k)) := HO.out.below HB2.out
          have HOB2 : Hid (ElP (fun _ => True) w2 w1'.heap.size (.slice bo i bc) (vec i (colX K L))) := (HOB.out.mono HB.out.size).el
          have HBB : Hid (Below w1'.heap.size w1' w2) := HB.out.trans (HB2.out.mono HB.out.size)
          go_wp2_with (at_builtin; refine wpList_add2 _ 33 Tryd.underlying33 rfl _ _ rfl w1'.heap.size _ (mkL L k) rfl w2 _ _ _ (vec i (colX K L)) rfl HO2.out HOB2.out _ rfl rfl (by rw [mkL_length]; omega) HBB.out.size ?_; intro v' w4 h1 h2 h3; obtain ⟨co, cc, rfl⟩ := h1.shape; have H4 := hid_mk h1; have HB4 := hid_mk h2; clear h1 h2 h3)
          go_roundw
          case rel =>
            have h := H4.out
            rw [HK.out, HZ.out, ← mkL_succ, mkL_length] at h
            refine ⟨co, cc, k + 1, ?_, ?_, by omega, h, HBB.out.trans HB4.out⟩
            · simp [mkL_length]
            · have := HK.out; simp; omega
          case measure => have := HK.out; simp [intOf]; omega
    · have hkl : k = level := by omega
      subst hkl
      go_wp2
      go_ret2
      exact ⟨_, rfl, HO.out, HB.out⟩
end Go.Proofs.YtigaabhicjcbjabDoor
