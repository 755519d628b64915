/-
  Lists of slices that the call has made; the further pieces.
-/
import Derived.Test.YtigaabhicjcbjabDoorW2
namespace Go.Proofs.YtigaabhicjcbjabDoor
open Go.ChangeShapes Go.WideShapes Go.ChangeAt Go.RowKit
set_option linter.unusedVariables false

theorem Tryd.info22' : (Tryd.prog.info? 22).map (fun i => (i.zero, i.size, i.bytes)) = some (some (.slice none 0 0), 1, 24) := by kernel_rfl
/-- A slice of slices that the call has made. -/
def SOwns (w : World) (base : Nat) (v : Value) (l : List Value) : Prop := w.ownsRow base 22 1 v l.length l
def isSlice (v : Value) : Prop := ∃ ao n c, v = .slice ao n c
theorem SOwns.block {w : World} {base : Nat} {v : Value} {l : List Value} (h : SOwns w base v l) : ∀ k, v.ownBlock = some k → base ≤ k := by
  intro k hk
  obtain ⟨_, h2⟩ := h
  rcases h2 with ⟨rfl, _⟩ | ⟨g, c, cur, rfl, hg, _⟩
  · simp [Value.ownBlock] at hk
  · simp [Value.ownBlock] at hk; omega
theorem SOwns.shape {w : World} {base : Nat} {v : Value} {l : List Value} (h : SOwns w base v l) : ∃ ao cp, v = .slice ao l.length cp := by
  rcases h.2 with ⟨rfl, hn⟩ | ⟨g, c, cur, h3, _⟩
  · exact ⟨none, 0, by rw [hn]⟩
  · exact ⟨_, _, h3⟩
theorem SOwns.get {w : World} {base : Nat} {ao : Option Addr} {n cp : Nat} {l : List Value} (h : SOwns w base (.slice ao n cp) l) (k : Nat) (hk : k < l.length) : ∃ g, ao = some ⟨g, 0, none⟩ ∧ base ≤ g ∧ g < w.heap.size ∧ l.length ≤ cp ∧ w.cell? ⟨g, k, none⟩ = some l[k] := by
  rcases h.2 with ⟨_, hn⟩ | ⟨g, c, cur, h3, hb, h5, h6, h7, h8, h9⟩
  · omega
  · simp at h3
    have e : (cur.toList.take (l.length * 1))[k]? = some l[k] := by rw [h9]; simp [hk]
    rw [List.getElem?_take_of_lt (by omega)] at e
    have e' : cur[k]? = some l[k] := by simpa using e
    exact ⟨g, h3.1, hb, (Array.getElem?_eq_some_iff.1 h5).1, by rw [h3.2.2]; exact h6, by simp [World.cell?, h5, e']⟩
theorem SOwns.below {w w' : World} {base : Nat} {v : Value} {l : List Value} (h : SOwns w base v l) (hb : Below w.heap.size w w') : SOwns w' base v l := by
  refine ⟨h.1, ?_⟩
  rcases h.2 with hn | ⟨g, c, cur, h3, h4, h5, h6⟩
  · exact .inl hn
  · exact .inr ⟨g, c, cur, h3, h4, by rw [hb.block g (Array.getElem?_eq_some_iff.1 h5).1]; exact h5, h6⟩
theorem SOwns.grown {w w' : World} {base B : Nat} {v : Value} {l : List Value} (h : SOwns w base v l) (hg : w.grownBy w' (some B)) (hne : v.ownBlock ≠ some B) : SOwns w' base v l := by
  refine ⟨h.1, ?_⟩
  rcases h.2 with hn | ⟨g, c, cur, h3, h4, h5, h6⟩
  · exact .inl hn
  · refine .inr ⟨g, c, cur, h3, h4, ?_, h6⟩
    rw [hg.block g (Array.getElem?_eq_some_iff.1 h5).1 (by rw [h3] at hne; exact hne)]; exact h5
/-- Only owned rows turn. -/
theorem SOwns.nil (w : World) (base : Nat) : SOwns w base (.slice none 0 0) [] := World.ownsRow_nil _ _ _ _
/-- 'append(out, x)' as a law. -/
theorem wpList_addS (T : TypeId) (hT : Tryd.prog.underlying T = some (.slice 22)) {w : World} {ops : Array Oper} {rest : List Oper} {o : Oper} {a : Act} {Q : Exit → Act → World → Prop} (hgd : o.guard = none) (s x : Operand)
    (ho : o.op = .call { callee := .builtin .append, args := #[s, x], argTypes := #[T, T] }) (base : Nat) (v : Value) (l : List Value) (hs : a.eval s = v) (W : World) (ul : Option Addr) (un uc : Nat) (hw : w = W.alloc (.cells #[.slice ul un uc] 22)) (hown : SOwns W base v l)
    (b : Nat) (hb' : b = W.heap.size) (hx : a.eval x = .slice (some ⟨b, 0, none⟩) 1 1) (hb : l.length + 1 ≤ 1000000000) (hbase : base ≤ W.heap.size)
    (h : ∀ v' w', SOwns w' base v' (l ++ [.slice ul un uc]) → W.grownBy w' v.ownBlock → Below base W w' → wpList Tryd.prog ops Q rest (a.put o.dst v') w') : wpList Tryd.prog ops Q (o :: rest) a w := by
  subst hw hb'
  obtain ⟨i0, hi, hz0, hz1, hz2⟩ := info_parts Tryd.info22'
  have ho' : SOwns (W.alloc (.cells #[.slice ul un uc] 22)) base v l := hown.below ((Below.refl _ _).alloc (Nat.le_refl _) _)
  refine wpList_append_own _ hgd s x T ho base 22 i0 (.slice none 0 0) 1 24 hT hi hz0 hz1 hz2 rfl (by decide) v l.length l hs ho' ⟨W.heap.size, 0, none⟩ 1 1 [.slice ul un uc] hx rfl ?_ (by intro u hu; simp at hu; subst hu; rfl) (by unfold maxLen; omega) (by omega) (by simp; omega) ?_
  · intro j u hj
    obtain rfl : j = 0 := by
      have := (List.getElem?_eq_some_iff.1 hj).1
      simpa using this
    simp at hj
    subst hj
    rw [add_at]
    simp
  intro v' w' h1 h2 h3
  have hg0 := World.grownBy_alloc W (.cells #[.slice ul un uc] 22) v.ownBlock
  refine h v' w' ?_ ⟨h2.os.trans hg0.os, h2.tape.trans hg0.tape, h2.output.trans hg0.output, Nat.le_trans hg0.size h2.size, fun j hj hne => (h2.block j (Nat.lt_of_lt_of_le hj hg0.size) hne).trans (hg0.block j hj hne)⟩ (((Below.refl base W).alloc hbase _).trans ((Below.refl base _).grown h2 (by simp; omega) ho'.block))
  unfold SOwns
  rw [List.length_append]
  exact h1
/-- A tally as a value. -/
abbrev tv (B sz : Nat) : Value := .slice (some ⟨B, 0, none⟩) sz sz
theorem made_0 (v : Value) (w : World) : Calls Tryd.prog 45 #[v, .int .i64 0] w fun e w' => e = .returned (.slice none 0 0) ∧ w' = w := by
  go_enter Tryd.func45, Tryd.ntmps45
  go_wp2
  go_ret
  exact ⟨rfl, rfl⟩
def Made1 (w : World) (sz : Nat) (f : Nat → UInt8) (e : Ending) (w' : World) : Prop := ∃ v B, e = .returned v ∧ SOwns w' w.heap.size v [tv B sz] ∧ w.heap.size ≤ B ∧ Part w' B sz sz (vec sz f) ∧ Below w.heap.size w w'
set_option maxRecDepth 100000 in
theorem made_1 (L : List (List UInt8)) (v : Value) (w : World) (hl : L.length ≤ 1000000) (hv : Pcs w.heap.size w v L) (he : Even L) : Calls Tryd.prog 45 #[v, .int .i64 1] w (Made1 w (szOf L) (colP L)) := by
  have HS := hid_mk (size_any L w.heap.size v w (by omega) hv)
  have HP := hid_mk (plain_any L w.heap.size (szOf L) v w hl he.2.2 (Nat.le_refl _) hv he.1)
  obtain ⟨ao, cp, rfl⟩ := hv.shape
  obtain ⟨sz, hsz⟩ : ∃ sz, sz = szOf L := ⟨_, rfl⟩
  rw [← hsz] at HS HP ⊢
  clear hv he hsz
  go_enter Tryd.func45, Tryd.ntmps45
  go_wp2_with fail
  refine HS.out.mono ?_
  rintro e w1 ⟨rfl, rfl⟩
  go_wp2_with fail
  refine HP.out.mono ?_
  rintro e w2 ⟨B, rfl, hB, hp2, hb2⟩
  have HP2 := hid_mk hp2
  have HB2 := hid_mk hb2
  clear hp2 hb2 HS HP
  go_wp2_with (at_builtin; refine wpList_addS 68 Tryd.underlying68 rfl _ _ rfl (B + 1) _ [] rfl w2 _ _ _ rfl (SOwns.nil _ _) _ rfl rfl (by simp) HP2.out.lt ?_; intro v' w3 h1 h2 h3; have H1 := hid_mk h1; have H3 := hid_mk h3; clear h1 h2 h3)
  go_ret
  refine ⟨v', B, rfl, ?_, hB, HP2.out.below H3.out (by omega), HB2.out.trans (H3.out.mono (by omega))⟩
  exact ⟨H1.out.1, by rcases H1.out.2 with h | ⟨g, c, cur, h4, h5, h6⟩; exact .inl h; exact .inr ⟨g, c, cur, h4, by omega, h6⟩⟩
theorem SOwns.ne_part {w : World} {base B cap n : Nat} {v : Value} {l : List Value} {d : List UInt8} (h : SOwns w base v l) (hp : Part w B cap n d) : v.ownBlock ≠ some B := by
  intro e
  obtain ⟨cur, h1, _⟩ := hp
  rcases h.2 with ⟨rfl, _⟩ | ⟨g, c, cur', rfl, _, h5, _⟩
  · simp [Value.ownBlock] at e
  · simp [Value.ownBlock] at e
    subst e
    rw [h1] at h5
    cases h5
theorem SOwns.mono {w : World} {base base' : Nat} {v : Value} {l : List Value} (h : SOwns w base v l) (hb : base' ≤ base) : SOwns w base' v l :=
  ⟨h.1, by rcases h.2 with h | ⟨g, c, cur, h4, h5, h6⟩; exact .inl h; exact .inr ⟨g, c, cur, h4, by omega, h6⟩⟩
theorem SOwns.old {w : World} {base k : Nat} {v : Value} {l : List Value} (h : SOwns w base v l) (hk : v.ownBlock = some k) : k < w.heap.size := by
  rcases h.2 with ⟨rfl, _⟩ | ⟨g, c, cur', rfl, _, h5, _⟩
  · simp [Value.ownBlock] at hk
  · simp [Value.ownBlock] at hk
    subst hk
    exact (Array.getElem?_eq_some_iff.1 h5).1
theorem Part.own {w w' : World} {B cap n : Nat} {d : List UInt8} {v : Value} (h : Part w B cap n d) (hg : w.grownBy w' v.ownBlock) (hne : v.ownBlock ≠ some B) : Part w' B cap n d := h.keep (hg.block B h.lt (Ne.symm hne))
def Made2 (w : World) (sz : Nat) (f g : Nat → UInt8) (e : Ending) (w' : World) : Prop := ∃ v B C, e = .returned v ∧ SOwns w' w.heap.size v [tv B sz, tv C sz] ∧ w.heap.size ≤ B ∧ B < C ∧ Part w' B sz sz (vec sz f) ∧ Part w' C sz sz (vec sz g) ∧ Below w.heap.size w w'
set_option maxRecDepth 100000 in
theorem made_2 (L : List (List UInt8)) (v : Value) (w : World) (hl : L.length ≤ 1000000) (hv : Pcs w.heap.size w v L) (he : Even L) : Calls Tryd.prog 45 #[v, .int .i64 2] w (Made2 w (szOf L) (colP L) (colQ 0 L)) := by
  have HS := hid_mk (size_any L w.heap.size v w (by omega) hv)
  have HP := hid_mk (plain_any L w.heap.size (szOf L) v w hl he.2.2 (Nat.le_refl _) hv he.1)
  have HV := hid_mk hv
  have HE := hid_mk he
  obtain ⟨ao, cp, rfl⟩ := hv.shape
  obtain ⟨sz, hsz⟩ : ∃ sz, sz = szOf L := ⟨_, rfl⟩
  have HZ := hid_mk hsz
  rw [← hsz] at HS HP ⊢
  clear hv he hsz
  go_enter Tryd.func45, Tryd.ntmps45
  go_wp2_with fail
  refine HS.out.mono ?_
  rintro e w1 ⟨rfl, rfl⟩
  go_wp2_with fail
  refine HP.out.mono ?_
  rintro e w2 ⟨B, rfl, hB, hp2, hb2⟩
  have HP2 := hid_mk hp2
  have HB2 := hid_mk hb2
  clear hp2 hb2 HS HP
  go_wp2_with (at_builtin; refine wpList_addS 68 Tryd.underlying68 rfl _ _ rfl (B + 1) _ [] rfl w2 _ _ _ rfl (SOwns.nil _ _) _ rfl rfl (by simp) HP2.out.lt ?_; intro v' w3 h1 h2 h3; obtain ⟨vo, vc, rfl⟩ := h1.shape; have H1 := hid_mk h1; have H3 := hid_mk h3; clear h1 h2 h3)
  have HB3 : Hid (Below w1.heap.size w1 w3) := HB2.out.trans (H3.out.mono (by omega))
  have HV3 : Hid (Pcs w3.heap.size w3 (.slice ao L.length cp) L) := (HV.out.below HB3.out (Nat.le_refl _)).mono HB3.out.size
  have HP3 : Hid (Part w3 B sz sz (vec sz (colP L))) := HP2.out.below H3.out (by omega)
  have HS := hid_mk (size_any L w3.heap.size _ w3 (by omega) HV3.out)
  have HW := hid_mk (weighted_any L (szOf L) _ w3 hl HE.out.2.2 HV3.out HE.out.1)
  rw [← HZ.out] at HS HW
  clear HP2 HB2
  refine HS.out.mono ?_
  rintro e w4 ⟨rfl, rfl⟩
  go_wp2_with fail
  refine HW.out.mono ?_
  rintro e w5 ⟨C, rfl, hC, hp5, hb5⟩
  have hBC := HP3.out.lt
  have HP5 := hid_mk hp5
  have HPB := hid_mk (HP3.out.below hb5 hBC)
  have HO5 := hid_mk (H1.out.below hb5)
  have HB5 := hid_mk (HB3.out.trans (hb5.mono HB3.out.size))
  have hC5 := hp5.lt
  clear hp5 hb5 HS HW HP3 HV3 HB3
  go_wp2_with (at_builtin; refine wpList_addS 68 Tryd.underlying68 rfl _ _ rfl (B + 1) _ [tv B sz] rfl w5 _ _ _ rfl HO5.out _ rfl rfl (by simp) (by omega) ?_; intro v' w6 h1 h2 h3; have H6 := hid_mk h1; have HG6 := hid_mk h2; have HB6 := hid_mk h3; clear h1 h2 h3)
  go_ret
  exact ⟨v', B, C, rfl, H6.out.mono (by omega), hB, by omega, HPB.out.own HG6.out (HO5.out.ne_part HPB.out), HP5.out.own HG6.out (HO5.out.ne_part HP5.out), HB5.out.trans (HB6.out.mono (by omega))⟩
end Go.Proofs.YtigaabhicjcbjabDoor
