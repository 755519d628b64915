/-
  A piece that was turned into another one: finds.
-/
import Derived.Test.YtigaabhicjcbjafDoorBc2
import Derived.Deep.QuietTactic
import Derived.BigQuiet
import Derived.BigRegion
import Derived.RegionTactic
import Derived.Deep.RegionWith
import Derived.Handy
namespace Go.Proofs.YtigaabhicjcbjafDoor
open Go.ChangeShapes Go.WideShapes Go.ChangeAt Go.RowKit
set_option linter.unusedVariables false

/-- 'append([]byte{}, x...)' as a law, x nil or not. -/
theorem wpList_addR {w : World} {ops : Array Oper} {rest : List Oper} {o : Oper} {a : Act} {Q : Exit → Act → World → Prop} (hgd : o.guard = none) (s x : Operand)
    (ho : o.op = .call { callee := .builtin .append, args := #[s, x], argTypes := #[23, 23] }) (base : Nat) (v : Value) (l : List UInt8) (hs : a.eval s = v) (hown : Owns w base v l) (hv : v ≠ .slice none 0 0)
    (xv : Value) (n₀ : Nat) (news : List UInt8) (hx : a.eval x = xv) (hxv : Rd n₀ w xv news) (hb : l.length + news.length ≤ 140737488355328) (hbase : base ≤ w.heap.size)
    (h : ∀ v' w', Owns w' base v' (l ++ news) → Below base w w' → v' ≠ .slice none 0 0 → wpList Tryd.prog ops Q rest (a.put o.dst v') w') : wpList Tryd.prog ops Q (o :: rest) a w := by
  rcases hxv with ⟨rfl, rfl⟩ | ⟨b, off, cp, rfl, _, hc⟩
  · obtain ⟨i0, hi, hz0, hz1, hz2⟩ := info_parts Tryd.info5
    refine wpList_append_own_none hgd s x 23 ho base 5 i0 1 Tryd.underlying23 hi v l.length (l.map by8) hs hown hx ?_
    exact h v w (by rw [List.append_nil]; exact hown) (Below.refl _ _) hv
  · refine wpList_add hgd s x ho base v l hs hown b off _ cp news hx rfl hc hb hbase ?_
    intro v' w' h1 h2 h3
    exact h v' w' h1 h2 (fun e => hv (h3.1 e).1)
/-- Bytes that are turned by those of a text. -/
def turnB (l t : List UInt8) (k : Nat) : List UInt8 := vec l.length (fun i => if i < k ∧ i < t.length then at0 l i ^^^ at0 t i else at0 l i)
theorem turnB_length (l t : List UInt8) (k : Nat) : (turnB l t k).length = l.length := vec_length _ _
theorem turnB_zero (l t : List UInt8) : turnB l t 0 = l := by
  unfold turnB
  conv => rhs; rw [← vec_self l]
  exact vec_congr (fun i hi => by simp)
theorem turnB_succ (l t : List UInt8) (k : Nat) (hk : k < l.length) (ht : k < t.length) : (turnB l t k).set k (at0 l k ^^^ at0 t k) = turnB l t (k + 1) := by
  unfold turnB
  rw [vec_set]
  refine vec_congr (fun i hi => ?_)
  by_cases e : i = k
  · subst e; simp [ht]
  · have : (i < k + 1 ∧ i < t.length) ↔ (i < k ∧ i < t.length) := by omega
    simp only [if_neg e, this]
theorem turnB_at (l t : List UInt8) (k : Nat) (hk : k < (turnB l t k).length) : (turnB l t k)[k] = at0 l k := by
  have h1 : k < l.length := by rw [turnB_length] at hk; exact hk
  have := vec_at (n := l.length) (f := fun i => if i < k ∧ i < t.length then at0 l i ^^^ at0 t i else at0 l i) h1
  rw [at0_lt (by rw [vec_length]; exact h1)] at this
  exact this.trans (by simp)
/-- Pieces, and what was made of them. -/
structure Made (L D : List (List UInt8)) (n sz : Nat) : Prop where
  n1 : 1 ≤ n
  n16 : n ≤ 16
  s1 : 1 ≤ sz
  s4 : sz ≤ 4096
  dl : D.length = n
  ds : ∀ b ∈ D, b.length = sz
  len : L.length = n + 2
  data : L.take n = D
  p : pOf L n = vec sz (colP D)
  q : qOf L n = vec sz (colQ 0 D)
theorem Made.all {L D : List (List UInt8)} {n sz : Nat} (h : Made L D n sz) : ∀ i (hi : i < L.length), L[i].length = sz := by
  intro i hi
  have hl := h.len
  by_cases h1 : i < n
  · have e : L[i] = D[i]'(by rw [h.dl]; exact h1) := by
      have : (L.take n)[i]'(by rw [List.length_take]; omega) = L[i] := List.getElem_take
      rw [← this]
      simp only [h.data]
    rw [e]; exact h.ds _ (List.getElem_mem _)
  · by_cases h2 : i = n
    · subst h2
      have e : pOf L i = L[i] := by unfold pOf; rw [List.getD_eq_getElem?_getD, List.getElem?_eq_getElem hi]; rfl
      rw [← e, h.p, vec_length]
    · obtain rfl : i = n + 1 := by omega
      have e : qOf L n = L[n + 1] := by unfold qOf; rw [List.getD_eq_getElem?_getD, List.getElem?_eq_getElem hi]; rfl
      rw [← e, h.q, vec_length]
theorem Made.set_good {L D : List (List UInt8)} {n sz i : Nat} (h : Made L D n sz) {b : List UInt8} (hb : b.length = sz) : GoodP (L.set i b) sz := by
  refine ⟨h.s1, h.s4, by rw [List.length_set, h.len]; have := h.n1; omega, fun x hx => ?_⟩
  obtain ⟨j, hj, rfl⟩ := List.getElem_of_mem hx
  rw [List.getElem_set]
  split
  · exact hb
  · exact h.all j (by simpa using hj)
theorem Made.part0 {L D : List (List UInt8)} {n sz i : Nat} (h : Made L D n sz) {b : List UInt8} (hb : b.length = sz) : partErr (L.set i b) 2 = 0 ∧ lostN (L.set i b) = 0 ∧ szOf (L.set i b) = sz ∧ nOf (L.set i b) 2 = n := by
  obtain ⟨e1, e2, e3⟩ := (h.set_good (i := i) hb).even
  have hl := h.len
  have h1 := h.n1
  have h2 := h.n16
  refine ⟨?_, e3, e1, ?_⟩
  · unfold partErr
    rw [if_neg (by omega), if_pos ⟨by rw [List.length_set]; omega, e2⟩]
  · unfold nOf; rw [List.length_set]; omega
theorem Made.find {L D : List (List UInt8)} {n sz i : Nat} (h : Made L D n sz) (hi : i < L.length) {b : List UInt8} (hb : b.length = sz) {r c : Int} (hF : FindAll (L.set i b) 2 (partErr (L.set i b) 2) r c) : c = 0 ∧ r = if b = L[i] then -1 else (i : Int) := by
  obtain ⟨p1, p2, p3, p4⟩ := h.part0 (i := i) hb
  have hF' := hF.2.2 p1 p2
  rw [p3, p4] at hF'
  by_cases he : b = L[i]
  · rw [if_pos he]
    have hs : L.set i b = L := by rw [he]; exact List.set_getElem_self hi
    rw [hs] at hF'
    have hw : Whole L n 2 sz := fun k hk => ⟨fun _ => by unfold dP; rw [h.data, h.p, vec_at hk, UInt8.xor_self], fun _ => by unfold dQ; rw [h.data, h.q, vec_at hk, UInt8.xor_self]⟩
    obtain ⟨a, b⟩ := hF'.1 hw
    exact ⟨b, a⟩
  · rw [if_neg he]
    have hl := h.len
    obtain ⟨a, b⟩ := turned h.n16 h.dl h.len h.data h.p h.q (by omega) hi (h.all i hi) hb he hF'
    exact ⟨b, a⟩
set_option maxRecDepth 100000 in
set_option maxHeartbeats 1000000 in
theorem finds_any (L D : List (List UInt8)) (n sz i : Nat) (v : Value) (t : ByteArray) (w : World) (hT : ErrT w) (hM : Made L D n sz) (hi : i < L.length) (ht : t.size ≤ 140737488355328) (hv : Pcs w.heap.size w v L) :
    Calls Tryd.prog 12 #[v, .int .i64 (i : Int), .string t] w fun e w' => e = .returned (.bool true) ∧ Below w.heap.size w w' := by
  obtain ⟨ao, cp, rfl⟩ := hv.shape
  obtain ⟨b, off, ul, uc, rfl, hb, hc, hr⟩ := hv.get i hi
  have hL18 : L.length ≤ 18 := by have := hM.len; have := hM.n16; omega
  have HV := hid_mk hv
  have HR := hid_mk hr
  have HMD := hid_mk hM
  have HT := hid_mk hT
  have hgz := hT.size
  have hsz : L[i].length = sz := hM.all i hi
  have hs4 := hM.s4
  have hs1 := hM.s1
  have HSZ := hid_mk hsz
  rw [hsz] at hc
  have HC := hid_mk hc
  clear hv hr hM hT hsz
  have HB0 : Hid (Below w.heap.size w (w.alloc (.cells #[] 5))) := Below.alloc (Below.refl _ _) (Nat.le_refl _) _
  have HR0 : Hid (Rd w.heap.size (w.alloc (.cells #[] 5)) (.slice ul sz uc) L[i]) := by
    have h := HR.out.below HB0.out (Nat.le_refl _)
    rw [HSZ.out] at h
    exact h
  go_enter Tryd.func12, Tryd.ntmps12
  go_wp2_with (at_builtin; refine wpList_addR rfl _ _ rfl w.heap.size _ [] rfl (owns_made w _ rfl) (fun e => by cases e) _ _ L[i] rfl HR0.out (by rw [HSZ.out]; simp; omega) HB0.out.size ?_; intro v' w1 h1 h2 h3; rw [List.nil_append] at h1; obtain ⟨xo, xc, hx⟩ := h1.shape; rw [HSZ.out] at hx; subst hx; have HO := hid_mk h1; have HB1 := hid_mk (HB0.out.trans h2); clear h1 h2; have H3 := hid_mk h3; clear h3)
  obtain ⟨g, hxo⟩ : ∃ g, xo = some ⟨g, 0, none⟩ := by
    cases xo with
    | none => have := HO.out.none.1; have e := HSZ.out; rw [this] at e; simp at e; omega
    | some x => obtain ⟨g, e, _⟩ := HO.out.some; exact ⟨g, by rw [e]⟩
  subst hxo
  have hgw : w.heap.size ≤ g := (HO.out.some).elim fun g' h => by cases h.1; exact h.2.2.1
  have HPT : Hid (Part w1 g xc sz L[i]) := Part.of_owns (base := w.heap.size) (by have h := HO.out; unfold Owns at h; rw [HSZ.out] at h; exact h)
  have HTL : Hid ((bl t).length = t.size) := bl_length t
  clear HO H3 hc
  obtain ⟨l0, hl0⟩ : ∃ l0, l0 = L[i] := ⟨_, rfl⟩
  rw [← hl0] at HPT HSZ
  have HL0 := hid_mk hl0
  clear hl0
  go_wp2
  go_loopw [8] (fun j wr => ∃ k : Nat, j = .int .i64 (k : Int) ∧ k ≤ sz ∧ k ≤ t.size ∧ Part wr g xc sz (turnB l0 (bl t) k) ∧ Below w.heap.size w wr) (fun j _ => sz - (intOf j).toNat)
  case atStart => exact ⟨0, rfl, by omega, by omega, by rw [turnB_zero]; exact HPT.out, HB1.out⟩
  case round =>
    obtain ⟨k, rfl, hks, hkt, hpt, hbel⟩ := hrel
    have HP := hid_mk hpt
    have HB := hid_mk hbel
    clear hpt hbel HPT HB1
    by_cases hin : k < sz ∧ k < t.size
    · obtain ⟨h1, h2⟩ := hin
      have hlen : k < (turnB l0 (bl t) k).length := by rw [turnB_length, HSZ.out]; exact h1
      obtain ⟨hc1, hf1⟩ := HP.out.get k hlen
      rw [turnB_at _ _ _ hlen] at hc1
      obtain ⟨x, hx⟩ : ∃ x, x = at0 l0 k := ⟨_, rfl⟩
      rw [← hx] at hc1
      have HX := hid_mk hx
      clear hx hlen
      go_wp2
      go_region
      all_goals go_wp2
      all_goals
        have e1 : t[k] = at0 (bl t) k := by rw [at0_lt (by rw [HTL.out]; exact h2)]; rfl
        have hput := HP.out.put k (x ^^^ at0 (bl t) k)
        rw [HX.out, turnB_succ _ _ _ (by rw [HSZ.out]; exact h1) (by rw [HTL.out]; exact h2), ← HX.out] at hput
        rw [e1, b8_xor]
        refine ⟨⟨k + 1, by go_num, by omega, by omega, hput.keep rfl, (HB.out.setCell (p := ⟨g, k, none⟩) hgw _).drew⟩, ?_⟩
        simp [intOf]
        omega
    · obtain ⟨V, hV⟩ : ∃ V, V = wr := ⟨_, rfl⟩
      subst hV
      obtain ⟨b', hb'⟩ : ∃ b', b' = turnB l0 (bl t) k := ⟨_, rfl⟩
      have HBL : Hid (b'.length = sz) := by show _ = _; rw [hb', turnB_length]; exact HSZ.out
      rw [← hb'] at HP
      clear hb'
      have HWV : Hid (w.heap.size ≤ V.heap.size) := HB.out.size
      have HBA : Hid (Below V.heap.size V (V.alloc (.cells #[] 23))) := Below.alloc (Below.refl _ _) (Nat.le_refl _) _
      have HVP : Hid (Pcs V.heap.size (V.alloc (.cells #[] 23)) (.slice (some ⟨b, off, none⟩) L.length cp) L) := ((HV.out.below HB.out (Nat.le_refl _)).mono HWV.out).below HBA.out (Nat.le_refl _)
      have HRB : Hid (Rd V.heap.size V (.slice (some ⟨g, 0, none⟩) sz xc) b') := .inr ⟨g, 0, xc, by rw [HBL.out], HP.out.lt, HP.out.at⟩
      have tail : k < sz ∧ ¬ k < t.size ∨ ¬ k < sz := by omega
      clear hin
      rcases tail with ⟨h1, h2⟩ | h1
      all_goals
        go_wp2_with (at_builtin; refine wpList_cat rfl _ _ rfl V.heap.size _ [] rfl (Cpy.made V _ rfl) _ L rfl HVP.out (by simp; omega) HBA.out.size ?_; intro v' w2 g1 g2; rw [List.nil_append] at g1; obtain ⟨uo, uc2, hu⟩ := g1.shape; subst hu; obtain ⟨g2', ul2, uc3, e2, q1, q2, q3, q4, q5⟩ := g1.get i hi; subst e2; have HCP := hid_mk g1; have HB2 := hid_mk (HBA.out.trans g2); clear g1 g2 q5)
        have HV2 : Hid (V.heap.size ≤ w2.heap.size) := HB2.out.size
        have HRB2 : Hid (Rd V.heap.size w2 (.slice (some ⟨g, 0, none⟩) sz xc) b') := HRB.out.below HB2.out (Nat.le_refl _)
        obtain ⟨w3, hw3⟩ : ∃ w3, w3 = w2.setCell ⟨g2', i, none⟩ (.slice (some ⟨g, 0, none⟩) sz xc) := ⟨_, rfl⟩
        have HCP3 : Hid (Cpy V.heap.size w3 (.slice (some ⟨g2', 0, none⟩) L.length uc2) (L.set i b')) := by rw [hw3]; exact HCP.out.put i _ b' HRB2.out
        have HS3 : Hid (w3.heap.size = w2.heap.size) := by show _ = _; rw [hw3]; simp [World.setCell]
        have HB3 : Hid (Below V.heap.size V w3) := by rw [hw3]; exact HB2.out.setCell (p := ⟨g2', i, none⟩) q1 _
        have HB3w : Hid (Below w.heap.size w w3) := HB.out.trans (HB3.out.mono HWV.out)
        have HP3 : Hid (Pcs w3.heap.size w3 (.slice (some ⟨g2', 0, none⟩) L.length uc2) (L.set i b')) := HCP3.out.pcs (by rw [HS3.out]; exact HV2.out) (by rw [List.length_set]; omega)
        have HMB : Hid (∀ x ∈ L.set i b', x.length ≤ 140737488355328) := fun x hx => by have := (HMD.out.set_good (i := i) HBL.out).2.2.2 x hx; omega
        have HFD := hid_mk (parityFind_any (L.set i b') _ 2 w3 (HT.out.below HB3w.out hgz) (by rw [List.length_set]; omega) HMB.out HP3.out)
        rw [← hw3]
        clear hw3
        go_wp2_with fail
        refine HFD.out.mono ?_
        rintro e w4 ⟨r, c, rfl, hF, hb4⟩
        obtain ⟨hc0, hr0⟩ := HMD.out.find hi HBL.out hF
        subst hc0
        have HB4 := hid_mk hb4
        have HB4w : Hid (Below w.heap.size w w4) := HB3w.out.trans (hb4.mono HB3w.out.size)
        have HB4V : Hid (Below V.heap.size V w4) := HB3.out.trans (hb4.mono HB3.out.size)
        have c4 : w4.cell? ⟨b, off + i, none⟩ = some (.slice ul sz uc) := (HB4w.out.cell (p := ⟨b, off + i, none⟩) hb).trans HC.out
        have k1 : ∀ m, (convert 23 9 (.slice (some ⟨g, 0, none⟩) sz xc)).run Tryd.prog (w4.drewN m) = .ok (.string (str b')) (w4.drewN m) := fun m => conv_rd ((HRB.out.below HB4V.out (Nat.le_refl _)).below (drewN_below V.heap.size w4 m) (Nat.le_refl _))
        have k2 : ∀ m, (convert 23 9 (.slice ul sz uc)).run Tryd.prog (w4.drewN m) = .ok (.string (str l0)) (w4.drewN m) := fun m => by
          have h := (HR.out.below HB4w.out (Nat.le_refl _)).below (drewN_below w.heap.size w4 m) (Nat.le_refl _)
          rw [← HL0.out, HSZ.out] at h
          exact conv_rd h
        rw [← HL0.out] at hr0
        have HR0' := hid_mk hr0
        clear hF hb4 hr0
        go_wp2
        go_quiet (fail)
        by_cases he : b' = l0
        · have he' : ((str b').toList == (str l0).toList) = true := by rw [he]; exact beq_self_eq_true _
          have hr : r = -1 := by have h := HR0'.out; rw [if_pos he] at h; exact h
          subst hr
          go_wp2
          all_goals
            rename_i hx
            first
            | (exfalso; rw [he'] at hx; cases hx; done)
            | (go_ret; exact ⟨by simp, HB4w.out.trans (drewN_below _ _ _)⟩)
        · have he' : ((str b').toList == (str l0).toList) = false := by rw [beq_eq_false_iff_ne, str_toL, str_toL]; exact he
          have hr : r = (i : Int) := by have h := HR0'.out; rw [if_neg he] at h; exact h
          subst hr
          go_wp2
          all_goals
            rename_i hx
            first
            | (exfalso; rw [he'] at hx; cases hx; done)
            | (go_ret; exact ⟨by simp, HB4w.out.trans (drewN_below _ _ _)⟩)
end Go.Proofs.YtigaabhicjcbjafDoor
