/-
  Plain mathematics of ParityBack: what was made mends whatever is lost; a piece that was turned is found.
-/
import Derived.Test.YtigaabhicjcbjafDoorBkA
namespace Go.Proofs.YtigaabhicjcbjafDoor
set_option linter.unusedVariables false

theorem szOf_of {L : List (List UInt8)} {sz : Nat} (h : ∀ b ∈ L, b.length = 0 ∨ b.length = sz) (hx : ∃ b ∈ L, b.length ≠ 0) : szOf L = sz := by
  induction L with
  | nil => obtain ⟨b, hb, _⟩ := hx; cases hb
  | cons a L ih =>
    simp only [szOf]
    by_cases ha : a.length = 0
    · rw [if_pos ha]
      refine ih (fun b hb => h b (List.mem_cons_of_mem _ hb)) ?_
      obtain ⟨b, hb, h0⟩ := hx
      rcases List.mem_cons.1 hb with e | e
      · subst e; exact absurd ha h0
      · exact ⟨b, e, h0⟩
    · rw [if_neg ha]
      exact (h a (by simp)).resolve_left ha
/-- Pieces of which some are lost, others as they were made of D. -/
structure Left (D L : List (List UInt8)) (n lv sz : Nat) : Prop where
  dl : D.length = n
  n1 : 1 ≤ n
  n16 : n ≤ 16
  lv2 : lv ≤ 2
  s1 : 1 ≤ sz
  s4 : sz ≤ 4096
  ds : ∀ b ∈ D, b.length = sz
  len : L.length = n + lv
  data : ∀ k (h1 : k < n) (h2 : k < L.length) (h3 : k < D.length), L[k] = [] ∨ L[k] = D[k]
  p : 1 ≤ lv → pOf L n = [] ∨ pOf L n = vec sz (colP D)
  q : 2 ≤ lv → qOf L n = [] ∨ qOf L n = vec sz (colQ 0 D)
  few : lostN L ≤ lv
theorem Left.all {D L : List (List UInt8)} {n lv sz : Nat} (h : Left D L n lv sz) : ∀ b ∈ L, b.length = 0 ∨ b.length = sz := by
  intro b hb
  obtain ⟨k, hk, rfl⟩ := List.mem_iff_getElem.1 hb
  have hlen := h.len
  have hlv := h.lv2
  by_cases h1 : k < n
  · rcases h.data k h1 hk (by rw [h.dl]; exact h1) with e | e
    · left; rw [e]; rfl
    · right; rw [e]; exact h.ds _ (List.getElem_mem _)
  · by_cases h2 : k = n
    · subst h2
      have e : pOf L k = L[k] := by unfold pOf; rw [List.getD_eq_getElem?_getD, List.getElem?_eq_getElem hk]; rfl
      rcases h.p (by omega) with e2 | e2
      · left; rw [← e, e2]; rfl
      · right; rw [← e, e2, vec_length]
    · obtain rfl : k = n + 1 := by omega
      have e : qOf L n = L[n + 1] := by unfold qOf; rw [List.getD_eq_getElem?_getD, List.getElem?_eq_getElem hk]; rfl
      rcases h.q (by omega) with e2 | e2
      · left; rw [← e, e2]; rfl
      · right; rw [← e, e2, vec_length]
theorem lostN_le_len (L : List (List UInt8)) (h : ∀ b ∈ L, b.length = 0) : lostN L = L.length := by
  induction L with
  | nil => rfl
  | cons a L ih =>
    have h1 := lostN_append [a] L
    rw [List.singleton_append] at h1
    rw [h1, lostN_one, if_pos (h a (by simp)), ih (fun b hb => h b (List.mem_cons_of_mem _ hb)), List.length_cons]
    omega
theorem Left.sz {D L : List (List UInt8)} {n lv sz : Nat} (h : Left D L n lv sz) : szOf L = sz := by
  refine szOf_of h.all ?_
  refine Classical.byContradiction fun hx => ?_
  have h0 : ∀ b ∈ L, b.length = 0 := fun b hb => Classical.byContradiction fun h1 => hx ⟨b, hb, h1⟩
  have h1 := lostN_le_len L h0
  have := h.few
  have := h.len
  have := h.n1
  omega
theorem Left.even {D L : List (List UInt8)} {n lv sz : Nat} (h : Left D L n lv sz) : Even L := ⟨by rw [h.sz]; exact h.all, by rw [h.sz]; exact h.s1, by rw [h.sz]; exact h.s4⟩
theorem Left.err {D L : List (List UInt8)} {n lv sz : Nat} (h : Left D L n lv sz) : mendErr L (lv : Int) = 0 := by
  have hlen := h.len
  have h16 := h.n16
  have h1 := h.n1
  have hlv := h.lv2
  have hf := h.few
  have hp : partErr L (lv : Int) = 0 := by unfold partErr; rw [if_neg (by omega), if_pos ⟨⟨by omega, by omega⟩, h.even⟩]
  unfold mendErr
  rw [hp, if_neg (by simp), if_neg (by omega)]
theorem Left.mended {D L : List (List UInt8)} {n lv sz : Nat} (h : Left D L n lv sz) : MendR L (lv : Int) D := by
  have hlen := h.len
  have hlv := h.lv2
  have hf := h.few
  have hno : nOf L (lv : Int) = n := by unfold nOf; omega
  unfold MendR
  rw [hno, h.sz]
  have hsp := lost_split (L := L) n
  have key1 : lv = 1 → lostN (L.drop n) = if (pOf L n).length = 0 then 1 else 0 := fun e => by subst e; rw [drop_1 hlen, lostN_one]
  have key2 : lv = 2 → lostN (L.drop n) = (if (pOf L n).length = 0 then 1 else 0) + (if (qOf L n).length = 0 then 1 else 0) := fun e => by subst e; rw [drop_2 hlen, lostN_two]
  refine ⟨by rw [List.length_take, h.dl]; omega, fun k h1 h2 h3 => ?_, fun k h1 h2 h3 => h.ds _ (List.getElem_mem _), fun hu i hi => ?_, fun hu i hi => ?_⟩
  · rw [List.getElem_take] at h3 ⊢
    have hk : k < n := by rw [h.dl] at h2; exact h2
    rcases h.data k hk (by omega) h2 with e | e
    · rw [e] at h3; exact absurd rfl h3
    · exact e.symm
  · have hp0 : (pOf L n).length ≠ 0 ∧ 1 ≤ lv := by
      rcases hu with ⟨h1, h2⟩ | h1
      · exact ⟨h2, by omega⟩
      · have e2 : lv = 2 := by omega
        have h3 := key2 e2
        refine ⟨fun h0 => ?_, by omega⟩
        rw [if_pos h0] at h3
        omega
    rcases h.p hp0.2 with e | e
    · exact absurd (by rw [e]; rfl) hp0.1
    · rw [e, vec_at hi]
  · have hq0 : (qOf L n).length ≠ 0 ∧ 2 ≤ lv := by
      have e2 : lv = 2 := by
        rcases hu with ⟨h1, h2⟩ | h1
        · refine Classical.byContradiction fun hne => ?_
          have e1 : lv = 1 := by omega
          have h3 := key1 e1
          rw [if_pos h2] at h3
          omega
        · omega
      have h3 := key2 e2
      refine ⟨fun h0 => ?_, by omega⟩
      rw [if_pos h0] at h3
      rcases hu with ⟨h1, h2⟩ | h1
      · rw [if_pos h2] at h3; omega
      · omega
    rcases h.q hq0.2 with e | e
    · exact absurd (by rw [e]; rfl) hq0.1
    · rw [e, vec_at hi]
/-- Whatever Mend tells is what was there. -/
theorem Left.back {D L O : List (List UInt8)} {n lv sz : Nat} (h : Left D L n lv sz) (hO : MendR L (lv : Int) O) : O = D := by
  have hm := h.mended
  have hlen := h.len
  have hlv := h.lv2
  have hno : nOf L (lv : Int) = n := by unfold nOf; omega
  unfold MendR at hm hO
  rw [hno] at hm hO
  have hsp := lost_split (L := L) n
  have := h.few
  have := h.n16
  exact hO.unique (by rw [List.length_take]; omega) (by omega) hm
/-- A piece that was turned into another one is found. -/
theorem turned {D L : List (List UInt8)} {n sz i : Nat} {b : List UInt8} {r e : Int} (hn : n ≤ 16) (hd : D.length = n) (hlen : L.length = n + 2) (hD : L.take n = D) (hp : pOf L n = vec sz (colP D)) (hq : qOf L n = vec sz (colQ 0 D)) (hi : i < n + 2) (hi2 : i < L.length) (hl : L[i].length = sz) (hb : b.length = sz) (hne : b ≠ L[i]) (hF : FindIs (L.set i b) n 2 sz r e) : r = (i : Int) ∧ e = 0 := by
  have hx : ∃ k, k < sz ∧ at0 L[i] k ^^^ at0 b k ≠ 0 := by
    refine Classical.byContradiction fun hno => hne ?_
    have hall : ∀ k, k < sz → at0 L[i] k ^^^ at0 b k = 0 := fun k hk => Classical.byContradiction fun h => hno ⟨k, hk, h⟩
    have e1 : b = vec sz (at0 b) := by rw [← hb]; exact (vec_self b).symm
    have e2 : L[i] = vec sz (at0 L[i]) := by rw [← hl]; exact (vec_self _).symm
    rw [e1, e2]
    exact vec_congr (fun k hk => by have := xor_zero_iff.1 (hall k hk); exact this)
  have tk : ∀ k, k < sz → dP (L.set i b) n k = (if i < n then at0 L[i] k ^^^ at0 b k else if i = n then colP D k ^^^ at0 b k else 0) ∧ dQ (L.set i b) n k = (if i < n then dbln i (at0 L[i] k ^^^ at0 b k) else if i = n then 0 else colQ 0 D k ^^^ at0 b k) := by
    intro k hk
    unfold dP dQ
    by_cases h1 : i < n
    · have e1 : pOf (L.set i b) n = pOf L n := by unfold pOf; rw [List.getD_eq_getElem?_getD, List.getElem?_set_ne (by omega), List.getD_eq_getElem?_getD]
      have e2 : qOf (L.set i b) n = qOf L n := by unfold qOf; rw [List.getD_eq_getElem?_getD, List.getElem?_set_ne (by omega), List.getD_eq_getElem?_getD]
      have e3 : (L.take n)[i]'(by rw [List.length_take]; omega) = L[i] := List.getElem_take
      rw [if_pos h1, if_pos h1, e1, e2, List.take_set, colP_set _ _ _ _ (by rw [List.length_take]; omega), colQ_set _ _ _ _ _ (by rw [List.length_take]; omega), e3, hD, hp, hq, vec_at hk, vec_at hk, Nat.zero_add]
      constructor
      · rw [UInt8.xor_comm (colP D k), xor_cancel]
      · rw [UInt8.xor_comm (colQ 0 D k), xor_cancel]
    · have et : (L.set i b).take n = D := by
        rw [← hD]
        apply List.ext_getElem
        · simp
        · intro k h1 h2
          rw [List.getElem_take, List.getElem_take, List.getElem_set_ne (by simp at h1; omega)]
      rw [if_neg h1, if_neg h1, et]
      by_cases h2 : i = n
      · have e1 : pOf (L.set i b) n = b := by unfold pOf; rw [List.getD_eq_getElem?_getD, ← h2, List.getElem?_set_self hi2]; rfl
        have e2 : qOf (L.set i b) n = qOf L n := by unfold qOf; rw [List.getD_eq_getElem?_getD, List.getElem?_set_ne (by omega), List.getD_eq_getElem?_getD]
        rw [if_pos h2, if_pos h2, e1, e2, hq, vec_at hk, UInt8.xor_self]
        exact ⟨rfl, rfl⟩
      · have h3 : i = n + 1 := by omega
        have e1 : pOf (L.set i b) n = pOf L n := by unfold pOf; rw [List.getD_eq_getElem?_getD, List.getElem?_set_ne (by omega), List.getD_eq_getElem?_getD]
        have e2 : qOf (L.set i b) n = b := by unfold qOf; rw [List.getD_eq_getElem?_getD, ← h3, List.getElem?_set_self hi2]; rfl
        rw [if_neg h2, if_neg h2, e1, e2, hp, vec_at hk, UInt8.xor_self]
        exact ⟨rfl, rfl⟩
  have hc : Cand (L.set i b) n sz i := fun k hk => by
    obtain ⟨h1, h2⟩ := tk k hk
    unfold Cand1
    by_cases hin : i < n
    · rw [if_pos hin] at h1 h2 ⊢; rw [h1, h2]
    · rw [if_neg hin] at h1 h2 ⊢
      by_cases hie : i = n
      · rw [if_pos hie] at h2 ⊢; exact h2
      · rw [if_neg hie] at h1 ⊢; exact h1
  have hw : ¬ Whole (L.set i b) n 2 sz := by
    intro hw
    obtain ⟨k, hk, hk0⟩ := hx
    obtain ⟨h1, h2⟩ := tk k hk
    have w1 := (hw k hk).1 (by omega)
    have w2 := (hw k hk).2 (by omega)
    by_cases hin : i < n
    · rw [if_pos hin] at h1; exact hk0 (h1.symm.trans w1)
    · rw [if_neg hin] at h1 h2
      by_cases hie : i = n
      · rw [if_pos hie] at h1
        have e : at0 L[i] k = colP D k := by
          have : L[i] = pOf L n := by unfold pOf; subst hie; rw [List.getD_eq_getElem?_getD, List.getElem?_eq_getElem hi2]; rfl
          rw [this, hp, vec_at hk]
        rw [← e] at h1
        exact hk0 (h1.symm.trans w1)
      · rw [if_neg hie] at h2
        obtain rfl : i = n + 1 := by omega
        have e : at0 L[n + 1] k = colQ 0 D k := by
          have : L[n + 1] = qOf L n := by unfold qOf; rw [List.getD_eq_getElem?_getD, List.getElem?_eq_getElem hi2]; rfl
          rw [this, hq, vec_at hk]
        rw [← e] at h2
        exact hk0 (h2.symm.trans w2)
  exact ((hF.2.2 hw (by omega)).1 i hi hc)
end Go.Proofs.YtigaabhicjcbjafDoor
