/-
  The document's own Parts and Room: the walks.
-/
import Derived.Test.YtppmjdmdflcoiaaDoorRd3
namespace Go.Proofs.YtppmjdmdflcoiaaDoor
open Go.ChangeShapes Go.WideShapes Go.ChangeAt Go.RowKit
set_option linter.unusedVariables false

theorem refParts_many (b off cap n : Nat) (w : World) (hn : 8 < n) :
    Calls Tryd.prog 14 #[.slice (some ⟨b, off, none⟩) n cap] w fun e w' => e = .returned (.int .i64 14) ∧ w' = w := by
  have hn' : (8 : Int) < (n : Int) := by omega
  go_enter Tryd.func14, Tryd.ntmps14
  go_wp2
  go_ret
  exact ⟨rfl, rfl⟩
theorem refParts_nil (ao : Option Addr) (cp : Nat) (w : World) : Calls Tryd.prog 14 #[.slice ao 0 cp] w fun e w' => e = .returned (.int .i64 0) ∧ w' = w := by
  go_enter Tryd.func14, Tryd.ntmps14
  go_wp2
  refine wp_loop_rounds 1 ?_
  rw [rounds_succ]
  go_wp2
  go_ret
  exact ⟨rfl, rfl⟩
theorem room_nil (ao : Option Addr) (cp : Nat) (w : World) : Calls Tryd.prog 17 #[.slice ao 0 cp] w fun e w' => e = .returned (.int .i64 0) ∧ w' = w := by
  go_enter Tryd.func17, Tryd.ntmps17
  go_wp2
  refine wp_loop_rounds 1 ?_
  rw [rounds_succ]
  go_wp2
  go_ret
  exact ⟨rfl, rfl⟩

set_option maxRecDepth 1000000 in
set_option maxHeartbeats 1600000 in
theorem refParts_some (ps : List PartD) (b off cap : Nat) (w : World) (h8 : ps.length ≤ 8) (hwf : ∀ p ∈ ps, p.wf) (hb : b < w.heap.size) (hc : PartsAt w b off ps) :
    Calls Tryd.prog 14 #[.slice (some ⟨b, off, none⟩) ps.length cap] w fun e w' => e = .returned (.int .i64 (errs ps)) ∧ Below w.heap.size w w' := by
  have HC : Hid (PartsAt w b off ps) := hc
  have HW : Hid (∀ p ∈ ps, p.wf) := hwf
  have h8' : ¬ (8 : Int) < (ps.length : Int) := by omega
  clear hc hwf
  go_enter Tryd.func14, Tryd.ntmps14
  go_wp2
  go_loopw [3] (fun i wr => ∃ k : Nat, i = .int .i64 k ∧ k ≤ ps.length ∧ errs (ps.take k) = 0 ∧ Below w.heap.size w wr) (fun i _ => ps.length - (intOf i).toNat)
  case atStart => exact ⟨0, rfl, by omega, rfl, Below.refl _ _⟩
  case round =>
    obtain ⟨k, rfl, hk, herr, hbel⟩ := hrel
    have HE : Hid (errs (ps.take k) = 0) := herr
    have HBL : Hid (Below w.heap.size w wr) := hbel
    have hsz : w.heap.size ≤ wr.heap.size := hbel.size
    clear herr hbel
    by_cases hlt : k < ps.length
    · obtain ⟨p, hp⟩ : ∃ p, p = ps[k] := ⟨_, rfl⟩
      obtain ⟨c1, c2, c3⟩ := (HC.out.below HBL.out hb) k hlt
      rw [← hp] at c1 c2 c3
      have hpw : p.wf := by rw [hp]; exact HW.out _ (List.getElem_mem hlt)
      have HP : Hid (p = ps[k]) := hp
      clear hp
      obtain ⟨pk, pn, pt⟩ := p
      simp only at c1 c2 c3
      have hpn := hpw.2.2.1
      simp only at hpn
      clear hpw
      have HB2 : Hid (∀ o, Below w.heap.size w (wr.alloc o)) := fun o => HBL.out.alloc hsz o
      have hE0 : Hid ((PartD.mk pk pn pt).err = 0 → errs (ps.take (k + 1)) = 0) := by
        intro he
        have h := (errs_take ps k hlt HE.out).1
        rw [← HP.out, he] at h; exact h
      have hE1 : Hid ((PartD.mk pk pn pt).err ≠ 0 → errs ps = (PartD.mk pk pn pt).err) := by
        intro he
        have h := errs_bad ps k hlt HE.out (by rw [← HP.out]; exact he)
        rw [← HP.out] at h; exact h
      have hss : (str pt).size = pt.length := str_size pt
      have hem : (str pt).toList.isEmpty = pt.isEmpty := by rw [ByteArray.toList_eq]; show (bl (str pt)).isEmpty = _; rw [bl_str]
      by_cases k1 : pk = 1
      · have hk : (pk == 1) = true := by simp [k1]
        have hk2 : (pk == 2) = false := by simp [k1]
        cases hpe : pt.isEmpty with
        | true =>
          have HEE : Hid ((PartD.mk pk pn pt).err = 0) := by show (PartD.mk pk pn pt).err = 0; simp [PartD.err, k1, List.isEmpty_iff.1 hpe]
          clear k1
          go_wp2
          go_roundw
          case rel => exact ⟨k + 1, by go_num, by omega, hE0.out HEE.out, HB2.out _⟩
          case measure => simp [intOf]; omega
        | false =>
          have HEE : Hid ((PartD.mk pk pn pt).err = 5) := by show (PartD.mk pk pn pt).err = 5; simp [PartD.err, k1, List.isEmpty_eq_false_iff.1 hpe]
          clear k1
          go_wp2
          go_ret
          exact ⟨ret_int (by rw [hE1.out (by rw [HEE.out]; decide), HEE.out]), HB2.out _⟩
      · have hk : (pk == 1) = false := by simpa using k1
        by_cases k2 : pk = 2
        · have hk2 : (pk == 2) = true := by simp [k2]
          by_cases hn0 : pn = 0
          · have hn0' : ((pn : Int) == 0) = true := by rw [hn0]; rfl
            by_cases h60 : pt.length ≤ 60
            · have h60' : (pt.length : Int) ≤ 60 := by omega
              have HEE : Hid ((PartD.mk pk pn pt).err = 0) := by show (PartD.mk pk pn pt).err = 0; simp [PartD.err, k2, hn0, h60]
              clear k1 k2 hn0
              go_wp2
              go_roundw
              case rel => exact ⟨k + 1, by go_num, by omega, hE0.out HEE.out, HB2.out _⟩
              case measure => simp [intOf]; omega
            · have h60' : ¬ (pt.length : Int) ≤ 60 := by omega
              have h60d : decide ((pt.length : Int) ≤ 60) = false := by simpa using h60'
              have HEE : Hid ((PartD.mk pk pn pt).err = 6) := by show (PartD.mk pk pn pt).err = 6; simp [PartD.err, k2, hn0, h60]
              clear k1 k2 hn0
              go_wp2
              go_ret
              exact ⟨ret_int (by rw [hE1.out (by rw [HEE.out]; decide), HEE.out]), HB2.out _⟩
          · have hn0' : ((pn : Int) == 0) = false := by rw [beq_eq_false_iff_ne]; omega
            have HEE : Hid ((PartD.mk pk pn pt).err = 5) := by show (PartD.mk pk pn pt).err = 5; simp [PartD.err, k2, hn0]
            clear k1 k2 hn0
            go_wp2
            go_ret
            exact ⟨ret_int (by rw [hE1.out (by rw [HEE.out]; decide), HEE.out]), HB2.out _⟩
        · have hk2 : (pk == 2) = false := by simpa using k2
          have HEE : Hid ((PartD.mk pk pn pt).err = 5) := by show (PartD.mk pk pn pt).err = 5; simp [PartD.err, k1, k2]
          clear k1 k2
          go_wp2
          go_ret
          exact ⟨ret_int (by rw [hE1.out (by rw [HEE.out]; decide), HEE.out]), HB2.out _⟩
    · have HF : Hid (errs ps = 0) := by
        have h := HE.out
        rw [show k = ps.length by omega, List.take_length] at h; exact h
      go_wp2
      go_ret
      exact ⟨ret_int (by rw [HF.out]), HBL.out⟩

/-- How many bytes a key may have. -/
def roomOf (ps : List PartD) : Nat := (ps.map fun p => if p.kind = 1 then 9 else 2 * p.text.length + 3).sum
theorem roomOf_snoc (ps : List PartD) (p : PartD) : roomOf (ps ++ [p]) = roomOf ps + (if p.kind = 1 then 9 else 2 * p.text.length + 3) := by simp [roomOf]
theorem roomOf_le (ps : List PartD) (h : errs ps = 0) : (encKey ps).length ≤ roomOf ps ∧ roomOf ps ≤ 123 * ps.length := by
  induction ps with
  | nil => simp [roomOf, encKey]
  | cons p ps ih =>
    rw [errs] at h
    by_cases he : p.err = 0
    · rw [if_pos he] at h
      have h1 := ih h
      have e : roomOf (p :: ps) = (if p.kind = 1 then 9 else 2 * p.text.length + 3) + roomOf ps := by simp [roomOf]
      have e2 : encKey (p :: ps) = encPart p ++ encKey ps := by simp [encKey]
      rw [e, e2, List.length_append, List.length_cons]
      unfold encPart
      rcases err_zero he with ⟨hk, ht⟩ | ⟨hk, hz, ht⟩
      · rw [if_pos hk, if_pos hk]
        have := encNum_length p.num; omega
      · rw [if_neg (by omega), if_neg (by omega)]
        have := encText_length p.text; omega
    · rw [if_neg he] at h; exact absurd h he

set_option maxRecDepth 1000000 in
set_option maxHeartbeats 1600000 in
theorem room_some (ps : List PartD) (b off cap : Nat) (w : World) (h8 : ps.length ≤ 8) (herr : errs ps = 0) (hc : PartsAt w b off ps) :
    Calls Tryd.prog 17 #[.slice (some ⟨b, off, none⟩) ps.length cap] w fun e w' => e = .returned (.int .i64 ((roomOf ps : Nat) : Int)) ∧ w' = w := by
  have HC : Hid (PartsAt w b off ps) := hc
  have HE : Hid (errs ps = 0) := herr
  clear hc herr
  go_enter Tryd.func17, Tryd.ntmps17
  go_wp2
  go_loop [3, 4] (fun n i => ∃ k : Nat, i = .int .i64 k ∧ k ≤ ps.length ∧ n = .int .i64 ((roomOf (ps.take k) : Nat) : Int) ∧ roomOf (ps.take k) ≤ 123 * k) (fun _ i => ps.length - (intOf i).toNat)
  case atStart => exact ⟨0, rfl, by omega, rfl, by simp [roomOf]⟩
  case round =>
    obtain ⟨k, rfl, hk, rfl, hrk⟩ := hrel
    obtain ⟨R, hR⟩ : ∃ R, R = roomOf (ps.take k) := ⟨_, rfl⟩
    rw [← hR] at hrk ⊢
    have HR : Hid (R = roomOf (ps.take k)) := hR
    clear hR
    by_cases hlt : k < ps.length
    · obtain ⟨p, hp⟩ : ∃ p, p = ps[k] := ⟨_, rfl⟩
      obtain ⟨c1, c2, c3⟩ := HC.out k hlt
      rw [← hp] at c1 c2 c3
      have HP : Hid (p = ps[k]) := hp
      have hpe : p.err = 0 := by
        rw [hp]
        have h := HE.out
        have h1 : errs (ps.take (k + 1)) = 0 := by
          have := errs_append (ps.take (k + 1)) (ps.drop (k + 1))
          rw [List.take_append_drop, h] at this
          split at this
          · assumption
          · exact this.symm
        have h2 : errs (ps.take k) = 0 := by
          have := errs_append (ps.take k) (ps.drop k)
          rw [List.take_append_drop, h] at this
          split at this
          · assumption
          · exact this.symm
        rw [← (errs_take ps k hlt h2).1]; exact h1
      clear hp
      obtain ⟨pk, pn, pt⟩ := p
      simp only at c1 c2 c3
      have hss : (str pt).size = pt.length := str_size pt
      have HST : Hid (roomOf (ps.take (k + 1)) = R + (if pk = 1 then 9 else 2 * pt.length + 3)) := by
        show roomOf _ = _
        rw [List.take_succ_eq_append_getElem hlt, roomOf_snoc, ← HP.out, HR.out]
      rcases err_zero hpe with ⟨hk1, ht⟩ | ⟨hk2, hz, ht⟩
      · simp only at hk1
        have hk : (pk == 1) = true := by simp [hk1]
        have HST2 : Hid (roomOf (ps.take (k + 1)) = R + 9) := by have h := HST.out; rw [if_pos hk1] at h; exact h
        clear hk1 hpe ht
        go_wp2
        go_round
        case rel => exact ⟨k + 1, by go_num, by omega, by rw [HST2.out]; go_num, by rw [HST2.out]; omega⟩
        case measure => simp [intOf]; omega
      · simp only at hk2 ht
        have hk : (pk == 1) = false := by simp [hk2]
        have HST2 : Hid (roomOf (ps.take (k + 1)) = R + (2 * pt.length + 3)) := by have h := HST.out; rw [if_neg (by omega)] at h; exact h
        clear hk2 hpe hz
        go_wp2
        go_round
        case rel => exact ⟨k + 1, by go_num, by omega, by rw [HST2.out]; go_num, by rw [HST2.out]; omega⟩
        case measure => simp [intOf]; omega
    · have HF : Hid (R = roomOf ps) := by show R = _; rw [HR.out, show k = ps.length by omega, List.take_length]
      go_wp2
      go_ret
      exact ⟨ret_int (by rw [HF.out]), rfl⟩
end Go.Proofs.YtppmjdmdflcoiaaDoor
