/-
  The reference's Good.
-/
import Derived.Test.YtpggbpbibbhepaaDoorDd
namespace Go.Proofs.YtpggbpbibbhepaaDoor
open Go.ChangeShapes Go.WideShapes Go.ChangeAt Go.RowKit
set_option linter.unusedVariables false

/-- No sign that a name may not have. -/
def okB (b : UInt8) : Bool := !(b.toNat == 47) && !(b.toNat == 0)
/-- A good name. -/
def goodB (s : ByteArray) : Bool := (bl s).all okB && decide (1 ≤ s.size) && decide (s.size ≤ 40) && !(bl s == [46]) && !(bl s == [46, 46])

theorem take_ok (s : ByteArray) (k : Nat) (hk : k < s.size) (h : ((bl s).take k).all okB = true) (hb : okB (s[k]'hk) = true) : ((bl s).take (k + 1)).all okB = true := by
  have e : (bl s)[k]? = some (s[k]'hk) := by
    rw [List.getElem?_eq_getElem (by rw [bl_length]; exact hk)]
    rfl
  rw [List.take_add_one, List.all_append, h, e]
  simp [hb]
theorem take_bad (s : ByteArray) (k : Nat) (hk : k < s.size) (hb : okB (s[k]'hk) = false) : goodB s = false := by
  have e : (bl s).all okB = false := by
    rw [List.all_eq_false]
    exact ⟨s[k]'hk, by rw [show s[k]'hk = (bl s)[k]'(by rw [bl_length]; exact hk) from rfl]; exact List.getElem_mem _, by simp [hb]⟩
  simp [goodB, e]

set_option maxRecDepth 1000000 in
set_option maxHeartbeats 4000000 in
theorem refGood (s : ByteArray) (w : World) (hs : s.size + 4 ≤ 140737488355328) : Calls Tryd.prog 7 #[.string s] w fun e w' => e = .returned (.bool (goodB s)) ∧ w' = w := by
  go_enter Tryd.func7, Tryd.ntmps7
  go_wp2
  go_loopw [3] (fun i wr => ∃ k : Nat, i = .int .i64 k ∧ k ≤ s.size ∧ ((bl s).take k).all okB = true ∧ wr = w) (fun i _ => s.size - (intOf i).toNat)
  case atStart => exact ⟨0, rfl, by omega, rfl, rfl⟩
  case round =>
    obtain ⟨k, rfl, hk, hall, rfl⟩ := hrel
    have HA : Hid (((bl s).take k).all okB = true) := hall
    clear hall
    by_cases hlt : k < s.size
    · have hkI : (k : Int) < (s.size : Int) := by omega
      obtain ⟨x, hx⟩ : ∃ x : Nat, x = (s[k]'hlt).toNat := ⟨_, rfl⟩
      have HX : Hid (x = (s[k]'hlt).toNat) := hx
      by_cases h47 : x = 47
      · have h47' : (((s[k]'hlt).toNat : Int) == 47) = true := by rw [beq_iff_eq, ← hx]; omega
        have HB : Hid (goodB s = false) := take_bad s k hlt (by simp [okB, ← hx, h47])
        clear hx h47
        go_wp2
        go_ret
        exact ⟨by rw [HB.out]; rfl, rfl⟩
      · have h47' : (((s[k]'hlt).toNat : Int) == 47) = false := by rw [beq_eq_false_iff_ne, ← hx]; omega
        by_cases h0 : x = 0
        · have h0' : (((s[k]'hlt).toNat : Int) == 0) = true := by rw [beq_iff_eq, ← hx]; omega
          have HB : Hid (goodB s = false) := take_bad s k hlt (by simp [okB, ← hx, h0])
          clear hx h47 h0
          go_wp2
          go_ret
          exact ⟨by rw [HB.out]; rfl, rfl⟩
        · have h0' : (((s[k]'hlt).toNat : Int) == 0) = false := by rw [beq_eq_false_iff_ne, ← hx]; omega
          have HB : Hid (((bl s).take (k + 1)).all okB = true) := take_ok s k hlt HA.out (by simp [okB, ← hx, h0, h47])
          clear hx h47 h0
          go_wp2
          go_roundw
          case rel => exact ⟨k + 1, by go_num, by omega, HB.out, trivial⟩
          case measure => simp [intOf]; omega
    · have HB : Hid ((bl s).all okB = true) := by
        have h := HA.out
        rw [List.take_of_length_le (by rw [bl_length]; omega)] at h; exact h
      by_cases h1 : 1 ≤ s.size
      · have h1' : (1 : Int) ≤ (s.size : Int) := by omega
        by_cases h40 : s.size ≤ 40
        · have h40' : (s.size : Int) ≤ 40 := by omega
          have h40d : decide ((s.size : Int) ≤ 40) = true := by simpa using h40'
          have HG : Hid (goodB s = (!(s.toList == [46]) && !(s.toList == [46, 46]))) := by
            show goodB s = _
            rw [goodB, HB.out, ByteArray.toList_eq]
            simp [h1, h40]
          cases hd : (s.toList == [46]) with
          | true =>
            have HG2 : Hid (goodB s = false) := by show goodB s = false; rw [HG.out, hd]; rfl
            clear HG
            go_wp2
            go_ret
            exact ⟨by rw [HG2.out]; rfl, rfl⟩
          | false =>
            cases hd2 : (s.toList == [46, 46]) with
            | true =>
              have HG2 : Hid (goodB s = false) := by show goodB s = false; rw [HG.out, hd, hd2]; rfl
              clear HG
              go_wp2
              go_ret
              exact ⟨by rw [HG2.out]; rfl, rfl⟩
            | false =>
              have HG2 : Hid (goodB s = true) := by show goodB s = true; rw [HG.out, hd, hd2]; rfl
              clear HG
              go_wp2
              go_ret
              exact ⟨by rw [HG2.out]; rfl, rfl⟩
        · have h40' : ¬ (s.size : Int) ≤ 40 := by omega
          have h40d : decide ((s.size : Int) ≤ 40) = false := by simpa using h40'
          have HG : Hid (goodB s = false) := by show goodB s = false; simp [goodB, h40]
          go_wp2
          go_ret
          exact ⟨by rw [HG.out]; rfl, rfl⟩
      · have h1' : ¬ (1 : Int) ≤ (s.size : Int) := by omega
        have h1d : decide ((1 : Int) ≤ (s.size : Int)) = false := by simpa using h1'
        have HG : Hid (goodB s = false) := by show goodB s = false; simp [goodB, h1]
        go_wp2
        go_ret
        exact ⟨by rw [HG.out]; rfl, rfl⟩
end Go.Proofs.YtpggbpbibbhepaaDoor
