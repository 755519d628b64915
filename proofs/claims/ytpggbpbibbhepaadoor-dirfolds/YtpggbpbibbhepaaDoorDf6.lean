/-
  The program's Good.
-/
import Derived.Test.YtpggbpbibbhepaaDoorDf5
import Derived.Test.YtpggbpbibbhepaaDoorDe
namespace Go.Proofs.YtpggbpbibbhepaaDoor
open Go.ChangeShapes Go.WideShapes Go.ChangeAt Go.RowKit
set_option linter.unusedVariables false
set_option linter.unusedSimpArgs false

/-- Whether one of the two signs is there. -/
def anyB (s : ByteArray) : Bool := !(bl s).all okB

theorem bars_has (b : UInt8) : (bl bars).contains b = !okB b := by
  have h : bl bars = [47, 0] := rfl
  rw [h]
  have e1 : (b == 47) = (b.toNat == 47) := by
    rw [Bool.eq_iff_iff, beq_iff_eq, beq_iff_eq, ← UInt8.toNat_inj]; rfl
  have e2 : (b == 0) = (b.toNat == 0) := by
    rw [Bool.eq_iff_iff, beq_iff_eq, beq_iff_eq, ← UInt8.toNat_inj]; rfl
  simp only [List.contains_cons, List.contains_nil, Bool.or_false, e1, e2, okB, Bool.not_and, Bool.not_not]
theorem any_index (l : List UInt8) : decide (0 ≤ Lib.indexAny l (bl bars)) = !l.all okB := by
  induction l with
  | nil => rfl
  | cons b l ih =>
    have hge := Lib.indexAny_ge (bl bars) l
    rw [Lib.indexAny, bars_has, List.all_cons]
    cases hb : okB b
    · simp
    · simp only [Bool.not_true, Bool.true_and]
      rw [← ih]
      by_cases h : Lib.indexAny l (bl bars) = -1
      · rw [h]; rfl
      · have h' : (Lib.indexAny l (bl bars) == -1) = false := beq_eq_false_iff_ne.2 h
        rw [h']
        have h0 : (0 : Int) ≤ Lib.indexAny l (bl bars) := by omega
        simp [h0]
        omega

/-- A byte of a character beyond ASCII. -/
theorem high_bytes (s : ByteArray) (k : Nat) (hk : k < s.size) (hr : 128 ≤ (dec s k).1) : ∀ j, j < (dec s k).2 → 128 ≤ (s.get! (k + j)).toNat := by
  intro j hj
  rcases dec_cases s k hk with h | h | h | h | h
  · omega
  · obtain rfl : j = 0 := by omega
    rw [Nat.add_zero, Utf8W.get!_of_lt s k hk]
    rcases Nat.lt_or_ge (s[k]'hk).toNat 128 with hl | hl
    · exfalso
      have := decode_ascii s k hk hl
      have e : (dec s k).1 = (s[k]'hk).toNat := by rw [dec, this]
      omega
    · exact hl
  · match j, hj with
    | 0, _ => rw [Nat.add_zero]; omega
    | 1, _ => omega
    | j + 2, hj => omega
  · match j, hj with
    | 0, _ => rw [Nat.add_zero]; omega
    | 1, _ => omega
    | 2, _ => omega
    | j + 3, hj => omega
  · match j, hj with
    | 0, _ => rw [Nat.add_zero]; omega
    | 1, _ => omega
    | 2, _ => omega
    | 3, _ => omega
    | j + 4, hj => omega
theorem ok_more (s : ByteArray) (k : Nat) (h : ((bl s).take k).all okB = true) : ∀ n, k + n ≤ s.size → (∀ j, j < n → 128 ≤ (s.get! (k + j)).toNat) → ((bl s).take (k + n)).all okB = true := by
  intro n
  induction n with
  | zero => intro _ _; exact h
  | succ n ih =>
    intro hn hb
    have hlt : k + n < s.size := by omega
    have h1 := hb n (by omega)
    rw [Utf8W.get!_of_lt s (k + n) hlt] at h1
    refine take_ok s (k + n) hlt (ih (by omega) (fun j hj => hb j (by omega))) ?_
    simp only [okB]
    have a : ((s[k + n]'hlt).toNat == 47) = false := beq_eq_false_iff_ne.2 (by omega)
    have b : ((s[k + n]'hlt).toNat == 0) = false := beq_eq_false_iff_ne.2 (by omega)
    rw [a, b]; rfl
theorem ok_step (s : ByteArray) (k : Nat) (hk : k < s.size) (hr : 128 ≤ (dec s k).1) (h : ((bl s).take k).all okB = true) : ((bl s).take (k + (dec s k).2)).all okB = true :=
  ok_more s k h _ (dec_pos s k hk).2.1 (high_bytes s k hk hr)
theorem any_hit (s : ByteArray) (k : Nat) (hk : k < s.size) (hb : okB (s[k]'hk) = false) : anyB s = true := by
  have e : (bl s).all okB = false := by
    rw [List.all_eq_false]
    exact ⟨s[k]'hk, by rw [show s[k]'hk = (bl s)[k]'(by rw [bl_length]; exact hk) from rfl]; exact List.getElem_mem _, by simp [hb]⟩
  rw [anyB, e]; rfl
theorem any_none (s : ByteArray) (k : Nat) (hk : ¬ k < s.size) (h : ((bl s).take k).all okB = true) : anyB s = false := by
  rw [List.take_of_length_le (by rw [bl_length]; omega)] at h
  rw [anyB, h]; rfl
/-- A character beyond ASCII, as the decoder tells it, can be written, or is the one for what is no UTF-8. -/
theorem dec_valid (s : ByteArray) (k : Nat) (hk : k < s.size) (hr : 128 ≤ (dec s k).1) (hne : (dec s k).1 ≠ 65533) : Lib.validRune ((dec s k).1 : Int) = true := by
  simp only [Lib.validRune]
  rcases dec_cases s k hk with h | h | h | h | h
  · omega
  · omega
  all_goals (simp; omega)

set_option maxHeartbeats 8000000 in
set_option maxRecDepth 1000000 in
/-- strings.IndexAny of a short text: whether one of the two signs is there. -/
theorem any_short (C : ByteArray) (hC : C = bars) (s : ByteArray) (h8 : s.size ≤ 8) (w : World) :
    Calls Tryd.prog 18 #[.string s, .string C] w fun e w' => ∃ i : Int, e = .returned (.int .i64 i) ∧ decide (0 ≤ i) = anyB s ∧ Below w.heap.size w w' := by
  have hemp : C.toList.isEmpty = false := by rw [hC, ByteArray.toList_eq]; rfl
  have hn1 : ((C.size : Int) == 1) = false := by rw [hC]; rfl
  have h8z : decide ((8 : Int) < (s.size : Int)) = false := decide_eq_false (by omega)
  have HC : Hid (C = bars) := hC
  clear hC
  go_enter Tryd.func18, Tryd.ntmps18
  go_wp2_with (go_at_call 20; refine (Tryd.strings_shouldUseASCIISet _ _).mono ?_; rintro e w' ⟨rfl, hw⟩; rw [hw, h8z])
  go_loopw [9, 10] (fun _ _ wr => ∃ pos : Nat, pos ≤ s.size ∧ wr.heap[w.heap.size]? = some (.stringIter s pos) ∧ ((bl s).take pos).all okB = true ∧ Below w.heap.size w wr) (fun _ _ wr => s.size - wr.iterPos w.heap.size)
  case atStart => exact ⟨0, by omega, World.iter_heap w s 0, rfl, (Below.refl _ _).alloc (Nat.le_refl _) _⟩
  case round =>
    obtain ⟨pos, hpos, hit, hall, hbel⟩ := hrel
    have HA : Hid (((bl s).take pos).all okB = true) := hall
    have hpos0 := iterPos_of hit
    clear hall
    by_cases hp : pos < s.size
    · have hd := dec_pos s pos hp
      have hnx : ∀ ty, (Instr.next (.pointer (some ⟨w.heap.size, 0, none⟩)) true ty).run Tryd.prog wr = _ := fun ty => Lib.run_next_any_at wr w.heap.size s pos ty hit hp
      have hit2 := Lib.iterAt_heap wr w.heap.size s pos (pos + (Utf8.decode s pos).2) hit
      have hbw2 := Lib.below_iterAt hbel (k := w.heap.size) (Nat.le_refl _) s (pos + (Utf8.decode s pos).2)
      have HS : Hid (128 ≤ (dec s pos).1 → ((bl s).take (pos + (dec s pos).2)).all okB = true) := fun h => ok_step s pos hp h HA.out
      have HV : Hid (128 ≤ (dec s pos).1 → (dec s pos).1 ≠ 65533 → Lib.validRune ((dec s pos).1 : Int) = true) := dec_valid s pos hp
      have HQ : Hid ((dec s pos).1 < 128 → (dec s pos).2 = 1 ∧ (dec s pos).1 = (s[pos]'hp).toNat) := by
        intro h
        rcases dec_cases s pos hp with h' | h' | h' | h' | h'
        · refine ⟨h'.1, ?_⟩
          rw [h'.2.2, Utf8W.get!_of_lt s pos hp]
        all_goals omega
      rw [dec] at hd
      simp only [dec] at HS HV HQ
      obtain ⟨R, hR⟩ : ∃ R, (Utf8.decode s pos).1 = R := ⟨_, rfl⟩
      obtain ⟨K, hK⟩ : ∃ K, (Utf8.decode s pos).2 = K := ⟨_, rfl⟩
      rw [hR, hK] at hnx hd HS HQ
      rw [hR] at HV
      rw [hK] at hit2 hbw2
      obtain ⟨hd1, hd2, hd3, hd4⟩ := hd
      obtain ⟨W2, hW2⟩ : ∃ W2, W2 = wr.iterAt w.heap.size s (pos + K) := ⟨_, rfl⟩
      rw [← hW2] at hnx hit2 hbw2
      have hBlt := (Array.getElem?_eq_some_iff.1 hit2).1
      have HI2 : Hid (W2.heap[w.heap.size]? = some (.stringIter s (pos + K))) := hit2
      have HB2 : Hid (Below w.heap.size w W2) := hbw2
      clear hW2 hR hK hit hbel hit2 hbw2
      by_cases hr : 128 ≤ R
      · have HS2 := HS.out hr
        have HS3 : Hid (((bl s).take (pos + K)).all okB = true) := HS2
        have cR : Hid (Calls Tryd.prog 19 #[.string C, .int .i32 R] W2 fun e w' => e = .returned (.int .i64 (-1)) ∧ Below W2.heap.size W2 w') := by
          by_cases h : R = 65533
          · subst h; exact rune_bad C HC.out W2
          · exact rune_high C HC.out R (by omega) (by omega) (beq_eq_false_iff_ne.2 (by omega)) (HV.out hr h) W2
        clear HS HV HQ HS2
        go_wp2_with (go_at_call 19; refine cR.out.mono ?_; rintro e w3 ⟨rfl, hb3⟩
                     have HI3 : Hid (w3.heap[w.heap.size]? = some (.stringIter s (pos + K))) := (hb3.block _ hBlt).trans HI2.out
                     have HB3 : Hid (Below w.heap.size w w3) := HB2.out.trans (hb3.mono (by omega))
                     clear hb3)
        go_roundw
        case rel => exact ⟨pos + K, by omega, HI3.out, HS3.out, HB3.out⟩
        case measure => rw [iterPos_of HI3.out, hpos0]; omega
      · obtain ⟨hK1, hRx⟩ := HQ.out (by omega)
        subst hK1
        have cR : Hid (Calls Tryd.prog 19 #[.string C, .int .i32 R] W2 fun e w' => e = .returned (.int .i64 (Lib.indexByte (bl bars) (s[pos]'hp))) ∧ w' = W2) := by
          have h := Tryd.strings_IndexRune_ascii C R W2 (by omega) (by omega)
          have e : ((R : Int)).toNat.toUInt8 = s[pos]'hp := by rw [hRx]; simp
          rw [e, HC.out] at h
          rw [HC.out]
          exact h
        have hcon := Lib.contains_iff_indexByte (bl bars) (s[pos]'hp)
        rw [bars_has] at hcon
        obtain ⟨ix, hix⟩ : ∃ ix, Lib.indexByte (bl bars) (s[pos]'hp) = ix := ⟨_, rfl⟩
        rw [hix] at hcon cR
        cases hok : okB (s[pos]'hp) with
        | true =>
          rw [hok] at hcon
          have hlt : ¬ (0 : Int) ≤ ix := of_decide_eq_false hcon.symm
          have HS3 : Hid (((bl s).take (pos + 1)).all okB = true) := take_ok s pos hp HA.out hok
          clear HS HV HQ hcon hix hok hRx
          go_wp2_with (go_at_call 19; refine cR.out.mono ?_; rintro e w3 ⟨rfl, hw⟩; rw [hw]; clear hw)
          go_roundw
          case rel => exact ⟨pos + 1, by omega, HI2.out, HS3.out, HB2.out⟩
          case measure => rw [iterPos_of HI2.out, hpos0]; omega
        | false =>
          rw [hok] at hcon
          have hge : (0 : Int) ≤ ix := of_decide_eq_true hcon.symm
          have HS3 : Hid (anyB s = true) := any_hit s pos hp hok
          clear HS HV HQ hcon hix hok hRx
          go_wp2_with (go_at_call 19; refine cR.out.mono ?_; rintro e w3 ⟨rfl, hw⟩; rw [hw]; clear hw)
          go_ret
          exact ⟨_, rfl, by rw [HS3.out]; simp, HB2.out⟩
    · have hnx : ∀ ty, (Instr.next (.pointer (some ⟨w.heap.size, 0, none⟩)) true ty).run Tryd.prog wr = _ := fun ty => Lib.run_next_end_at wr w.heap.size s pos ty hit hp
      have HS3 : Hid (anyB s = false) := any_none s pos hp HA.out
      go_wp2
      go_ret
      exact ⟨-1, rfl, by rw [HS3.out]; rfl, hbel⟩
end Go.Proofs.YtpggbpbibbhepaaDoor
