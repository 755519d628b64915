/-
  The program's Fold.
-/
import Derived.Test.YtpggbpbibbhepaaDoorDf2
import Derived.Test.YtpggbpbibbhepaaDoorDf3
import Derived.Test.YtpggbpbibbhepaaDoorDg
namespace Go.Proofs.YtpggbpbibbhepaaDoor
open Go.ChangeShapes Go.WideShapes Go.ChangeAt Go.RowKit
set_option linter.unusedVariables false
set_option linter.unusedSimpArgs false

theorem iterPos_of {w : World} {k : Nat} {s : ByteArray} {p : Nat} (h : w.heap[k]? = some (.stringIter s p)) : w.iterPos k = p := by simp [World.iterPos, h]
theorem drop_split (s : ByteArray) (k n : Nat) : (bl s).drop k = ((bl s).drop k).take n ++ (bl s).drop (k + n) := by
  rw [← List.drop_drop, List.take_append_drop]
/-- Bytes as a text. -/
theorem row_text {w : World} {B cp n : Nat} {l : List UInt8} (h : Row w B l) (hn : l.length = n) : (convert 24 9 (.slice (some ⟨B, 0, none⟩) n cp)).run Tryd.prog w = .ok (.string (str l)) w := by
  subst hn
  exact run_convert_bytes_back (P := Tryd.prog) w 24 9 5 ⟨B, 0, none⟩ cp l Tryd.underlying24 Tryd.underlying5 Tryd.underlying9 (fun j hj => by rw [add_at]; exact h.1 j hj)

set_option maxRecDepth 1000000 in
set_option maxHeartbeats 4000000 in
theorem fold_ok (s : ByteArray) (hs : s.size + 4 ≤ 140737488355328) : FoldOk s := by
  intro w _ _
  have hcv := run_bw w s
  have hrow := bw_row w s
  have hb := below_bw (Below.refl w.heap.size w) (Nat.le_refl _) s
  have hz := bw_size w s
  obtain ⟨W1, hW1⟩ : ∃ W1, bw w s = W1 := ⟨_, rfl⟩
  obtain ⟨cp, hcp⟩ : ∃ cp, room w s = cp := ⟨_, rfl⟩
  have hcg : s.size ≤ cp := by rw [← hcp]; exact grownCap_ge _ _ _ _
  rw [hW1] at hcv hrow hb hz
  rw [hcp] at hcv
  have HR : Hid (Row W1 w.heap.size (bl s)) := hrow
  have HB : Hid (Below w.heap.size w W1) := hb
  clear hW1 hrow hb hcp
  go_enter Tryd.func4, Tryd.ntmps4
  go_wp2
  go_loopw [4, 5, 6] (fun _ _ _ wr => ∃ (pos : Nat) (l : List UInt8), pos ≤ s.size ∧ wr.heap[w.heap.size + 1]? = some (.stringIter s pos) ∧ Row wr w.heap.size (l ++ (bl s).drop pos) ∧ l.length = pos ∧ l ++ fold s pos = fold s 0 ∧ Below w.heap.size w wr) (fun _ _ _ wr => s.size - wr.iterPos (w.heap.size + 1))
  case atStart =>
    have e0 : ∀ k, k < W1.heap.size → (W1.iter s 0).heap[k]? = W1.heap[k]? := fun k hk => Below.heap_alloc _ _ _ hk
    exact ⟨0, [], by omega, by rw [← hz]; exact World.iter_heap W1 s 0, by rw [List.nil_append, List.drop_zero]; exact HR.out.block (e0 _ (by omega)), rfl, rfl, HB.out.alloc (by omega) _⟩
  case round =>
    obtain ⟨pos, l, hpos, hit, hrow, hn, hl, hbel⟩ := hrel
    have HL : Hid (l ++ fold s pos = fold s 0) := hl
    have HR1 : Hid (Row wr w.heap.size (l ++ (bl s).drop pos)) := hrow
    have HB1 : Hid (Below w.heap.size w wr) := hbel
    have HN : Hid (l.length = pos) := hn
    have hpos0 := iterPos_of hit
    clear hl hrow hbel hn HR HB
    by_cases hp : pos < s.size
    · have hd := dec_pos s pos hp
      obtain ⟨R, hR⟩ : ∃ R, (Utf8.decode s pos).1 = R := ⟨_, rfl⟩
      obtain ⟨K, hK⟩ : ∃ K, (Utf8.decode s pos).2 = K := ⟨_, rfl⟩
      have HS : Hid (fold s pos = piece s pos ++ fold s (pos + K)) := by show fold s pos = _; rw [fold_step s pos hp, ← hK]
      have HPL : Hid ((piece s pos).length = K) := by show (piece s pos).length = K; rw [piece_length s pos hp, ← hK]
      have hnx : ∀ ty, (Instr.next (.pointer (some ⟨w.heap.size + 1, 0, none⟩)) true ty).run Tryd.prog wr = _ := fun ty => Lib.run_next_any_at wr (w.heap.size + 1) s pos ty hit hp
      have hit2 := Lib.iterAt_heap wr (w.heap.size + 1) s pos (pos + K) hit
      have hbw2 := Lib.below_iterAt HB1.out (k := w.heap.size + 1) (by omega) s (pos + K)
      have hrow2 := HR1.out.block (w' := wr.iterAt (w.heap.size + 1) s (pos + K)) (Lib.iterAt_other wr (w.heap.size + 1) w.heap.size s (pos + K) (by omega))
      rw [hR, hK] at hnx
      obtain ⟨L, hL⟩ : ∃ L, lowZ R = L := ⟨_, rfl⟩
      have HPs : Hid (L = R → piece s pos = ((bl s).drop pos).take K) := by
        intro e
        rw [piece_same s pos hp (by rw [dec, hR, hL, e]), dec, hK]
      have HPl : Hid (L ≠ R → piece s pos = Lib.encodeRune L ∧ (Lib.encodeRune L).length = K ∧ L ≤ 2047 ∧ 0 ≤ L) := by
        intro e
        have h := piece_low s pos hp (by rw [dec, hR, hL]; exact e)
        rw [dec, hR, hL, hK] at h
        refine ⟨h.1, h.2, ?_, ?_⟩
        · by_cases a : (R : Int) < 128
          · have := low_1 (r := (R : Int)) (by omega) a; omega
          by_cases b : (R : Int) ≤ 2047
          · have := low_2 (r := (R : Int)) (by omega) b; omega
          · exact absurd (by rw [← hL, low_3 (by omega)]) e
        · rw [← hL]; exact (low_bound (by omega) (by rw [dec, hR] at hd; omega)).1
      rw [dec, hR, hK] at hd
      obtain ⟨hd1, hd2, hd3, hd4⟩ := hd
      have cS : Hid (∀ w, Calls Tryd.prog 8 #[.int .i32 R] w fun e w' => e = .returned (.int .i32 L) ∧ w' = w) := by
        intro w; rw [← hL]; exact small_walk _ w (by omega) (by omega)
      obtain ⟨W2, hW2⟩ : ∃ W2, W2 = wr.iterAt (w.heap.size + 1) s (pos + K) := ⟨_, rfl⟩
      rw [← hW2] at hnx hit2 hbw2 hrow2
      have HI2 : Hid (W2.heap[w.heap.size + 1]? = some (.stringIter s (pos + K))) := hit2
      have HB2 : Hid (Below w.heap.size w W2) := hbw2
      have HR2 : Hid (Row W2 w.heap.size (l ++ (bl s).drop pos)) := hrow2
      clear hW2 hR hK hL hit hit2 hbw2 hrow2 HR1 HB1
      by_cases hlr : L = R
      · have HP := HPs.out hlr
        have HP1 : Hid (piece s pos = ((bl s).drop pos).take K) := HP
        subst hlr
        clear HP HPs HPl
        go_wp2_with (go_at_call 8; refine (cS.out _).mono ?_; rintro e w' ⟨rfl, hw⟩; rw [hw]; clear hw)
        go_roundw
        case rel => exact ⟨pos + K, l ++ piece s pos, by omega, HI2.out, by rw [List.append_assoc, HP1.out, ← drop_split]; exact HR2.out, by rw [List.length_append, HPL.out, HN.out], by rw [← HL.out, HS.out, List.append_assoc], HB2.out⟩
        case measure => rw [iterPos_of HI2.out, hpos0]; omega
      · obtain ⟨h1, h2, h3, h4⟩ := HPl.out hlr
        have HP1 : Hid (piece s pos = Lib.encodeRune L) := h1
        have HP2 : Hid ((Lib.encodeRune L).length = K) := h2
        have hne : (L == (R : Int)) = false := beq_eq_false_iff_ne.2 hlr
        have cE : Hid (∀ len cap, K ≤ len → Calls Tryd.prog 9 #[.slice (some ⟨w.heap.size, pos, none⟩) len cap, .int .i32 L] W2 fun e w' => (∃ k, e = .returned k) ∧ w' = W2.setCells w.heap.size pos ((Lib.encodeRune L).map by8)) := by
          intro len cap hlen
          have ht : (((bl s).drop pos).take K).length = K := by rw [List.length_take, List.length_drop, bl_length]; omega
          refine enc_walk w.heap.size pos len cap L h4 h3 W2 l (((bl s).drop pos).take K) ((bl s).drop (pos + K)) HN.out (by rw [HP2.out, ht]) (by omega) ?_
          rw [List.append_assoc, ← drop_split]
          exact HR2.out
        have hcpos : ¬ cp = pos := by omega
        clear HPs HPl h1 h2
        go_wp2_with (first
          | (go_at_call 8; refine (cS.out _).mono ?_; rintro e w' ⟨rfl, hw⟩; rw [hw]; clear hw)
          | (go_at_call 9; refine (cE.out _ _ (by omega)).mono ?_; rintro e w3 ⟨⟨k3, rfl⟩, hw3⟩
             have HI3 : Hid (w3.heap[w.heap.size + 1]? = some (.stringIter s (pos + K))) := by
               show w3.heap[_]? = _
               rw [hw3, setCells_other w.heap.size (by omega)]; exact HI2.out
             have HB3 : Hid (Below w.heap.size w w3) := by
               show Below w.heap.size w w3
               rw [hw3]; exact Lib.below_setCells w.heap.size (Nat.le_refl _) _ _ HB2.out
             have HR3 : Hid (Row w3 w.heap.size (l ++ Lib.encodeRune L ++ (bl s).drop (pos + K))) := by
               show Row w3 _ _
               rw [hw3, ← HN.out]
               refine Row.sets (m := ((bl s).drop pos).take K) ?_ ?_
               · rw [HN.out, List.append_assoc, ← drop_split]; exact HR2.out
               · rw [HP2.out, List.length_take, List.length_drop, bl_length]; omega
             clear hw3))
        go_roundw
        case rel => exact ⟨pos + K, l ++ Lib.encodeRune L, by omega, HI3.out, HR3.out, by rw [List.length_append, HP2.out, HN.out], by rw [← HL.out, HS.out, HP1.out, List.append_assoc], HB3.out⟩
        case measure => rw [iterPos_of HI3.out, hpos0]; omega
    · have hnx : ∀ ty, (Instr.next (.pointer (some ⟨w.heap.size + 1, 0, none⟩)) true ty).run Tryd.prog wr = _ := fun ty => Lib.run_next_end_at wr (w.heap.size + 1) s pos ty hit hp
      have hps : pos = s.size := by omega
      have hd0 : (bl s).drop pos = [] := by rw [List.drop_eq_nil_iff, bl_length]; omega
      have HF : Hid (l = fold s 0) := by
        have h := HL.out
        rw [fold_end s pos (by omega), List.append_nil] at h; exact h
      have hte := row_text (cp := cp) (n := s.size) (by have h := HR1.out; rw [hd0, List.append_nil] at h; exact h) (by have := HN.out; omega)
      clear hd0
      go_wp2
      go_ret
      exact ⟨by rw [← HF.out]; rfl, HB1.out⟩
end Go.Proofs.YtpggbpbibbhepaaDoor
