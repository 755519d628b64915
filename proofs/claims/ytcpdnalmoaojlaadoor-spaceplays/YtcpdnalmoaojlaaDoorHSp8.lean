import Derived.Test.YtcpdnalmoaojlaaDoorHSp1
import Derived.Test.YtcpdnalmoaojlaaDoorHLent
import Derived.Laws.BitsAllLaws
import Derived.Deep.RegionHeld3
import Derived.Laws.Rows

/-
  Numbers as bytes.
-/
namespace Go.Proofs.YtcpdnalmoaojlaaDoor
open Go.ChangeShapes Go.WideShapes Go.ChangeAt Go.RowKit
set_option linter.unusedVariables false

theorem take_snoc' {α : Type} (L : List α) (k : Nat) (hk : k < L.length) : L.take (k + 1) = L.take k ++ [L[k]] := List.take_succ_eq_append_getElem hk
theorem or_step (N x k : Nat) (hN : N < 256 ^ k) (hx : x < 256) (hk : k < 8) : bits .or .u64 (N : Int) (IntKind.u64.wrap ((x : Int) * 2 ^ (8 * k))) = ((N + x * 256 ^ k : Nat) : Int) := by
  have e256 : (256 : Nat) ^ k = 2 ^ (8 * k) := by rw [Nat.pow_mul]
  have hle : (256 : Nat) ^ (k + 1) ≤ 256 ^ 8 := Nat.pow_le_pow_right (by omega) (by omega)
  have h8 : (256 : Nat) ^ 8 = 18446744073709551616 := by decide
  have hp : 0 < (256 : Nat) ^ k := Nat.pow_pos (by omega)
  have hb : x * 256 ^ k < 18446744073709551616 := by
    have : (x + 1) * 256 ^ k ≤ 256 * 256 ^ k := Nat.mul_le_mul_right _ (by omega)
    rw [Nat.pow_succ, Nat.mul_comm] at hle
    have h3 : (x + 1) * 256 ^ k = x * 256 ^ k + 256 ^ k := Nat.succ_mul _ _
    omega
  have ha : N < 18446744073709551616 := by
    have : (256 : Nat) ^ k ≤ 256 ^ 8 := Nat.pow_le_pow_right (by omega) (by omega)
    omega
  have ec : (x : Int) * 2 ^ (8 * k) = ((x * 256 ^ k : Nat) : Int) := by rw [e256]; simp
  have ew : IntKind.u64.wrap ((x * 256 ^ k : Nat) : Int) = ((x * 256 ^ k : Nat) : Int) := by
    generalize x * 256 ^ k = z at hb
    simp only [IntKind.wrap, IntKind.bits, IntKind.signed]
    simp
    omega
  rw [ec, ew, u64_or_nat _ _ ha hb]
  have h := Nat.two_pow_add_eq_or_of_lt (i := 8 * k) (b := N) (by rw [← e256]; exact hN) x
  rw [← e256, Nat.mul_comm] at h
  rw [Nat.add_comm, h, Nat.or_comm]
set_option maxRecDepth 100000 in
theorem number_any (l : List UInt8) (n b off cp : Nat) (w : World) (hn : n = l.length) (hl : l.length ≤ 8) (hv : BytesAt w b off l) : Calls Tryd.prog 62 #[.slice (some ⟨b, off, none⟩) n cp] w fun e w' => e = .returned (.int .u64 (leN l : Nat)) ∧ w' = w := by
  have HV := hid_mk hv
  have HN := hid_mk hn
  have hn8 : n ≤ 8 := by omega
  clear hv hn hl
  go_enter Tryd.func62, Tryd.ntmps62
  go_wp2
  go_loopw [3, 8] (fun v i wr => ∃ k N : Nat, v = .int .u64 (N : Int) ∧ i = .int .i64 (k : Int) ∧ k ≤ n ∧ N = leN (l.take k) ∧ wr = w) (fun _ i _ => n - (intOf i).toNat)
  case atStart => exact ⟨0, 0, rfl, rfl, by omega, by simp [leN], rfl⟩
  case round =>
    obtain ⟨k, N, rfl, rfl, hk, hN, rfl⟩ := hrel
    have HNN := hid_mk hN
    clear hN
    by_cases hlt : k < n
    · have hkl : k < l.length := by rw [← HN.out]; exact hlt
      have hc := HV.out k hkl
      obtain ⟨x, hx⟩ : ∃ x, x = l[k].toNat := ⟨_, rfl⟩
      have hx8 : x < 256 := by rw [hx]; exact (l[k]).toNat_lt
      rw [← hx] at hc
      have HX := hid_mk hx
      clear hx
      go_wp2
      go_roundw
      case rel =>
        have hNb : N < 256 ^ k := by rw [HNN.out]; exact leN_take_lt l k
        refine ⟨k + 1, N + x * 256 ^ k, by rw [or_step N x k hNb hx8 (by omega)], by go_num, by omega, ?_, trivial⟩
        rw [take_snoc' l k hkl, leN_snoc, List.length_take, Nat.min_eq_left (by omega), ← HX.out, ← HNN.out]
      case measure => simp [intOf]; omega
    · obtain rfl : k = n := by omega
      go_wp2
      go_ret
      exact ⟨ret_int (by rw [HNN.out, HN.out, List.take_length]), rfl⟩
theorem byte_at (N k : Nat) : ((N : Int) / 2 ^ (8 * k)) % 256 = (((UInt8.ofNat (N / 256 ^ k)).toNat : Nat) : Int) := by
  have e256 : (256 : Nat) ^ k = 2 ^ (8 * k) := by rw [Nat.pow_mul]
  have e : (UInt8.ofNat (N / 256 ^ k)).toNat = N / 256 ^ k % 256 := by simp
  rw [e, e256]
  simp
set_option maxRecDepth 100000 in
theorem appendNumber_any (l : List UInt8) (base N size : Nat) (v : Value) (w : World) (hN : N < 18446744073709551616) (hs : size ≤ 8) (hl : l.length ≤ 70368744177664) (hb : base ≤ w.heap.size) (ho : Owns w base v l) :
    Calls Tryd.prog 65 #[v, .int .u64 (N : Int), .int .i64 (size : Int)] w fun e w' => ∃ v', e = .returned v' ∧ Owns w' base v' (l ++ toLe N size) ∧ Below base w w' := by
  have HO := hid_mk ho
  obtain ⟨ao, cp, rfl⟩ := ho.shape
  clear ho
  go_enter Tryd.func65, Tryd.ntmps65
  go_wp2
  go_loopw [0, 9] (fun x i wr => ∃ k : Nat, i = .int .i64 (k : Int) ∧ k ≤ size ∧ Owns wr base x (l ++ toLe N k) ∧ Below base w wr) (fun _ i _ => size - (intOf i).toNat)
  case atStart => exact ⟨0, rfl, by omega, by simpa [toLe] using HO.out, Below.refl _ _⟩
  case round =>
    rename_i x
    obtain ⟨k, rfl, hk, hx, hbe⟩ := hrel
    obtain ⟨xo, xc, rfl⟩ := hx.shape
    have HX := hid_mk hx
    have HB := hid_mk hbe
    obtain ⟨m, hm⟩ : ∃ m, m = (l ++ toLe N k).length := ⟨_, rfl⟩
    have hm2 : m = l.length + k := by rw [hm, List.length_append, toLe_length]
    rw [← hm] at HX ⊢
    have HM := hid_mk hm
    have hm47 : m ≤ 70368744177680 := by omega
    clear hx hbe hm hm2
    by_cases hlt : k < size
    · have HBY := hid_mk (byte_at N k)
      have HTL : Hid (l ++ toLe N (k + 1) = (l ++ toLe N k) ++ [UInt8.ofNat (N / 256 ^ k)]) := by show _ = _; rw [List.append_assoc]; rfl
      have HBS : Hid (base ≤ wr.heap.size) := Nat.le_trans hb HB.out.size
      have HA : Hid (∀ u, Owns (wr.alloc (.cells #[u] 5)) base (.slice xo m xc) (l ++ toLe N k)) := fun u => HX.out.below (Below.alloc (Below.refl _ _) (Nat.le_refl _) _)
      go_wp2_with (at_builtin; refine wpList_add rfl _ _ rfl base _ (l ++ toLe N k) rfl (HA.out _) wr.heap.size 0 1 1 [UInt8.ofNat (N / 256 ^ k)] rfl rfl (one_bytes wr _ _ (by rw [HBY.out]) _ rfl) (by rw [← HM.out]; simp; omega) (Nat.le_trans HBS.out (by simp)) ?_; intro v' w2 h1 h2 h3; have H1 := hid_mk h1; have H2 : Hid (Below base w w2) := (Below.alloc HB.out HBS.out _).trans h2; clear h1 h2 h3)
      go_roundw
      case rel => exact ⟨k + 1, by go_num, by omega, by rw [HTL.out]; exact H1.out, H2.out⟩
      case measure => simp [intOf]; omega
    · obtain rfl : k = size := by omega
      go_wp2
      go_ret
      exact ⟨_, rfl, HX.out, HB.out⟩
end Go.Proofs.YtcpdnalmoaojlaaDoor

/-
  runOf.
-/
namespace Go.Proofs.YtcpdnalmoaojlaaDoor
open Go.ChangeShapes Go.WideShapes Go.ChangeAt Go.RowKit
set_option linter.unusedVariables false
set_option linter.unusedSimpArgs false

theorem bytesAt_part {w : World} {b off : Nat} {l : List UInt8} (hv : BytesAt w b off l) (i k : Nat) (h : i + k ≤ l.length) : BytesAt w b (off + i) ((l.drop i).take k) := by
  intro j hj
  have hj' : j < k := by rw [List.length_take] at hj; omega
  have := hv (i + j) (by omega)
  rw [Nat.add_assoc, this]
  simp
def runv (p : Pc) : Array Value := #[.int .i64 (p.at' : Int), .int .i64 (p.n : Int), .int .i64 (p.count : Int), .int .u64 (p.tag : Int)]
set_option maxRecDepth 100000 in
set_option maxHeartbeats 4000000 in
theorem runOf_any (l : List UInt8) (b off cp : Nat) (w : World) (hl : l.length = 18) (hcp : 18 ≤ cp) (hb : b < w.heap.size) (hv : BytesAt w b off l) :
    Calls Tryd.prog 63 #[.slice (some ⟨b, off, none⟩) 18 cp] w fun e w' => e = .returned (.agg (runv (runP l))) ∧ Below w.heap.size w w' := by
  obtain ⟨b1, b2, b3, b4, _⟩ := runP_bounds l hl
  have hv' : ∀ W, Below w.heap.size w W → BytesAt W b off l := fun W hW i hi => (hW.cell (p := ⟨b, off + i, none⟩) hb).trans (hv i hi)
  have H1 : Hid (∀ W c, Below w.heap.size w W → Calls Tryd.prog 62 #[.slice (some ⟨b, off, none⟩) 4 c] W fun e w' => e = .returned (.int .u64 ((runP l).at' : Int)) ∧ w' = W) := fun W c hW => number_any (l.take 4) 4 b off c W (by rw [List.length_take]; omega) (by rw [List.length_take]; omega) (by have := bytesAt_part (hv' W hW) 0 4 (by omega); simpa using this)
  have H2 : Hid (∀ W c, Below w.heap.size w W → Calls Tryd.prog 62 #[.slice (some ⟨b, off + 4, none⟩) 4 c] W fun e w' => e = .returned (.int .u64 ((runP l).n : Int)) ∧ w' = W) := fun W c hW => number_any _ 4 b (off + 4) c W (by rw [List.length_take, List.length_drop]; omega) (by rw [List.length_take, List.length_drop]; omega) (bytesAt_part (hv' W hW) 4 4 (by omega))
  have H3 : Hid (∀ W c, Below w.heap.size w W → Calls Tryd.prog 62 #[.slice (some ⟨b, off + 8, none⟩) 2 c] W fun e w' => e = .returned (.int .u64 ((runP l).count : Int)) ∧ w' = W) := fun W c hW => number_any _ 2 b (off + 8) c W (by rw [List.length_take, List.length_drop]; omega) (by rw [List.length_take, List.length_drop]; omega) (bytesAt_part (hv' W hW) 8 2 (by omega))
  have H4 : Hid (∀ W c, Below w.heap.size w W → Calls Tryd.prog 62 #[.slice (some ⟨b, off + 10, none⟩) 8 c] W fun e w' => e = .returned (.int .u64 ((runP l).tag : Int)) ∧ w' = W) := fun W c hW => number_any _ 8 b (off + 10) c W (by rw [List.length_drop]; omega) (by rw [List.length_drop]; omega) (by have := bytesAt_part (hv' W hW) 10 8 (by omega); rwa [List.take_of_length_le (by rw [List.length_drop]; omega)] at this)
  unfold runv
  obtain ⟨A, hA⟩ : ∃ A, A = (runP l).at' := ⟨_, rfl⟩
  obtain ⟨B, hB⟩ : ∃ B, B = (runP l).n := ⟨_, rfl⟩
  obtain ⟨C, hC⟩ : ∃ C, C = (runP l).count := ⟨_, rfl⟩
  obtain ⟨D, hD⟩ : ∃ D, D = (runP l).tag := ⟨_, rfl⟩
  rw [← hA] at H1 b1 ⊢
  rw [← hB] at H2 b2 ⊢
  rw [← hC] at H3 b3 ⊢
  rw [← hD] at H4 b4 ⊢
  clear hA hB hC hD hv hv' hl
  have wA : IntKind.i64.wrap (A : Int) = (A : Int) := by rw [IntKind.wrap_i64]; omega
  have wB : IntKind.i64.wrap (B : Int) = (B : Int) := by rw [IntKind.wrap_i64]; omega
  have wC : IntKind.i64.wrap (C : Int) = (C : Int) := by rw [IntKind.wrap_i64]; omega
  have HW : Hid (∀ A, Below w.heap.size w (w.alloc A)) := fun A => Below.alloc (Below.refl _ _) (Nat.le_refl _) _
  obtain ⟨V, hV⟩ : ∃ V, V = w.alloc (.cells #[.int .i64 0, .int .i64 0, .int .i64 0, .int .u64 0] 48) := ⟨_, rfl⟩
  have HV : Hid (Below w.heap.size w V) := by show Below _ _ _; rw [hV]; exact HW.out _
  have h4c : (4 : Int) ≤ (cp : Int) := by omega
  have h8c : (8 : Int) ≤ (cp : Int) := by omega
  have h10c : (10 : Int) ≤ (cp : Int) := by omega
  have h18c : (18 : Int) ≤ (cp : Int) := by omega
  have n4 : ¬ cp - 4 = 0 := by omega
  have n8 : ¬ cp - 8 = 0 := by omega
  have n10 : ¬ cp - 10 = 0 := by omega
  have m4 : ¬ cp = 4 := by omega
  have m8 : ¬ cp = 8 := by omega
  have m10 : ¬ cp = 10 := by omega
  have l4 : ¬ cp ≤ 4 := by omega
  have l8 : ¬ cp ≤ 8 := by omega
  have l10 : ¬ cp ≤ 10 := by omega
  go_enter Tryd.func63, Tryd.ntmps63
  go_wp2_with fail
  clear hV HV
  go_region_held3 (fun _ => True) (trivial) (first
    | (go_at_call 62; refine (H1.out (w.alloc (.cells #[.int .i64 0, .int .i64 0, .int .i64 0, .int .u64 0] 48)).drew cp (Below.drew (HW.out _))).mono ?_; clear H1; rintro e w2 ⟨rfl, hw2⟩; rw [hw2]; clear hw2)
    | (go_at_call 62; refine (H2.out (w.alloc (.cells #[.int .i64 0, .int .i64 0, .int .i64 0, .int .u64 0] 48)).drew (cp - 4) (Below.drew (HW.out _))).mono ?_; clear H2; rintro e w2 ⟨rfl, hw2⟩; rw [hw2]; clear hw2)
    | (go_at_call 62; refine (H3.out (w.alloc (.cells #[.int .i64 0, .int .i64 0, .int .i64 0, .int .u64 0] 48)).drew (cp - 8) (Below.drew (HW.out _))).mono ?_; clear H3; rintro e w2 ⟨rfl, hw2⟩; rw [hw2]; clear hw2)
    | (go_at_call 62; refine (H4.out (w.alloc (.cells #[.int .i64 0, .int .i64 0, .int .i64 0, .int .u64 0] 48)).drew (cp - 10) (Below.drew (HW.out _))).mono ?_; clear H4; rintro e w2 ⟨rfl, hw2⟩; rw [hw2]; clear hw2))
  go_wp2_with fail
  refine bodyPost_ret (v := .agg #[.int .i64 (A : Int), .int .i64 (B : Int), .int .i64 (C : Int), .int .u64 (D : Int)]) ?_ rfl ⟨rfl, Below.drew (HW.out _)⟩
  exact results_cell_row rfl _ _ w.heap.size 48 _ (0, 0) _ rfl (heap_alloc_new w _) rfl rfl rfl
end Go.Proofs.YtcpdnalmoaojlaaDoor
