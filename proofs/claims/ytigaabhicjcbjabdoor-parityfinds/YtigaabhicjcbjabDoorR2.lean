/-
  The document's own sums of columns.
-/
import Derived.Test.YtigaabhicjcbjabDoorR1
import Derived.Deep.QuietTactic
import Derived.BigQuiet
namespace Go.Proofs.YtigaabhicjcbjabDoor
open Go.ChangeShapes Go.WideShapes Go.ChangeAt Go.RowKit
set_option linter.unusedVariables false

theorem drewN_below (B : Nat) (w : World) (n : Nat) : Below B w (w.drewN n) := ⟨rfl, rfl, rfl, Nat.le_refl _, fun _ _ => rfl⟩
theorem drew_below (B : Nat) (w : World) : Below B w w.drew := Below.drew (Below.refl _ _)
theorem Rd.byte {n₀ : Nat} {w : World} {ul : Option Addr} {n uc : Nat} {l : List UInt8} (h : Rd n₀ w (.slice ul n uc) l) (k : Nat) (hk : k < l.length) : ∃ b off, ul = some ⟨b, off, none⟩ ∧ b < n₀ ∧ w.cell? ⟨b, off + k, none⟩ = some (.int .u8 ((at0 l k).toNat : Int)) := by
  rcases h with ⟨_, rfl⟩ | ⟨b, off, cp, e, hb, hc⟩
  · simp at hk
  · simp at e
    exact ⟨b, off, e.1, hb, by rw [at0_lt hk]; exact hc k hk⟩
set_option maxRecDepth 100000 in
theorem extra_1 (L : List (List UInt8)) (n₀ i : Nat) (v : Value) (w : World) (hl : L.length ≤ 1000000) (hi : i ≤ 4096) (hv : Pcs n₀ w v L) (hp : ∀ b ∈ L, i < b.length) (hp4 : ∀ b ∈ L, b.length ≤ 1000000) : Calls Tryd.prog 31 #[v, .int .i64 (i : Int), .int .i64 1] w fun e w' => e = .returned (.int .u8 ((colP L i).toNat : Int)) ∧ w' = w := by
  obtain ⟨ao, cp, rfl⟩ := hv.shape
  have HV : Hid (Pcs n₀ w (.slice ao L.length cp) L) := hv
  have HP := hid_mk hp
  have HP4 := hid_mk hp4
  clear hv hp hp4
  go_enter Tryd.func31, Tryd.ntmps31
  go_wp2
  go_loopw [7, 8] (fun r j wr => ∃ k : Nat, j = .int .i64 k ∧ k ≤ L.length ∧ r = .int .u8 ((colP (L.take k) i).toNat : Int) ∧ wr = w) (fun _ j _ => L.length - (intOf j).toNat)
  case atStart => exact ⟨0, rfl, by omega, rfl, rfl⟩
  case round =>
    obtain ⟨k, rfl, hk, rfl, rfl⟩ := hrel
    by_cases hlt : k < L.length
    · obtain ⟨b, off, ul, ucp, rfl, hb, hc, hr⟩ := HV.out.get k hlt
      have hil := HP.out _ (List.getElem_mem hlt)
      have hil4 := HP4.out _ (List.getElem_mem hlt)
      obtain ⟨b2, off2, rfl, hb2, hc2⟩ := Rd.byte hr i hil
      obtain ⟨m, hm⟩ : ∃ m, m = L[k].length := ⟨_, rfl⟩
      rw [← hm] at hc hil hil4
      obtain ⟨y, hy⟩ : ∃ y, y = at0 L[k] i := ⟨_, rfl⟩
      rw [← hy] at hc2
      have HY := hid_mk hy
      clear hr hm hy
      go_wp2
      go_roundw
      case rel =>
        refine ⟨k + 1, by go_num, by omega, ?_, trivial⟩
        rw [b8_xor, take_snoc L k hlt, colP_snoc, ← HY.out]
      case measure => simp [intOf]; omega
    · have hkn : k = L.length := by omega
      subst hkn
      go_wp2
      go_ret
      exact ⟨by simp, rfl⟩
set_option maxRecDepth 100000 in
theorem extra_2 (L : List (List UInt8)) (n₀ i : Nat) (v : Value) (w : World) (hl : L.length ≤ 16) (hi : i ≤ 4096) (hn : n₀ ≤ w.heap.size) (hv : Pcs n₀ w v L) (hp : ∀ b ∈ L, i < b.length) (hp4 : ∀ b ∈ L, b.length ≤ 1000000) : Calls Tryd.prog 31 #[v, .int .i64 (i : Int), .int .i64 2] w fun e w' => e = .returned (.int .u8 ((colQ 0 L i).toNat : Int)) ∧ ∃ m, w' = w.drewN m := by
  obtain ⟨ao, cp, rfl⟩ := hv.shape
  have HV : Hid (Pcs n₀ w (.slice ao L.length cp) L) := hv
  have HP := hid_mk hp
  have HP4 := hid_mk hp4
  clear hv hp hp4
  go_enter Tryd.func31, Tryd.ntmps31
  go_wp2
  go_loopw [7, 8] (fun r j wr => ∃ k : Nat, j = .int .i64 k ∧ k ≤ L.length ∧ r = .int .u8 ((colQ 0 (L.take k) i).toNat : Int) ∧ ∃ q, wr = w.drewN q) (fun _ j _ => L.length - (intOf j).toNat)
  case atStart => exact ⟨0, rfl, by omega, rfl, 0, rfl⟩
  case round =>
    obtain ⟨k, rfl, hk, rfl, q, hq⟩ := hrel
    have HVq : Hid (Pcs n₀ wr (.slice ao L.length cp) L) := by show Pcs _ _ _ _; rw [hq]; exact HV.out.below (drewN_below n₀ w q) (Nat.le_refl _)
    have HQ := hid_mk hq
    clear hq
    by_cases hlt : k < L.length
    · obtain ⟨b, off, ul, ucp, rfl, hb, hc, hr⟩ := HVq.out.get k hlt
      have hil := HP.out _ (List.getElem_mem hlt)
      have hil4 := HP4.out _ (List.getElem_mem hlt)
      obtain ⟨b2, off2, rfl, hb2, hc2⟩ := Rd.byte hr i hil
      obtain ⟨m, hm⟩ : ∃ m, m = L[k].length := ⟨_, rfl⟩
      rw [← hm] at hc hil hil4
      obtain ⟨y, hy⟩ : ∃ y, y = at0 L[k] i := ⟨_, rfl⟩
      rw [← hy] at hc2
      have HY := hid_mk hy
      clear hr hm hy
      go_wp2
      go_quiet (first | (go_at_call 47; exact Calls.quiet_of_same (rpower_any k (by omega) _)) | (go_at_call 46; exact Calls.quiet_of_same (rtimes_pow k (by omega) y _)))
      go_wp2
      go_roundw
      case rel =>
        refine ⟨k + 1, by go_num, by omega, ?_, q + nq, by rw [HQ.out, World.drewN_drewN]⟩
        rw [b8_xor, take_snoc L k hlt, colQ_snoc, ← HY.out, List.length_take, Nat.min_eq_left (by omega), Nat.zero_add]
      case measure => simp [intOf]; omega
    · have hkn : k = L.length := by omega
      subst hkn
      go_wp2
      go_ret
      exact ⟨by simp, q, HQ.out⟩
theorem szOf_snoc (L : List (List UInt8)) (b : List UInt8) : szOf (L ++ [b]) = if szOf L = 0 then b.length else szOf L := by
  rw [szOf_append]
  simp only [szOf]
  by_cases h : b.length = 0
  · simp [h]
  · simp [h]
theorem lostN_snoc (L : List (List UInt8)) (b : List UInt8) : lostN (L ++ [b]) = lostN L + (if b.length = 0 then 1 else 0) := by
  rw [lostN_append]
  unfold lostN
  simp only [gaps]
  split <;> rfl
set_option maxRecDepth 100000 in
theorem rempty_any (L : List (List UInt8)) (n₀ : Nat) (v : Value) (w : World) (hl : L.length ≤ 1000000) (hv : Pcs n₀ w v L) : Calls Tryd.prog 30 #[v] w fun e w' => e = .returned (.int .i64 (lostN L : Nat)) ∧ w' = w := by
  obtain ⟨ao, cp, rfl⟩ := hv.shape
  have HV : Hid (Pcs n₀ w (.slice ao L.length cp) L) := hv
  clear hv
  go_enter Tryd.func30, Tryd.ntmps30
  go_wp2
  go_loopw [3, 4] (fun n i wr => ∃ k m : Nat, i = .int .i64 k ∧ k ≤ L.length ∧ n = .int .i64 m ∧ m = lostN (L.take k) ∧ m ≤ k ∧ wr = w) (fun _ i _ => L.length - (intOf i).toNat)
  case atStart => exact ⟨0, 0, rfl, by omega, rfl, rfl, by omega, rfl⟩
  case round =>
    obtain ⟨k, m, rfl, hk, rfl, hm, hmk, rfl⟩ := hrel
    have HM := hid_mk hm
    clear hm
    by_cases hlt : k < L.length
    · obtain ⟨b, off, ul, ucp, rfl, hb, hc, hr⟩ := HV.out.get k hlt
      obtain ⟨z, hz⟩ : ∃ z, z = L[k].length := ⟨_, rfl⟩
      rw [← hz] at hc
      have HN : Hid (lostN (L.take (k + 1)) = m + if z = 0 then 1 else 0) := by show _ = _; rw [take_snoc L k hlt, lostN_snoc, ← HM.out, hz]
      clear hr hz
      by_cases h0 : z = 0
      · subst h0
        go_wp2
        go_roundw
        case rel => exact ⟨k + 1, m + 1, by go_num, by omega, by go_num, by rw [HN.out, if_pos rfl], by omega, trivial⟩
        case measure => simp [intOf]; omega
      · have h0' : ¬ (z : Int) = 0 := by omega
        go_wp2
        go_roundw
        case rel => exact ⟨k + 1, m, by go_num, by omega, rfl, by rw [HN.out, if_neg h0, Nat.add_zero], by omega, trivial⟩
        case measure => simp [intOf]; omega
    · have hkn : k = L.length := by omega
      subst hkn
      go_wp2
      go_ret
      exact ⟨ret_int (by show (m : Int) = _; rw [HM.out, List.take_length]), rfl⟩
/-- What the document's size answers. -/
def rsz (L : List (List UInt8)) (data : Int) : Int := haveI := decEven L; if Even L ∧ 1 ≤ data ∧ data ≤ 16 then (szOf L : Int) else -1
theorem szOf_take {L : List (List UInt8)} {k : Nat} (h : szOf (L.take k) ≠ 0) : szOf L = szOf (L.take k) := by
  conv => lhs; rw [← List.take_append_drop k L, szOf_append, if_neg h]
set_option maxRecDepth 100000 in
theorem rsize_any (L : List (List UInt8)) (n₀ : Nat) (data : Int) (v : Value) (w : World) (hl : L.length ≤ 1000000) (hv : Pcs n₀ w v L) (hp : ∀ b ∈ L, b.length ≤ 140737488355328) : Calls Tryd.prog 29 #[v, .int .i64 data] w fun e w' => e = .returned (.int .i64 (rsz L data)) ∧ w' = w := by
  obtain ⟨ao, cp, rfl⟩ := hv.shape
  have HV : Hid (Pcs n₀ w (.slice ao L.length cp) L) := hv
  have HP := hid_mk hp
  clear hv hp
  go_enter Tryd.func29, Tryd.ntmps29
  go_wp2
  go_loopw [5, 6] (fun n i wr => ∃ k m : Nat, i = .int .i64 k ∧ k ≤ L.length ∧ n = .int .i64 m ∧ m = szOf (L.take k) ∧ m ≤ 140737488355328 ∧ (∀ j (hj : j < L.length), j < k → L[j].length = 0 ∨ L[j].length = m) ∧ wr = w) (fun _ i _ => L.length - (intOf i).toNat)
  case atStart => exact ⟨0, 0, rfl, by omega, rfl, rfl, by omega, fun j _ h => by omega, rfl⟩
  case round =>
    obtain ⟨k, m, rfl, hk, rfl, hm, hm47, hall, rfl⟩ := hrel
    have HM := hid_mk hm
    have HA := hid_mk hall
    clear hm hall
    by_cases hlt : k < L.length
    · obtain ⟨b, off, ul, ucp, rfl, hb, hc, hr⟩ := HV.out.get k hlt
      obtain ⟨z, hz⟩ : ∃ z, z = L[k].length := ⟨_, rfl⟩
      rw [← hz] at hc
      have hz47 : z ≤ 140737488355328 := by rw [hz]; exact HP.out _ (List.getElem_mem hlt)
      have HN : Hid (szOf (L.take (k + 1)) = if m = 0 then z else m) := by show _ = _; rw [take_snoc L k hlt, szOf_snoc, ← HM.out, hz]
      have HZ := hid_mk hz
      have HX : Hid (∀ m', (m ≠ 0 → m' = m) → (z = 0 ∨ z = m') → ∀ j (hj : j < L.length), j < k + 1 → L[j].length = 0 ∨ L[j].length = m') := fun m' hmm hzz j hj hjk => by
        by_cases h : j = k
        · subst h; rw [← HZ.out]; exact hzz
        · rcases HA.out j hj (by omega) with h1 | h1
          · exact .inl h1
          · by_cases h0 : m = 0
            · exact .inl (by rw [h1, h0])
            · exact .inr (by rw [h1, hmm h0])
      clear hr hz
      by_cases h0 : z = 0
      · subst h0
        go_wp2
        go_roundw
        case rel => exact ⟨k + 1, m, by go_num, by omega, rfl, by rw [HN.out]; split <;> omega, hm47, HX.out m (fun _ => rfl) (.inl rfl), trivial⟩
        case measure => simp [intOf]; omega
      · have h0' : ¬ (z : Int) = 0 := by omega
        by_cases h1 : m = 0
        · subst h1
          go_wp2
          go_roundw
          case rel => exact ⟨k + 1, z, by go_num, by omega, rfl, by rw [HN.out, if_pos rfl], hz47, HX.out z (fun h => absurd rfl h) (.inr rfl), trivial⟩
          case measure => simp [intOf]; omega
        · have h1' : ¬ (m : Int) = 0 := by omega
          by_cases h2 : m = z
          · have h2' : (m : Int) = (z : Int) := by omega
            have H2 := hid_mk h2
            clear h2
            go_wp2
            go_roundw
            case rel => exact ⟨k + 1, m, by go_num, by omega, rfl, by rw [HN.out, if_neg h1], hm47, HX.out m (fun _ => rfl) (.inr H2.out.symm), trivial⟩
            case measure => simp [intOf]; omega
          · have h2' : ¬ (m : Int) = (z : Int) := by omega
            have HF : Hid (rsz L data = -1) := by
              show _ = _
              unfold rsz
              rw [if_neg]
              rintro ⟨he, _⟩
              have := he.1 _ (List.getElem_mem hlt)
              rw [← HZ.out, szOf_take (k := k) (by rw [← HM.out]; exact h1), ← HM.out] at this
              omega
            go_wp2
            go_ret
            exact ⟨by rw [HF.out]; rfl, rfl⟩
    · have hkn : k = L.length := by omega
      subst hkn
      have HM' : Hid (m = szOf L) := by show _ = _; rw [HM.out, List.take_length]
      have HE : Hid (∀ b ∈ L, b.length = 0 ∨ b.length = szOf L) := fun b hb => by
        obtain ⟨j, hj, rfl⟩ := List.getElem_of_mem hb
        rw [← HM'.out]; exact HA.out j hj hj
      by_cases h1 : m < 1
      · have h1' : (m : Int) < 1 := by omega
        have HF : Hid (rsz L data = -1) := by
          show _ = _
          unfold rsz
          rw [if_neg]
          rintro ⟨he, _⟩
          have := he.2.1
          rw [← HM'.out] at this
          omega
        go_wp2
        go_ret
        exact ⟨by rw [HF.out]; rfl, rfl⟩
      · have h1' : ¬ (m : Int) < 1 := by omega
        by_cases h2 : 4096 < m
        · have h2' : (4096 : Int) < (m : Int) := by omega
          have HF : Hid (rsz L data = -1) := by
            show _ = _
            unfold rsz
            rw [if_neg]
            rintro ⟨he, _⟩
            have := he.2.2
            rw [← HM'.out] at this
            omega
          go_wp2
          go_ret
          exact ⟨by rw [HF.out]; rfl, rfl⟩
        · have h2' : ¬ (4096 : Int) < (m : Int) := by omega
          by_cases h3 : data < 1
          · have HF : Hid (rsz L data = -1) := by
              show _ = _
              unfold rsz
              rw [if_neg]
              rintro ⟨_, h, _⟩
              omega
            go_wp2
            go_ret
            exact ⟨by rw [HF.out]; rfl, rfl⟩
          · by_cases h4 : 16 < data
            · have HF : Hid (rsz L data = -1) := by
                show _ = _
                unfold rsz
                rw [if_neg]
                rintro ⟨_, _, h⟩
                omega
              go_wp2
              go_ret
              exact ⟨by rw [HF.out]; rfl, rfl⟩
            · have HF : Hid (rsz L data = (m : Int)) := by
                show _ = _
                unfold rsz
                rw [if_pos ⟨⟨HE.out, by rw [← HM'.out]; omega, by rw [← HM'.out]; omega⟩, by omega, by omega⟩, HM'.out]
              go_wp2
              go_ret
              exact ⟨by rw [HF.out]; rfl, rfl⟩
end Go.Proofs.YtigaabhicjcbjabDoor
