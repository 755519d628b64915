/-
  bytes.Equal, and slices.EqualFunc with it.
-/
import Derived.Test.YtigaabhicjcbjabDoorN6
import Derived.Test.YtigaabhicjcbjabDoorL3
namespace Go.Proofs.YtigaabhicjcbjabDoor
open Go.ChangeShapes Go.WideShapes Go.ChangeAt Go.RowKit
set_option linter.unusedVariables false

theorem conv_rd {l : List UInt8} {n : Nat} {x : Value} {w : World} (h : Rd n w x l) : (convert 22 9 x).run Tryd.prog w = .ok (.string (str l)) w := by
  rcases h with ⟨rfl, rfl⟩ | ⟨b, off, cp, rfl, _, hc⟩
  · exact run_convert_bytes_nil (P := Tryd.prog) (w := w) 22 5 Tryd.underlying22 Tryd.underlying5 0 0 9 Tryd.underlying9
  · exact run_convert_bytes_back (P := Tryd.prog) w 22 9 5 ⟨b, off, none⟩ cp l Tryd.underlying22 Tryd.underlying5 Tryd.underlying9 (fun j hj => by rw [add_at]; exact hc j hj)
theorem str_toL (l : List UInt8) : (str l).toList = l := by rw [ByteArray.toList_eq]; exact bl_str l
theorem str_eq {l m : List UInt8} : str l = str m ↔ l = m := ⟨fun h => by rw [← bl_str l, h, bl_str], fun h => by rw [h]⟩
set_option maxRecDepth 100000 in
theorem bequal_any (l m : List UInt8) (n₀ n₁ : Nat) (u v : Value) (w : World) (hu : Rd n₀ w u l) (hv : Rd n₁ w v m) : Calls Tryd.prog 54 #[u, v] w fun e w' => (∃ r : Bool, e = .returned (.bool r) ∧ (r = true ↔ l = m)) ∧ w' = w := by
  have k1 := conv_rd hu
  have k2 := conv_rd hv
  clear hu hv
  go_enter Tryd.func54, Tryd.ntmps54
  go_wp2
  go_ret
  refine ⟨⟨_, rfl, ?_⟩, rfl⟩
  rw [beq_iff_eq, str_toL, str_toL]
set_option maxRecDepth 100000 in
set_option maxHeartbeats 1000000 in
theorem equalFunc_any (M N : List (List UInt8)) (n₀ n₁ : Nat) (u v : Value) (w : World) (hm : M.length ≤ 1000000) (hn : N.length ≤ 1000000) (hu : Pcs n₀ w u M) (hv : Pcs n₁ w v N) : Calls Tryd.prog 53 #[u, v, .func (.func 54) #[] #[]] w fun e w' => (∃ r : Bool, e = .returned (.bool r) ∧ (r = true ↔ M = N)) ∧ w' = w := by
  have HU := hid_mk hu
  have HV := hid_mk hv
  obtain ⟨ao, ac, rfl⟩ := hu.shape
  obtain ⟨bo, bc, rfl⟩ := hv.shape
  obtain ⟨m, hm'⟩ : ∃ m, m = M.length := ⟨_, rfl⟩
  obtain ⟨k, hk'⟩ : ∃ k, k = N.length := ⟨_, rfl⟩
  rw [← hm'] at HU ⊢
  rw [← hk'] at HV ⊢
  have HM := hid_mk hm'
  have HK := hid_mk hk'
  have hm2 : m ≤ 1000000 := by omega
  clear hu hv hm' hk' hm hn
  by_cases hmk : m = k
  · subst hmk
    go_enter Tryd.func53, Tryd.ntmps53
    go_wp2
    go_loopw [17] (fun ii wr => ∃ i : Nat, ii = .int .i64 (i : Int) ∧ i ≤ m ∧ (∀ j (h1 : j < M.length) (h2 : j < N.length), j < i → M[j] = N[j]) ∧ wr = w) (fun ii _ => m - (intOf ii).toNat)
    case atStart => exact ⟨0, rfl, by omega, fun j _ _ h => by omega, rfl⟩
    case round =>
      obtain ⟨i, rfl, hi, hall, rfl⟩ := hrel
      have HALL := hid_mk hall
      clear hall
      by_cases hlt : i < m
      · have hiM : i < M.length := by rw [← HM.out]; exact hlt
        have hiN : i < N.length := by rw [← HK.out]; exact hlt
        have hlt' : (i : Int) < (m : Int) := by omega
        obtain ⟨b1, off1, ul1, uc1, e1, hb1, hc1, hr1⟩ := HU.out.get i hiM
        cases e1
        obtain ⟨b2, off2, ul2, uc2, e2, hb2, hc2, hr2⟩ := HV.out.get i hiN
        cases e2
        have HBE := hid_mk (bequal_any M[i] N[i] n₀ n₁ _ _ wr hr1 hr2)
        obtain ⟨x, hx⟩ : ∃ x, x = M[i].length := ⟨_, rfl⟩
        obtain ⟨y, hy⟩ : ∃ y, y = N[i].length := ⟨_, rfl⟩
        rw [← hx] at hc1 HBE
        rw [← hy] at hc2 HBE
        clear hr1 hr2 hx hy
        go_wp2_with fail
        refine HBE.out.mono ?_
        rintro e w2 ⟨⟨r, rfl, hr⟩, rfl⟩
        have HR := hid_mk hr
        clear hr HBE
        cases r with
        | true =>
          go_wp2
          go_roundw
          case rel => exact ⟨i + 1, by go_num, by omega, (fun j h1 h2 hj => by
            rcases Nat.lt_or_ge j i with h | h
            · exact HALL.out j h1 h2 h
            · obtain rfl : j = i := by omega
              exact HR.out.1 (by trivial)), by trivial⟩
          case measure => simp [intOf]; omega
        | false =>
          go_wp2
          go_ret
          exact ⟨⟨false, rfl, ⟨(fun h => by cases h), (fun h => by subst h; have := HR.out.2 rfl; cases this)⟩⟩, rfl⟩
      · have him : i = m := by omega
        subst him
        go_wp2
        go_ret
        exact ⟨⟨true, rfl, ⟨fun _ => List.ext_getElem (by rw [← HM.out, ← HK.out]) (fun j h1 h2 => HALL.out j h1 h2 (by rw [HM.out]; exact h1)), fun _ => rfl⟩⟩, rfl⟩
  · have hmk' : ¬ (m : Int) = (k : Int) := by omega
    go_enter Tryd.func53, Tryd.ntmps53
    go_wp2
    go_ret
    exact ⟨⟨false, rfl, ⟨(fun h => by cases h), fun h => absurd (by rw [HM.out, HK.out, h]) hmk⟩⟩, rfl⟩
end Go.Proofs.YtigaabhicjcbjabDoor
