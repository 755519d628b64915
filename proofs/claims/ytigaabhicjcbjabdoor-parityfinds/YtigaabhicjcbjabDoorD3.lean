/-
  The document's own Find: the walk at level 2, where not all fits.
-/
import Derived.Test.YtigaabhicjcbjabDoorD2
namespace Go.Proofs.YtigaabhicjcbjabDoor
open Go.ChangeShapes Go.WideShapes Go.ChangeAt Go.RowKit
set_option linter.unusedVariables false

/-- What is known of the pieces ahead of i. -/
def Seen (L : List (List UInt8)) (n sz i s wh : Nat) : Prop := (s = 0 ∧ wh = 0 ∧ ∀ j, j < i → ¬ Cand L n sz j) ∨ (s = 1 ∧ wh < i ∧ Cand L n sz wh)
theorem Seen.yes {L : List (List UInt8)} {n sz i s wh : Nat} (h : Seen L n sz i s wh) (hn : n ≤ 16) (hw : ¬ Whole L n 2 sz) (hi : i < n + 2) (hc : Cand L n sz i) : s = 0 ∧ Seen L n sz (i + 1) (s + 1) i := by
  rcases h with ⟨rfl, _, _⟩ | ⟨_, h1, h2⟩
  · exact ⟨rfl, .inr ⟨rfl, by omega, hc⟩⟩
  · exact absurd (cand_unique hn hw (by omega) hi h2 hc) (by omega)
theorem Seen.no {L : List (List UInt8)} {n sz i s wh : Nat} (h : Seen L n sz i s wh) (hc : ¬ Cand L n sz i) : Seen L n sz (i + 1) s wh := by
  rcases h with ⟨h1, h2, h3⟩ | ⟨h1, h2, h3⟩
  · exact .inl ⟨h1, h2, fun j hj => by rcases Nat.lt_or_ge j i with h | h; exact h3 j h; rw [show j = i by omega]; exact hc⟩
  · exact .inr ⟨h1, by omega, h3⟩
set_option maxRecDepth 1000000 in
set_option maxHeartbeats 4000000 in
theorem rfind_two (L : List (List UInt8)) (n sz : Nat) (v : Value) (w : World) (hF : Full L n 2 sz) (hn1 : 1 ≤ n) (hE : Even L) (hz : sz = szOf L) (hlost : lostN L = 0) (hv : Pcs w.heap.size w v L) :
    Calls Tryd.prog 24 #[v, .int .i64 2] w fun e w' => ∃ r c : Int, e = .returned (.tuple #[.int .i64 r, .int .i64 c]) ∧ FindIs L n 2 sz r c ∧ Below w.heap.size w w' := by
  have hlen := hF.len
  have hn16 := hF.n16
  have hsz4 := hF.sz4
  have hsz1 : 1 ≤ sz := by rw [hz]; exact hE.2.1
  have hpl : ∀ b ∈ L, b.length ≤ 140737488355328 := fun b hb => by rcases hF.all b hb with h | h <;> omega
  have HR := hid_mk (rsize_any L w.heap.size ((n : Int)) v w (by omega) hv hpl)
  have hrs : rsz L (n : Int) = (sz : Int) := by unfold rsz; rw [if_pos ⟨hE, by omega, by omega⟩, hz]
  rw [hrs] at HR
  have HEm := hid_mk (rempty_any L w.heap.size v w (by omega) hv)
  rw [hlost] at HEm
  have HW := hid_mk (whole_any hF hv)
  obtain ⟨ao, cp, rfl⟩ := hv.shape
  obtain ⟨b, off, rfl, hbb⟩ := hv.some_of (by omega)
  obtain ⟨vals, hvl, hvc, hvs, hvr⟩ := hv.vals
  have HVL := hid_mk hvl
  have HVC := hid_mk hvc
  have HVS := hid_mk hvs
  have HVR := hid_mk hvr
  have HFF := hid_mk hF
  have HLEN := hid_mk hlen
  have hni : (L.length : Int) - 2 = (n : Int) := by omega
  have hLL : (L.length : Int) ≤ 18 := by omega
  have hs0 : ¬ (sz : Int) < 0 := by omega
  clear hv hvl hvc hvs hvr hF hpl hrs hz hE hlost hlen
  go_enter Tryd.func24, Tryd.ntmps24
  go_wp2_with (first | (go_at_call 29; refine HR.out.mono ?_; rintro e w1 ⟨rfl, rfl⟩) | (go_at_call 30; refine HEm.out.mono ?_; rintro e w1 ⟨rfl, rfl⟩))
  refine HW.out.mono ?_
  rintro e w2 ⟨r, rfl, hr, hb2⟩
  have HWR := hid_mk hr
  have HB2 := hid_mk hb2
  clear hr hb2 HW HR HEm
  cases r with
  | true =>
    go_wp2
    go_ret2
    have hwh : Whole L n 2 sz := HWR.out.1 (by trivial)
    exact ⟨-1, 0, rfl, ⟨fun _ => ⟨rfl, rfl⟩, fun h => absurd hwh h, fun h => absurd hwh h⟩, HB2.out⟩
  | false =>
    have HNW : Hid (¬ Whole L n 2 sz) := fun h => by have := HWR.out.2 h; cases this
    clear HWR
    go_wp2
    go_loopw [7, 8, 9] (fun ss ww ii wr => ∃ s wh i : Nat, ss = .int .i64 (s : Int) ∧ ww = .int .i64 (wh : Int) ∧ ii = .int .i64 (i : Int) ∧ i ≤ n + 2 ∧ s ≤ 1 ∧ Seen L n sz i s wh ∧ Below w1.heap.size w1 wr) (fun _ _ ii _ => n + 2 - (intOf ii).toNat)
    case atStart => exact ⟨0, 0, 0, rfl, rfl, rfl, by omega, by omega, .inl ⟨rfl, rfl, fun j hj => by omega⟩, HB2.out⟩
    case round =>
      obtain ⟨s, wh, i, rfl, rfl, rfl, hi, hs1, hseen, hb⟩ := hrel
      obtain ⟨V, hV⟩ : ∃ V, V = wr := ⟨_, rfl⟩
      subst hV
      have HSE := hid_mk hseen
      have HB := hid_mk hb
      clear hseen hb
      by_cases hi2 : i < n + 2
      · have hiL : (i : Int) < (L.length : Int) := by have := HLEN.out; omega
        have hL0 : 0 < L.length := by omega
        have HBM : Hid (Below V.heap.size V (V.alloc (.cells #[] 22))) := (Below.refl _ _).alloc (Nat.le_refl _) _
        have HRV : Hid (∀ t (h1 : t < vals.length) (h2 : t < L.length), Rd V.heap.size V vals[t] L[t]) := fun t h1 h2 => ((HVR.out t h1 h2).below HB.out (Nat.le_refl _)).mono (fun x (hx : x < _) => Nat.lt_of_lt_of_le hx HB.out.size)
        have HIL : Hid (i < vals.length) := by show _ < _; rw [HVL.out]; omega
        have hbV : b < V.heap.size := Nat.lt_of_lt_of_le hbb HB.out.size
        go_wp2_with (at_builtin; refine wpList_addAll rfl _ _ rfl V.heap.size _ rfl (sowns_made V _ rfl) b off L.length cp vals rfl HVL.out (fun i h => (HBM.out.cell (p := ⟨b, off + i, none⟩) hbV).trans ((HB.out.cell (p := ⟨b, off + i, none⟩) hbb).trans (HVC.out i h))) HVS.out (by omega) HBM.out.size ?_; intro v' w3 h1 h2 h3; obtain ⟨uo, uc, hu⟩ := h1.shape; rw [HVL.out] at hu; subst hu; obtain ⟨gu, e2, _, _, _, _⟩ := h1.get 0 (by rw [HVL.out]; omega); subst e2; obtain ⟨z, c1, f1⟩ : ∃ z, w3.cell? ⟨gu, i, none⟩ = some z ∧ w3.frozen? ⟨gu, i, none⟩ = false := ⟨_, h1.cell i HIL.out⟩; have HU := hid_mk h1; have HB3 := hid_mk (HBM.out.trans h2); clear h1 h2 h3)
        obtain ⟨W, hW⟩ : ∃ W, W = w3.setCell ⟨gu, i, none⟩ (.slice none 0 0) := ⟨_, rfl⟩
        have HSZ : Hid (W.heap.size = w3.heap.size) := by show _ = _; rw [hW]; simp [World.setCell]
        have HUP : Hid (Pcs W.heap.size W (.slice (some ⟨gu, 0, none⟩) L.length uc) (L.set i [])) := by
          show Pcs _ _ _ _
          rw [HSZ.out, hW]
          exact set_pcs HU.out HVL.out hL0 HRV.out HB3.out
        have HBW : Hid (Below w1.heap.size w1 W) := by
          show Below _ _ _
          rw [hW]
          exact (HB.out.trans (HB3.out.mono HB.out.size)).setCell (p := ⟨gu, i, none⟩) (Nat.le_trans HB.out.size (HU.out.block gu rfl)) _
        rw [← hW]
        clear hW c1 f1 HU HB3 HRV HBM
        go_loopw [11, 12] (fun mm kk wr => ∃ (m : Bool) (k : Nat), mm = .bool m ∧ kk = .int .i64 (k : Int) ∧ k ≤ sz ∧ (m = true → ∀ t, t < k → Cand1 L n i t) ∧ (m = false → ¬ Cand L n sz i) ∧ Below W.heap.size W wr) (fun _ kk _ => sz - (intOf kk).toNat)
        case atStart => exact ⟨true, 0, rfl, rfl, by omega, (fun _ t ht => by omega), (fun h => by cases h), Below.refl _ _⟩
        case round =>
          obtain ⟨m, k, rfl, rfl, hk, hm1, hm2, hbx⟩ := hrel
          obtain ⟨X, hX⟩ : ∃ X, X = wr := ⟨_, rfl⟩
          subst hX
          have HM1 := hid_mk hm1
          have HM2 := hid_mk hm2
          have HBX := hid_mk hbx
          have HBWX : Hid (Below w1.heap.size w1 X) := HBW.out.trans (hbx.mono HBW.out.size)
          clear hm1 hm2 hbx
          cases m with
          | false =>
            have HNC : Hid (¬ Cand L n sz i) := HM2.out (by trivial)
            by_cases hks : k < sz
            · have hks' : (k : Int) < (sz : Int) := by omega
              go_wp2
              go_roundw
              case rel => exact ⟨s, wh, i + 1, rfl, rfl, by go_num, by omega, hs1, HSE.out.no HNC.out, HBWX.out⟩
              case measure => simp [intOf]; omega
            · have hks' : ¬ (k : Int) < (sz : Int) := by omega
              go_wp2
              go_roundw
              case rel => exact ⟨s, wh, i + 1, rfl, rfl, by go_num, by omega, hs1, HSE.out.no HNC.out, HBWX.out⟩
              case measure => simp [intOf]; omega
          | true =>
            by_cases hks : k < sz
            · have hks' : (k : Int) < (sz : Int) := by omega
              have HUX : Hid (Pcs X.heap.size X (.slice (some ⟨gu, 0, none⟩) L.length uc) (L.set i [])) := (HUP.out.below HBX.out (Nat.le_refl _)).mono HBX.out.size
              by_cases hin : n ≤ i
              · have hin' : ¬ (i : Int) < (n : Int) := by omega
                have HC := hid_mk (more_fits HFF.out hks hin hi2 HUX.out)
                go_wp2_with fail
                refine HC.out.mono ?_
                rintro e w5 ⟨r, rfl, hr, hb5⟩
                have HRR := hid_mk hr
                have HB5 : Hid (Below W.heap.size W w5) := HBX.out.trans (hb5.mono HBX.out.size)
                clear hr hb5 HC
                go_wp2
                go_loopw [11, 13] (fun mm xx wr => mm = .bool r ∧ xx = .int .i64 0 ∧ wr = w5) (fun _ _ _ => 0)
                case atStart => exact ⟨rfl, rfl, rfl⟩
                case round =>
                  obtain ⟨rfl, rfl, rfl⟩ := hrel
                  cases r with
                  | true =>
                    go_wp2
                    go_roundw
                    case rel => exact ⟨true, k + 1, rfl, by go_num, by omega, (fun _ t ht => by rcases Nat.lt_or_ge t k with h | h; exact HM1.out (by trivial) t h; rw [show t = k by omega]; exact HRR.out.1 (by trivial)), (fun h => by cases h), HB5.out⟩
                    case measure => simp [intOf]; omega
                  | false =>
                    go_wp2
                    go_roundw
                    case rel => exact ⟨false, k + 1, rfl, by go_num, by omega, (fun h => by cases h), (fun _ h => by have := HRR.out.2 (h k hks); cases this), HB5.out⟩
                    case measure => simp [intOf]; omega
              · have hin1 : i < n := by omega
                have hin' : (i : Int) < (n : Int) := by omega
                go_wp2
                go_loopw [11, 13] (fun mm xx wr => ∃ (m : Bool) (x : Nat), mm = .bool m ∧ xx = .int .i64 (x : Int) ∧ x ≤ 256 ∧ (m = true → Cand1 L n i k) ∧ (m = false → ∀ y : UInt8, y.toNat < x → ¬ (Cand1 L n i k ∧ y = at0 (L.getD i []) k ^^^ dP L n k)) ∧ Below W.heap.size W wr) (fun _ xx _ => 256 - (intOf xx).toNat)
                case atStart => exact ⟨false, 0, rfl, rfl, by omega, (fun h => by cases h), (fun _ y hy => by omega), HBX.out⟩
                case round =>
                  obtain ⟨m, x, rfl, rfl, hx, hc1, hc2, hby⟩ := hrel
                  obtain ⟨Y, hY⟩ : ∃ Y, Y = wr := ⟨_, rfl⟩
                  subst hY
                  have HC1 := hid_mk hc1
                  have HC2 := hid_mk hc2
                  have HBY := hid_mk hby
                  clear hc1 hc2 hby
                  cases m with
                  | true =>
                    by_cases hx2 : x < 256
                    · have hx2' : (x : Int) < 256 := by omega
                      go_wp2
                      go_roundw
                      case rel => exact ⟨true, k + 1, rfl, by go_num, by omega, (fun _ t ht => by rcases Nat.lt_or_ge t k with h | h; exact HM1.out (by trivial) t h; rw [show t = k by omega]; exact HC1.out (by trivial)), (fun h => by cases h), HBY.out⟩
                      case measure => simp [intOf]; omega
                    · have hx2' : ¬ (x : Int) < 256 := by omega
                      go_wp2
                      go_roundw
                      case rel => exact ⟨true, k + 1, rfl, by go_num, by omega, (fun _ t ht => by rcases Nat.lt_or_ge t k with h | h; exact HM1.out (by trivial) t h; rw [show t = k by omega]; exact HC1.out (by trivial)), (fun h => by cases h), HBY.out⟩
                      case measure => simp [intOf]; omega
                  | false =>
                    by_cases hx2 : x < 256
                    · obtain ⟨Z, rfl⟩ := u8_of x hx2
                      have hZ := u8_lt Z
                      have hx2' : (Z.toNat : Int) < 256 := by omega
                      have HC := hid_mk (data_fits HFF.out hks hin1 Z Y.heap.size rfl ((HUP.out.below HBY.out (Nat.le_refl _)).mono HBY.out.size))
                      have HBA : Hid (Below W.heap.size W (Y.alloc (.cells #[.int .u8 (Z.toNat : Int)] 5))) := HBY.out.alloc HBY.out.size _
                      go_wp2_with fail
                      refine HC.out.mono ?_
                      rintro e w6 ⟨r, rfl, hr, hb6⟩
                      have HRR := hid_mk hr
                      have HB6 : Hid (Below W.heap.size W w6) := HBA.out.trans (hb6.mono HBA.out.size)
                      clear hr hb6 HC
                      go_wp2
                      go_roundw
                      case rel => exact ⟨r, Z.toNat + 1, rfl, by go_num, by omega, fun h => (HRR.out.1 h).1, (fun h y hy hh => by
                        rcases Nat.lt_or_ge y.toNat Z.toNat with h1 | h1
                        · exact HC2.out (by trivial) y h1 hh
                        · have e : y = Z := u8_ext (by omega)
                          subst e
                          have := HRR.out.2 hh
                          rw [h] at this
                          cases this), HB6.out⟩
                      case measure => simp [intOf]; omega
                    · have hx2' : ¬ (x : Int) < 256 := by omega
                      go_wp2
                      go_roundw
                      case rel => exact ⟨false, k + 1, rfl, by go_num, by omega, (fun h => by cases h), fun _ h => HC2.out (by trivial) (at0 (L.getD i []) k ^^^ dP L n k) (by have := u8_lt (at0 (L.getD i []) k ^^^ dP L n k); omega) ⟨h k hks, rfl⟩, HBY.out⟩
                      case measure => simp [intOf]; omega
            · have hks' : ¬ (k : Int) < (sz : Int) := by omega
              have HCC : Hid (Cand L n sz i) := fun t ht => HM1.out (by trivial) t (by omega)
              obtain ⟨hs0', hsn⟩ := HSE.out.yes hn16 HNW.out hi2 HCC.out
              subst hs0'
              have HSN := hid_mk hsn
              clear hsn
              go_wp2
              go_roundw
              case rel => exact ⟨1, i, i + 1, rfl, rfl, by go_num, by omega, by omega, HSN.out, HBWX.out⟩
              case measure => simp [intOf]; omega
      · have hiL : ¬ (i : Int) < (L.length : Int) := by have := HLEN.out; omega
        have hi3 : i = n + 2 := by omega
        rcases HSE.out with ⟨rfl, rfl, hno⟩ | ⟨rfl, hwh, hc⟩
        · have HNO := hid_mk hno
          clear hno
          go_wp2
          go_ret2
          exact ⟨0, 11, rfl, ⟨fun h => absurd h HNW.out, fun _ h => by omega, fun _ _ => ⟨fun j hj h => absurd h (HNO.out j (by omega)), fun _ => ⟨rfl, rfl⟩⟩⟩, HB.out⟩
        · have HC := hid_mk hc
          clear hc
          go_wp2
          go_ret2
          exact ⟨wh, 0, rfl, ⟨fun h => absurd h HNW.out, fun _ h => by omega, fun _ _ => ⟨fun j hj h => ⟨by rw [cand_unique hn16 HNW.out hj (by omega) h HC.out], rfl⟩, fun h => absurd HC.out (h wh (by omega))⟩⟩, HB.out⟩
end Go.Proofs.YtigaabhicjcbjabDoor
