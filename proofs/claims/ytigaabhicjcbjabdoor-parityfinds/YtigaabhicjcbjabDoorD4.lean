/-
  The document's own Find at all arguments.
-/
import Derived.Test.YtigaabhicjcbjabDoorD3
import Derived.Test.YtigaabhicjcbjabDoorR4
namespace Go.Proofs.YtigaabhicjcbjabDoor
open Go.ChangeShapes Go.WideShapes Go.ChangeAt Go.RowKit
set_option linter.unusedVariables false

theorem full_of {L : List (List UInt8)} {n lv : Nat} (hl : L.length = n + lv) (hlv : lv ≤ 2) (hn : n ≤ 16) (hE : Even L) (h0 : lostN L = 0) : Full L n lv (szOf L) := by
  have hnl := no_lost h0
  refine ⟨hl, hlv, hn, hE.2.2, hE.1, ?_, fun h => ?_, fun h => ?_⟩
  · have := lost_split (L := L) n
    have h1 : lostN (L.take n) = 0 := by omega
    exact List.eq_nil_of_length_eq_zero h1
  · refine hnl _ ?_
    unfold pOf
    rw [List.getD_eq_getElem?_getD, List.getElem?_eq_getElem (show n < L.length by omega)]
    exact List.getElem_mem _
  · refine hnl _ ?_
    unfold qOf
    rw [List.getD_eq_getElem?_getD, List.getElem?_eq_getElem (show n + 1 < L.length by omega)]
    exact List.getElem_mem _
set_option maxRecDepth 1000000 in
set_option maxHeartbeats 1000000 in
theorem rfind_low (L : List (List UInt8)) (n lv sz : Nat) (v : Value) (w : World) (hF : Full L n lv sz) (hlv : lv < 2) (hn1 : 1 ≤ n) (hE : Even L) (hz : sz = szOf L) (hlost : lostN L = 0) (hv : Pcs w.heap.size w v L) :
    Calls Tryd.prog 24 #[v, .int .i64 (lv : Int)] w fun e w' => ∃ r c : Int, e = .returned (.tuple #[.int .i64 r, .int .i64 c]) ∧ FindIs L n lv sz r c ∧ Below w.heap.size w w' := by
  have hlen := hF.len
  have hn16 := hF.n16
  have hsz4 := hF.sz4
  have hsz1 : 1 ≤ sz := by rw [hz]; exact hE.2.1
  have hpl : ∀ b ∈ L, b.length ≤ 140737488355328 := fun b hb => by rcases hF.all b hb with h | h <;> omega
  have HR := hid_mk (rsize_any L w.heap.size ((n : Int)) v w (by omega) hv hpl)
  have hrs : rsz L (n : Int) = (sz : Int) := by unfold rsz; rw [if_pos ⟨hE, by omega, by omega⟩, hz]
  rw [hrs] at HR
  have HEm := hid_mk (rempty_any L w.heap.size v w (by omega) hv)
  rw [hlost] at HEm
  have HW := hid_mk (whole_any hF hv)
  obtain ⟨ao, cp, rfl⟩ := hv.shape
  obtain ⟨m, hm⟩ : ∃ m, m = L.length := ⟨_, rfl⟩
  rw [← hm] at HR HEm HW ⊢
  have hni : (m : Int) - (lv : Int) = (n : Int) := by omega
  have hLL : (m : Int) ≤ 18 := by omega
  have hL0 : (0 : Int) < (m : Int) := by omega
  have hL0' : 0 < m := by omega
  have hs0 : ¬ (sz : Int) < 0 := by omega
  have hlv0 : ¬ (lv : Int) < 0 := by omega
  have hlv2 : ¬ (2 : Int) < (lv : Int) := by omega
  have hlv3 : ¬ (lv : Int) = 2 := by omega
  have hlv4 : ¬ lv = 2 := by omega
  clear hv hF hpl hrs hz hE hlost hm hlen
  go_enter Tryd.func24, Tryd.ntmps24
  go_wp2_with (first | (go_at_call 29; refine HR.out.mono ?_; rintro e w1 ⟨rfl, rfl⟩) | (go_at_call 30; refine HEm.out.mono ?_; rintro e w1 ⟨rfl, rfl⟩))
  refine HW.out.mono ?_
  rintro e w2 ⟨r, rfl, hr, hb2⟩
  have HWR := hid_mk hr
  have HB2 := hid_mk hb2
  clear hr hb2 HW HR HEm
  cases r with
  | true =>
    go_wp2
    go_ret2
    have hwh : Whole L n lv sz := HWR.out.1 (by trivial)
    exact ⟨-1, 0, rfl, ⟨fun _ => ⟨rfl, rfl⟩, fun h => absurd hwh h, fun h => absurd hwh h⟩, HB2.out⟩
  | false =>
    have HNW : Hid (¬ Whole L n lv sz) := fun h => by have := HWR.out.2 h; cases this
    clear HWR
    go_wp2
    go_loopw [7, 8, 9] (fun ss ww ii wr => ss = .int .i64 0 ∧ ww = .int .i64 0 ∧ ii = .int .i64 0 ∧ wr = w2) (fun _ _ ii _ => 0)
    case atStart => exact ⟨rfl, rfl, rfl, rfl⟩
    case round =>
      obtain ⟨rfl, rfl, rfl, rfl⟩ := hrel
      go_wp2
      go_ret2
      exact ⟨0, 11, rfl, ⟨fun h => absurd h HNW.out, fun _ _ => ⟨rfl, rfl⟩, fun _ h => by omega⟩, HB2.out⟩
/-- What the document's Find leaves. -/
def RFPost (L : List (List UInt8)) (level : Int) (w : World) (e : Ending) (w' : World) : Prop := ∃ r c : Int, e = .returned (.tuple #[.int .i64 r, .int .i64 c]) ∧ FindAll L level (partErr L level) r c ∧ Below w.heap.size w w'
theorem rfPost_bad {L : List (List UInt8)} {level c : Int} {w w' : World} (h : partErr L level = c ∧ c ≠ 0 ∨ partErr L level = 0 ∧ lostN L ≠ 0 ∧ c = 10) (hb : Below w.heap.size w w') : RFPost L level w (.returned (.tuple #[.int .i64 0, .int .i64 c])) w' := by
  refine ⟨0, c, rfl, ?_, hb⟩
  rcases h with ⟨h1, h2⟩ | ⟨h1, h2, h3⟩
  · rw [h1]; exact ⟨fun _ => ⟨rfl, rfl⟩, fun h => absurd h h2, fun h => absurd h h2⟩
  · rw [h1]; exact ⟨fun h => absurd rfl h, fun _ _ => ⟨rfl, h3⟩, fun _ h => absurd h h2⟩
set_option maxRecDepth 100000 in
theorem rfind_any (L : List (List UInt8)) (v : Value) (level : Int) (w : World) (hl : L.length ≤ 1000000) (hp : ∀ b ∈ L, b.length ≤ 140737488355328) (hv : Pcs w.heap.size w v L) : Calls Tryd.prog 24 #[v, .int .i64 level] w (RFPost L level w) := by
  by_cases h1 : level < 0
  · have HE : Hid (partErr L level = 5) := by show _ = _; unfold partErr; rw [if_pos (.inl h1)]
    go_enter Tryd.func24, Tryd.ntmps24
    go_wp2
    go_ret2
    exact rfPost_bad (.inl ⟨HE.out, by decide⟩) (Below.refl _ _)
  · by_cases h2 : 2 < level
    · have HE : Hid (partErr L level = 5) := by show _ = _; unfold partErr; rw [if_pos (.inr h2)]
      go_enter Tryd.func24, Tryd.ntmps24
      go_wp2
      go_ret2
      exact rfPost_bad (.inl ⟨HE.out, by decide⟩) (Below.refl _ _)
    · obtain ⟨lv, rfl⟩ := Int.eq_ofNat_of_zero_le (show 0 ≤ level by omega)
      obtain ⟨d, hd⟩ : ∃ d, d = (L.length : Int) - (lv : Int) := ⟨_, rfl⟩
      have HR := hid_mk (rsize_any L w.heap.size d v w hl hv hp)
      by_cases hf : (1 ≤ d ∧ d ≤ 16) ∧ Even L
      · obtain ⟨n, rfl⟩ := Int.eq_ofNat_of_zero_le (show 0 ≤ d by omega)
        have hpe : partErr L (lv : Int) = 0 := by unfold partErr; rw [if_neg (by omega), if_pos ⟨⟨by omega, by omega⟩, hf.2⟩]
        by_cases h0 : lostN L = 0
        · have hF := full_of (L := L) (n := n) (lv := lv) (by omega) (by omega) (by omega) hf.2 h0
          have hno : nOf L (lv : Int) = n := by unfold nOf; omega
          have key : ∀ e w', (∃ r c : Int, e = .returned (.tuple #[.int .i64 r, .int .i64 c]) ∧ FindIs L n lv (szOf L) r c ∧ Below w.heap.size w w') → RFPost L (lv : Int) w e w' := by
            rintro e w' ⟨r, c, he, hr, hb⟩
            refine ⟨r, c, he, ?_, hb⟩
            rw [hpe]
            exact ⟨fun h => absurd rfl h, fun _ h => absurd h0 h, fun _ _ => by rw [hno]; exact hr⟩
          by_cases h22 : lv < 2
          · exact (rfind_low L n lv (szOf L) v w hF h22 (by omega) hf.2 rfl h0 hv).mono key
          · obtain rfl : lv = 2 := by omega
            exact (rfind_two L n (szOf L) v w hF (by omega) hf.2 rfl h0 hv).mono key
        · have HE : Hid (partErr L (lv : Int) = 0 ∧ lostN L ≠ 0 ∧ (10 : Int) = 10) := ⟨hpe, h0, rfl⟩
          have HM := hid_mk (rempty_any L w.heap.size v w hl hv)
          have he : rsz L (n : Int) = (szOf L : Int) := by unfold rsz; rw [if_pos ⟨hf.2, by omega, by omega⟩]
          rw [he] at HR
          have h0' : (0 : Int) < (lostN L : Int) := by omega
          have hzz : ¬ (szOf L : Int) < 0 := by omega
          have hni : (L.length : Int) - (lv : Int) = (n : Int) := hd.symm
          have hn1 : (n : Int) ≤ 16 := by omega
          obtain ⟨ao, cp, rfl⟩ := hv.shape
          clear hv hp he hf h0 hpe hd
          go_enter Tryd.func24, Tryd.ntmps24
          go_wp2_with (first | (go_at_call 29; refine HR.out.mono ?_; rintro e w1 ⟨rfl, rfl⟩) | (go_at_call 30; refine HM.out.mono ?_; rintro e w1 ⟨rfl, rfl⟩))
          go_ret2
          exact rfPost_bad (.inr ⟨HE.out.1, HE.out.2.1, rfl⟩) (Below.refl _ _)
      · have HE : Hid (partErr L (lv : Int) = 10) := by show _ = _; unfold partErr; rw [if_neg (by omega), if_neg (by rw [← hd]; exact hf)]
        have he : rsz L d = -1 := by
          unfold rsz
          rw [if_neg]
          rintro ⟨h3, h4, h5⟩
          exact hf ⟨⟨h4, h5⟩, h3⟩
        rw [he] at HR
        have hni : (L.length : Int) - (lv : Int) = d := hd.symm
        have hd1 : d ≤ 1000000 := by omega
        have hd2 : -2 ≤ d := by omega
        obtain ⟨ao, cp, rfl⟩ := hv.shape
        clear hv hp he hf hd
        go_enter Tryd.func24, Tryd.ntmps24
        go_wp2_with (go_at_call 29; refine HR.out.mono ?_; rintro e w1 ⟨rfl, rfl⟩)
        go_ret2
        exact rfPost_bad (.inl ⟨HE.out, by decide⟩) (Below.refl _ _)
end Go.Proofs.YtigaabhicjcbjabDoor
