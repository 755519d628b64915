/-
  places.longest: the walk.
-/
import Derived.Test.YtppmjdmdflcoiabDoorSq1
namespace Go.Proofs.YtppmjdmdflcoiabDoor
open Go.ChangeShapes Go.WideShapes Go.ChangeAt Go.RowKit
set_option linter.unusedVariables false

/-- The four bytes at a place. -/
def key4 (b : List UInt8) (i : Nat) : List UInt8 := [b.getD i 0, b.getD (i + 1) 0, b.getD (i + 2) 0, b.getD (i + 3) 0]
/-- For each place the last one ahead of it that begins with the same four bytes. -/
def Bef (b : List UInt8) (i : Nat) (x : Int) : Prop :=
  (x = -1 ∨ ∃ j : Nat, x = (j : Int) ∧ j < i ∧ i + 4 ≤ b.length ∧ key4 b j = key4 b i) ∧ (∀ j : Nat, j < i → i + 4 ≤ b.length → key4 b j = key4 b i → (j : Int) ≤ x)
def IntsAt (w : World) (F : Nat) (bf : List Int) : Prop := ∀ i (hi : i < bf.length), w.cell? ⟨F, i, none⟩ = some (.int .i64 bf[i])
theorem IntsAt.below {w w' : World} {F B : Nat} {bf : List Int} (h : IntsAt w F bf) (hb : Below B w w') (hB : F < B) : IntsAt w' F bf := fun i hi => (hb.cell (p := ⟨F, i, none⟩) hB).trans (h i hi)
/-- What longest tells. -/
def Longest (b : List UInt8) (i fr size : Nat) : Prop :=
  size ≤ min (b.length - i) 130 ∧ (0 < size → fr < i ∧ ∀ k, k < size → b.getD (fr + k) 0 = b.getD (i + k) 0) ∧ (∀ p, 1 ≤ p → p ≤ 64 → p ≤ i → i + 4 ≤ b.length → Per b p → size = min (b.length - i) 130)
theorem per_key {b : List UInt8} {p i : Nat} (h : Per b p) (hp : 1 ≤ p) (hpi : p ≤ i) (hi : i + 4 ≤ b.length) : key4 b (i - p) = key4 b i := by
  unfold key4
  rw [h i hpi (by omega), h (i + 1) (by omega) (by omega), h (i + 2) (by omega) (by omega), h (i + 3) (by omega) (by omega)]
  rw [show i + 1 - p = i - p + 1 by omega, show i + 2 - p = i - p + 2 by omega, show i + 3 - p = i - p + 3 by omega]
/-- On the way: so many places were tried, the next one is at. -/
def Chain (b : List UInt8) (i most t : Nat) (at_ : Int) (size : Nat) : Prop :=
  at_ + t < i ∧ (at_ = -1 ∨ ∃ j : Nat, at_ = (j : Int)) ∧ ∀ p, 1 ≤ p → p ≤ 64 → p ≤ i → i + 4 ≤ b.length → Per b p → size = most ∨ ((i : Int) - p ≤ at_ ∧ ∀ j : Nat, at_ = (j : Int) → key4 b j = key4 b i)
theorem Chain.first {b : List UInt8} {i most : Nat} {x : Int} (h : Bef b i x) : Chain b i most 0 x 0 := by
  refine ⟨?_, ?_, fun p h1 h2 h3 h4 h5 => .inr ⟨?_, ?_⟩⟩
  · rcases h.1 with h | ⟨j, h, h', _⟩ <;> omega
  · rcases h.1 with h | ⟨j, h, h', _⟩
    · exact .inl h
    · exact .inr ⟨j, h⟩
  · have := h.2 (i - p) (by omega) h4 (per_key h5 h1 h3 h4)
    omega
  · intro j hj
    rcases h.1 with h | ⟨j', h', _, _, hk⟩
    · omega
    · obtain rfl : j' = j := by omega
      exact hk
theorem Chain.next {b : List UInt8} {i most t a size n size' : Nat} {x : Int} (hm : most = min (b.length - i) 130) (h : Chain b i most t (a : Int) size) (hx : Bef b a x) (hs : size ≤ most) (hn : Same b a i most n) (hs1 : size ≤ size') (hs2 : n ≤ size') (hs3 : size' ≤ most) (hai : a < i) : Chain b i most (t + 1) x size' := by
  obtain ⟨h1, h2, h3⟩ := h
  refine ⟨?_, ?_, fun p p1 p2 p3 p4 p5 => ?_⟩
  · rcases hx.1 with hx | ⟨j, hx, hj, _⟩ <;> omega
  · rcases hx.1 with hx | ⟨j, hx, hj, _⟩
    · exact .inl hx
    · exact .inr ⟨j, hx⟩
  · rcases h3 p p1 p2 p3 p4 p5 with h4 | ⟨h4, h5⟩
    · left
      have := hn.1
      omega
    · have hka := h5 a rfl
      by_cases hap : a = i - p
      · left
        have hnm : ¬ n < most := by
          intro hlt
          refine hn.2.2 hlt ?_
          rw [hap, p5 (i + n) (by omega) (by omega), show i + n - p = i - p + n by omega]
        have := hn.1
        omega
      · right
        have hb := hx.2 (i - p) (by omega) (by omega) ((per_key p5 p1 p3 p4).trans hka.symm)
        refine ⟨by omega, fun j hj => ?_⟩
        rcases hx.1 with hx | ⟨j', hx, _, _, hk⟩
        · omega
        · obtain rfl : j' = j := by omega
          rw [hk, hka]
theorem Chain.last {b : List UInt8} {i most t size : Nat} {x : Int} (hm : most = min (b.length - i) 130) (h : Chain b i most t x size) (hend : 64 ≤ t ∨ x < 0 ∨ most ≤ size) (hs : size ≤ most) : ∀ p, 1 ≤ p → p ≤ 64 → p ≤ i → i + 4 ≤ b.length → Per b p → size = min (b.length - i) 130 := by
  intro p p1 p2 p3 p4 p5
  rcases h.2.2 p p1 p2 p3 p4 p5 with h4 | ⟨h4, _⟩
  · omega
  · have := h.1
    rcases hend with h6 | h6 | h6 <;> omega

set_option maxRecDepth 1000000 in
set_option maxHeartbeats 3200000 in
theorem longest_any (b : List UInt8) (bf : List Int) (i n B cap F fc : Nat) (w : World) (hn : n = b.length) (hl : b.length ≤ 4096) (hbf : bf.length = b.length) (hi : i < b.length) (hB : B < w.heap.size) (hF : F < w.heap.size) (hc : BytesAt w B 0 b) (hf : IntsAt w F bf) (hbe : ∀ k (hk : k < bf.length), Bef b k bf[k]) :
    Calls Tryd.prog 20 #[.agg #[.slice (some ⟨B, 0, none⟩) n cap, .slice (some ⟨F, 0, none⟩) n fc], .int .i64 i] w fun e w' => ∃ fr size : Nat, e = .returned (.tuple #[.int .i64 fr, .int .i64 size]) ∧ Longest b i fr size ∧ Below w.heap.size w w' := by
  subst hn
  have HC : Hid (BytesAt w B 0 b) := hc
  have HFI : Hid (IntsAt w F bf) := hf
  have HBE : Hid (∀ k (hk : k < bf.length), Bef b k bf[k]) := hbe
  have HBF : Hid (bf.length = b.length) := hbf
  clear hc hf hbe
  obtain ⟨x0, hx0⟩ : ∃ x0, x0 = bf[i]'(by omega) := ⟨_, rfl⟩
  have hcx : w.cell? ⟨F, i, none⟩ = some (.int .i64 x0) := by rw [hx0]; exact HFI.out i (by omega)
  have HCH : Hid (∀ most, Chain b i most 0 x0 0) := fun most => Chain.first (by rw [hx0]; exact HBE.out i (by omega))
  have HB0 : Hid (Below w.heap.size w (w.alloc (Obj.cells #[Value.slice (some ⟨B, 0, none⟩) b.length cap, Value.slice (some ⟨F, 0, none⟩) b.length fc] 43))) := (Below.refl _ _).alloc (Nat.le_refl _) _
  have hbox0 : (w.alloc (Obj.cells #[Value.slice (some ⟨B, 0, none⟩) b.length cap, Value.slice (some ⟨F, 0, none⟩) b.length fc] 43)).cell? ⟨w.heap.size, 0, none⟩ = some (.slice (some ⟨B, 0, none⟩) b.length cap) := by simp
  have hbox1 : (w.alloc (Obj.cells #[Value.slice (some ⟨B, 0, none⟩) b.length cap, Value.slice (some ⟨F, 0, none⟩) b.length fc] 43)).cell? ⟨w.heap.size, 1, none⟩ = some (.slice (some ⟨F, 0, none⟩) b.length fc) := by simp
  have HBX : Hid (_ ∧ _) := ⟨hbox0, hbox1⟩
  clear hx0 hbf hbox0 hbox1
  have hii : (i : Int) < (b.length : Int) := by omega
  by_cases hbig : (130 : Int) < (b.length : Int) - (i : Int)
  · obtain ⟨most, hmost⟩ : ∃ most : Nat, (130 : Int) = (most : Int) := ⟨130, by omega⟩
    have hm1 : most = min (b.length - i) 130 := by omega
    have hm2 : i + most ≤ b.length := by omega
    have hm3 : 1 ≤ most := by omega
    have HM : Hid (most = min (b.length - i) 130) := hm1
    have HMO : Hid ((130 : Int) = (most : Int)) := hmost
    clear hm1 hmost
    go_enter Tryd.func20, Tryd.ntmps20
    go_wp2
    rw [HMO.out]
    go_loopw [4, 5, 7, 8] (fun o s x y wr => ∃ (fr size t : Nat) (at_ : Int), o = .int .i64 fr ∧ s = .int .i64 size ∧ x = .int .i64 at_ ∧ y = .int .i64 t ∧ t ≤ 64 ∧ size ≤ most ∧ (0 < size → fr < i ∧ ∀ k, k < size → b.getD (fr + k) 0 = b.getD (i + k) 0) ∧ Chain b i most t at_ size ∧ wr.cell? ⟨w.heap.size, 0, none⟩ = some (.slice (some ⟨B, 0, none⟩) b.length cap) ∧ wr.cell? ⟨w.heap.size, 1, none⟩ = some (.slice (some ⟨F, 0, none⟩) b.length fc) ∧ Below w.heap.size w wr) (fun _ _ _ y _ => 64 - (intOf y).toNat)
    case atStart => exact ⟨0, 0, 0, x0, rfl, rfl, rfl, rfl, by omega, by omega, fun h => by omega, HCH.out most, HBX.out.1, HBX.out.2, HB0.out⟩
    case round =>
      obtain ⟨fr, size, t, at_, rfl, rfl, rfl, rfl, ht, hs, hfs, hch, hb0, hb1, hbel⟩ := hrel
      have HFS : Hid (0 < size → fr < i ∧ ∀ k, k < size → b.getD (fr + k) 0 = b.getD (i + k) 0) := hfs
      have HC1 : Hid (Chain b i most t at_ size) := hch
      have HBL : Hid (Below w.heap.size w wr) := hbel
      have hz : w.heap.size ≤ wr.heap.size := hbel.size
      clear hfs hch hbel hcx
      by_cases hgo : t < 64 ∧ 0 ≤ at_ ∧ size < most
      · obtain ⟨h1, h2, h3⟩ := hgo
        obtain ⟨a, rfl⟩ := Int.eq_ofNat_of_zero_le h2
        have hai : a < i := by have := HC1.out.1; omega
        have h1' : (t : Int) < 64 := by omega
        have h3' : (size : Int) < (most : Int) := by omega
        have haB : a < b.length := by omega
        obtain ⟨x1, hx1⟩ : ∃ x1, x1 = bf[a]'(by have := HBF.out; omega) := ⟨_, rfl⟩
        have HX1 : Hid (Bef b a x1) := by show Bef _ _ _; rw [hx1]; exact HBE.out a (by have := HBF.out; omega)
        have HCX : Hid (∀ w', Below w.heap.size w w' → w'.cell? ⟨F, a, none⟩ = some (.int .i64 x1)) := fun w' h => by rw [hx1]; exact (HFI.out.below h hF) a (by have := HBF.out; omega)
        clear hx1
        have hsz : w.heap.size < wr.heap.size := by
          simp only [World.cell?] at hb0
          cases hh : wr.heap[w.heap.size]? with
          | none => rw [hh] at hb0; cases hb0
          | some o => exact (Array.getElem?_eq_some_iff.1 hh).1
        go_wp2_with fail
        refine (psame_any b a i most _ B cap _ wr rfl (by omega) hai hm2 (by omega) (HC.out.below HBL.out hB)).mono ?_
        rintro e w2 ⟨n, rfl, hsm, hb2⟩
        have HSM : Hid (Same b a i most n) := hsm
        have hnm : n ≤ most := hsm.1
        have HBW2 : Hid (Below w.heap.size w w2) := HBL.out.trans (hb2.mono hz)
        have e0 := (hb2.cell (p := ⟨w.heap.size, 0, none⟩) hsz).trans hb0
        have e1 := (hb2.cell (p := ⟨w.heap.size, 1, none⟩) hsz).trans hb1
        have ec := HCX.out w2 HBW2.out
        have HE : Hid (_ ∧ _) := ⟨e0, e1⟩
        clear hsm hb2 hb0 hb1
        have ha' : (a : Int) < (b.length : Int) := by omega
        by_cases hns : size < n
        · have hns' : (size : Int) < (n : Int) := by omega
          have HNX : Hid (Chain b i most (t + 1) x1 n) := HC1.out.next HM.out HX1.out hs HSM.out (by omega) (Nat.le_refl _) hnm hai
          go_wp2
          go_roundw
          case rel => exact ⟨a, n, t + 1, x1, rfl, rfl, rfl, by go_num, by omega, hnm, fun _ => ⟨hai, HSM.out.2.1⟩, HNX.out, HE.out.1, HE.out.2, HBW2.out⟩
          case measure => simp [intOf]; omega
        · have hns' : ¬ (size : Int) < (n : Int) := by omega
          have HNX : Hid (Chain b i most (t + 1) x1 size) := HC1.out.next HM.out HX1.out hs HSM.out (Nat.le_refl _) (by omega) hs hai
          go_wp2
          go_roundw
          case rel => exact ⟨fr, size, t + 1, x1, rfl, rfl, rfl, by go_num, by omega, hs, HFS.out, HNX.out, HE.out.1, HE.out.2, HBW2.out⟩
          case measure => simp [intOf]; omega
      · have HL : Hid (Longest b i fr size) := by
          refine ⟨?_, HFS.out, HC1.out.last HM.out (by omega) hs⟩
          have := HM.out
          omega
        by_cases h1 : (t : Int) < 64
        · by_cases h2 : 0 ≤ at_
          · have h3 : ¬ (size : Int) < (most : Int) := by omega
            go_wp2
            go_ret2
            exact ⟨fr, size, rfl, HL.out, HBL.out⟩
          · go_wp2
            go_ret2
            exact ⟨fr, size, rfl, HL.out, HBL.out⟩
        · go_wp2
          go_ret2
          exact ⟨fr, size, rfl, HL.out, HBL.out⟩
  · obtain ⟨most, hmost⟩ : ∃ most : Nat, (b.length : Int) - (i : Int) = (most : Int) := ⟨b.length - i, by omega⟩
    have hm1 : most = min (b.length - i) 130 := by omega
    have hm2 : i + most ≤ b.length := by omega
    have hm3 : 1 ≤ most := by omega
    have HM : Hid (most = min (b.length - i) 130) := hm1
    have HMO : Hid ((b.length : Int) - (i : Int) = (most : Int)) := hmost
    clear hm1 hmost
    go_enter Tryd.func20, Tryd.ntmps20
    go_wp2
    rw [HMO.out]
    go_loopw [4, 5, 7, 8] (fun o s x y wr => ∃ (fr size t : Nat) (at_ : Int), o = .int .i64 fr ∧ s = .int .i64 size ∧ x = .int .i64 at_ ∧ y = .int .i64 t ∧ t ≤ 64 ∧ size ≤ most ∧ (0 < size → fr < i ∧ ∀ k, k < size → b.getD (fr + k) 0 = b.getD (i + k) 0) ∧ Chain b i most t at_ size ∧ wr.cell? ⟨w.heap.size, 0, none⟩ = some (.slice (some ⟨B, 0, none⟩) b.length cap) ∧ wr.cell? ⟨w.heap.size, 1, none⟩ = some (.slice (some ⟨F, 0, none⟩) b.length fc) ∧ Below w.heap.size w wr) (fun _ _ _ y _ => 64 - (intOf y).toNat)
    case atStart => exact ⟨0, 0, 0, x0, rfl, rfl, rfl, rfl, by omega, by omega, fun h => by omega, HCH.out most, HBX.out.1, HBX.out.2, HB0.out⟩
    case round =>
      obtain ⟨fr, size, t, at_, rfl, rfl, rfl, rfl, ht, hs, hfs, hch, hb0, hb1, hbel⟩ := hrel
      have HFS : Hid (0 < size → fr < i ∧ ∀ k, k < size → b.getD (fr + k) 0 = b.getD (i + k) 0) := hfs
      have HC1 : Hid (Chain b i most t at_ size) := hch
      have HBL : Hid (Below w.heap.size w wr) := hbel
      have hz : w.heap.size ≤ wr.heap.size := hbel.size
      clear hfs hch hbel hcx
      by_cases hgo : t < 64 ∧ 0 ≤ at_ ∧ size < most
      · obtain ⟨h1, h2, h3⟩ := hgo
        obtain ⟨a, rfl⟩ := Int.eq_ofNat_of_zero_le h2
        have hai : a < i := by have := HC1.out.1; omega
        have h1' : (t : Int) < 64 := by omega
        have h3' : (size : Int) < (most : Int) := by omega
        have haB : a < b.length := by omega
        obtain ⟨x1, hx1⟩ : ∃ x1, x1 = bf[a]'(by have := HBF.out; omega) := ⟨_, rfl⟩
        have HX1 : Hid (Bef b a x1) := by show Bef _ _ _; rw [hx1]; exact HBE.out a (by have := HBF.out; omega)
        have HCX : Hid (∀ w', Below w.heap.size w w' → w'.cell? ⟨F, a, none⟩ = some (.int .i64 x1)) := fun w' h => by rw [hx1]; exact (HFI.out.below h hF) a (by have := HBF.out; omega)
        clear hx1
        have hsz : w.heap.size < wr.heap.size := by
          simp only [World.cell?] at hb0
          cases hh : wr.heap[w.heap.size]? with
          | none => rw [hh] at hb0; cases hb0
          | some o => exact (Array.getElem?_eq_some_iff.1 hh).1
        go_wp2_with fail
        refine (psame_any b a i most _ B cap _ wr rfl (by omega) hai hm2 (by omega) (HC.out.below HBL.out hB)).mono ?_
        rintro e w2 ⟨n, rfl, hsm, hb2⟩
        have HSM : Hid (Same b a i most n) := hsm
        have hnm : n ≤ most := hsm.1
        have HBW2 : Hid (Below w.heap.size w w2) := HBL.out.trans (hb2.mono hz)
        have e0 := (hb2.cell (p := ⟨w.heap.size, 0, none⟩) hsz).trans hb0
        have e1 := (hb2.cell (p := ⟨w.heap.size, 1, none⟩) hsz).trans hb1
        have ec := HCX.out w2 HBW2.out
        have HE : Hid (_ ∧ _) := ⟨e0, e1⟩
        clear hsm hb2 hb0 hb1
        have ha' : (a : Int) < (b.length : Int) := by omega
        by_cases hns : size < n
        · have hns' : (size : Int) < (n : Int) := by omega
          have HNX : Hid (Chain b i most (t + 1) x1 n) := HC1.out.next HM.out HX1.out hs HSM.out (by omega) (Nat.le_refl _) hnm hai
          go_wp2
          go_roundw
          case rel => exact ⟨a, n, t + 1, x1, rfl, rfl, rfl, by go_num, by omega, hnm, fun _ => ⟨hai, HSM.out.2.1⟩, HNX.out, HE.out.1, HE.out.2, HBW2.out⟩
          case measure => simp [intOf]; omega
        · have hns' : ¬ (size : Int) < (n : Int) := by omega
          have HNX : Hid (Chain b i most (t + 1) x1 size) := HC1.out.next HM.out HX1.out hs HSM.out (Nat.le_refl _) (by omega) hs hai
          go_wp2
          go_roundw
          case rel => exact ⟨fr, size, t + 1, x1, rfl, rfl, rfl, by go_num, by omega, hs, HFS.out, HNX.out, HE.out.1, HE.out.2, HBW2.out⟩
          case measure => simp [intOf]; omega
      · have HL : Hid (Longest b i fr size) := by
          refine ⟨?_, HFS.out, HC1.out.last HM.out (by omega) hs⟩
          have := HM.out
          omega
        by_cases h1 : (t : Int) < 64
        · by_cases h2 : 0 ≤ at_
          · have h3 : ¬ (size : Int) < (most : Int) := by omega
            go_wp2
            go_ret2
            exact ⟨fr, size, rfl, HL.out, HBL.out⟩
          · go_wp2
            go_ret2
            exact ⟨fr, size, rfl, HL.out, HBL.out⟩
        · go_wp2
          go_ret2
          exact ⟨fr, size, rfl, HL.out, HBL.out⟩
end Go.Proofs.YtppmjdmdflcoiabDoor
