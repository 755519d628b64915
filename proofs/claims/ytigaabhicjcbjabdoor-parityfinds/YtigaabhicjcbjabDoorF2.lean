/-
  The document's own finding of the bytes that are lost.
-/
import Derived.Test.YtigaabhicjcbjabDoorF1
import Derived.Test.YtigaabhicjcbjabDoorN1
namespace Go.Proofs.YtigaabhicjcbjabDoor
open Go.ChangeShapes Go.WideShapes Go.ChangeAt Go.RowKit
set_option linter.unusedVariables false

/-- What found leaves. -/
def FoundPost (F0 : List UInt8) (w : World) (e : Ending) (w' : World) : Prop := ∃ v, e = .returned v ∧ FillR w'.heap.size w' v F0 ∧ (∀ b, v.ownBlock = some b → w.heap.size ≤ b) ∧ Below w.heap.size w w'
theorem fill_one (w : World) (x : UInt8) (b : Nat) (hb : b = w.heap.size) : FillR (w.alloc (.cells #[.int .u8 (x.toNat : Int)] 5)).heap.size (w.alloc (.cells #[.int .u8 (x.toNat : Int)] 5)) (.slice (some ⟨b, 0, none⟩) 1 1) [x] :=
  .inr ⟨b, 0, 1, rfl, by rw [hb]; simp, by simp, one_bytes w x _ rfl b hb⟩
theorem fill_two (w : World) (x y : UInt8) (b : Nat) (hb : b = w.heap.size) : FillR (w.alloc (.cells #[.int .u8 (x.toNat : Int), .int .u8 (y.toNat : Int)] 5)).heap.size (w.alloc (.cells #[.int .u8 (x.toNat : Int), .int .u8 (y.toNat : Int)] 5)) (.slice (some ⟨b, 0, none⟩) 2 2) [x, y] :=
  .inr ⟨b, 0, 2, rfl, by rw [hb]; simp, by simp, two_bytes w x y _ _ rfl rfl b hb⟩
theorem u8_of (k : Nat) (h : k < 256) : ∃ X : UInt8, k = X.toNat := ⟨UInt8.ofNat k, (u8_ofNat h).symm⟩
set_option maxRecDepth 100000 in
set_option maxHeartbeats 1000000 in
theorem found_0 (U : List (List UInt8)) (n lv i : Nat) (v : Value) (w : World) (hn : U.length = n + lv) (hlv : lv ≤ 2) (hn16 : n ≤ 16) (hl0 : lostN (U.take n) = 0) (hv : Pcs w.heap.size w v U) :
    Calls Tryd.prog 33 #[v, .int .i64 (lv : Int), .int .i64 (i : Int)] w (FoundPost [] w) := by
  obtain ⟨ao, cp, rfl⟩ := hv.shape
  have hcp := hv.cap.2
  have HE := hid_mk (rempty_any (U.take n) w.heap.size (.slice ao n cp) w (by rw [List.length_take]; omega) (hv.take (k := 0) n (by omega)))
  rw [hl0] at HE
  have hni : (U.length : Int) - (lv : Int) = (n : Int) := by omega
  have hnc : (n : Int) ≤ (cp : Int) := by omega
  have hUL : (U.length : Int) ≤ 18 := by omega
  clear hv hl0
  go_enter Tryd.func33, Tryd.ntmps33
  go_wp2_with fail
  refine HE.out.mono ?_
  rintro e w1 ⟨rfl, rfl⟩
  go_wp2
  go_ret
  exact ⟨_, rfl, .inl ⟨rfl, rfl⟩, fun b h => by simp [Value.ownBlock] at h, Below.refl _ _⟩
set_option maxRecDepth 100000 in
set_option maxHeartbeats 1000000 in
theorem found_1 (U : List (List UInt8)) (n lv i sz : Nat) (x0 : UInt8) (v : Value) (w : World) (hn : U.length = n + lv) (hlv : lv ≤ 2) (hn16 : n ≤ 16) (hsz : sz ≤ 4096) (hi : i < sz) (hp : ∀ b ∈ U, b.length = 0 ∨ b.length = sz) (hl1 : lostN (U.take n) = 1) (hv : Pcs w.heap.size w v U)
    (hfit : ∀ x, Fit U n lv i (cols (U.take n) [x] i) ↔ x = x0) :
    Calls Tryd.prog 33 #[v, .int .i64 (lv : Int), .int .i64 (i : Int)] w (FoundPost [x0] w) := by
  obtain ⟨ao, cp, rfl⟩ := hv.shape
  have hcp := hv.cap.2
  have HE := hid_mk (rempty_any (U.take n) w.heap.size (.slice ao n cp) w (by rw [List.length_take]; omega) (hv.take (k := 0) n (by omega)))
  have HF : Hid (∀ (x : UInt8) (W : World) (b : Nat), b = W.heap.size → Below w.heap.size w W → Calls Tryd.prog 36 #[.slice ao U.length cp, .int .i64 (lv : Int), .int .i64 (i : Int), .slice (some ⟨b, 0, none⟩) 1 1] (W.alloc (.cells #[.int .u8 (x.toNat : Int)] 5)) (FitsPost U n lv i (cols (U.take n) [x] i) (W.alloc (.cells #[.int .u8 (x.toNat : Int)] 5)))) := fun x W b hb hB =>
    fits_any U n lv i sz [x] _ _ _ hn hlv hn16 hsz hi hp (by rw [hl1]; rfl) ((hv.below (hB.alloc hB.size _) (Nat.le_refl _)).mono (hB.alloc hB.size _).size) (fill_one W x b hb)
  rw [hl1] at HE
  have HFI := hid_mk hfit
  have hni : (U.length : Int) - (lv : Int) = (n : Int) := by omega
  have hnc : (n : Int) ≤ (cp : Int) := by omega
  have hUL : (U.length : Int) ≤ 18 := by omega
  clear hv hl1 hp hfit hn
  go_enter Tryd.func33, Tryd.ntmps33
  go_wp2_with fail
  refine HE.out.mono ?_
  rintro e w1 ⟨rfl, rfl⟩
  go_wp2
  go_loopw [9] (fun xx wr => ∃ k : Nat, xx = .int .i64 (k : Int) ∧ k ≤ x0.toNat ∧ Below w1.heap.size w1 wr) (fun xx _ => 256 - (intOf xx).toNat)
  case atStart => exact ⟨0, rfl, by omega, Below.refl _ _⟩
  case round =>
    obtain ⟨k, rfl, hk, hb⟩ := hrel
    have hx0 := u8_lt x0
    obtain ⟨X, rfl⟩ := u8_of k (by omega)
    obtain ⟨V, hV⟩ : ∃ V, V = wr := ⟨_, rfl⟩
    subst hV
    have HB := hid_mk hb
    have hX := u8_lt X
    have hX256 : (X.toNat : Int) < 256 := by omega
    have HC := hid_mk (HF.out X V V.heap.size rfl hb)
    have HBA : Hid (Below w1.heap.size w1 (V.alloc (.cells #[.int .u8 (X.toNat : Int)] 5))) := hb.alloc hb.size _
    clear hb
    go_wp2_with fail
    refine HC.out.mono ?_
    rintro e w2 ⟨r, rfl, hr, hb2⟩
    have HR := hid_mk hr
    have HB2 : Hid (Below w1.heap.size w1 w2) := HBA.out.trans (hb2.mono HBA.out.size)
    clear hr hb2 HC
    by_cases hXx : X = x0
    · have hrt : r = true := HR.out.2 ((HFI.out X).2 hXx)
      subst hrt
      go_wp2
      go_ret
      refine ⟨_, rfl, by rw [← hXx]; exact fill_one w2 X _ rfl, fun b h => by simp [Value.ownBlock] at h; subst h; exact HB2.out.size, HB2.out.alloc HB2.out.size _⟩
    · have hrf : r = false := by
        cases r with
        | false => rfl
        | true => exact absurd ((HFI.out X).1 (HR.out.1 rfl)) hXx
      subst hrf
      have hne : X.toNat ≠ x0.toNat := fun h => hXx (u8_ext h)
      go_wp2
      go_roundw
      case rel => exact ⟨X.toNat + 1, by go_num, by omega, HB2.out⟩
      case measure => simp [intOf]; omega
end Go.Proofs.YtigaabhicjcbjabDoor
