/-
  plain.CodeSqueeze, the document's Short: the walks.
-/
import Derived.Test.YtppmjdmdflcoiabDoorSq5
namespace Go.Proofs.YtppmjdmdflcoiabDoor
open Go.ChangeShapes Go.WideShapes Go.ChangeAt Go.RowKit
set_option linter.unusedVariables false

def CQPost (b : List UInt8) (w : World) (e : Ending) (w' : World) : Prop := ∃ v out, e = .returned (.tuple #[v, .int .i64 0]) ∧ Owns w' w.heap.size v out ∧ Squ b out ∧ Below w.heap.size w w'
theorem codeSqueeze_long (ad : Addr) (n cap : Nat) (w : World) (h : 4096 < n) (hg : ErrT w) : Calls Tryd.prog 11 #[.slice (some ad) n cap] w fun e w' => e = .returned (.tuple #[.slice none 0 0, .int .i64 6]) ∧ Below w.heap.size w w' := by
  have hno := number_errno 6 w hg
  have hsq := squeeze_long ad n cap w h
  clear hg h
  go_enter Tryd.func11, Tryd.ntmps11
  go_wp2_with (first | (go_at_call 15; refine hsq.mono ?_; rintro e w1 ⟨rfl, rfl⟩; clear hsq) | (go_at_call 14; refine hno.mono ?_; rintro e w2 ⟨rfl, hb2⟩; clear hno))
  go_ret2
  exact ⟨rfl, hb2⟩
theorem codeSqueeze_any (b : List UInt8) (n B cap : Nat) (w : World) (hn : n = b.length) (hl : b.length ≤ 4096) (hcap : b.length < cap) (hB : B < w.heap.size) (hc : BytesAt w B 0 b) :
    Calls Tryd.prog 11 #[.slice (some ⟨B, 0, none⟩) n cap] w (CQPost b w) := by
  have HQ := hid_mk (squeeze_any b n B cap w hn hl hcap hB hc)
  clear hc hn
  go_enter Tryd.func11, Tryd.ntmps11
  go_wp2_with fail
  refine HQ.out.mono ?_
  rintro e w1 ⟨v, out, rfl, ho, hs, hb⟩
  have HO : Hid (Owns w1 w.heap.size v out) := ho
  have HS : Hid (Squ b out) := hs
  have HB : Hid (Below w.heap.size w w1) := hb
  clear ho hs hb
  go_wp2_with (go_at_call 14; refine (number_nil _).mono ?_; rintro e w2 ⟨rfl, hb2⟩)
  go_ret2
  exact ⟨v, out, rfl, HO.out.below hb2, HS.out, HB.out.trans (hb2.mono HB.out.size)⟩

/-- So many bytes a short form may have. -/
def Room (b : List UInt8) (s : Int) : Prop := ∀ out, Squ b out → (out.length : Int) ≤ s
theorem room_first (b : List UInt8) : Room b ((b.length : Int) + ((b.length : Int) + 127) / 128) := fun out h => by
  have := h.2.1
  omega
theorem room_per {b : List UInt8} {p : Nat} (h1 : 1 ≤ p) (h2 : p ≤ 64) (h3 : p ≤ b.length) (h : Per b p) : Room b ((p : Int) + 8 + 3 * ((b.length : Int) / 130)) := fun out ho => by
  have := ho.2.2 p h1 h2 h3 h
  omega

set_option maxRecDepth 1000000 in
set_option maxHeartbeats 3200000 in
theorem short_any (b : List UInt8) (n B cap : Nat) (w : World) (hn : n = b.length) (hl : b.length ≤ 4096) (hB : B < w.heap.size) (hc : BytesAt w B 0 b) :
    Calls Tryd.prog 12 #[.slice (some ⟨B, 0, none⟩) n cap] w fun e w' => ∃ s : Int, e = .returned (.int .i64 s) ∧ Room b s ∧ Below w.heap.size w w' := by
  subst hn
  have HC : Hid (BytesAt w B 0 b) := hc
  clear hc
  have t1 : ((b.length : Int) + 127).tdiv 128 = ((b.length : Int) + 127) / 128 := Int.tdiv_eq_ediv_of_nonneg (by omega)
  have t2 : ((b.length : Int)).tdiv 130 = (b.length : Int) / 130 := Int.tdiv_eq_ediv_of_nonneg (by omega)
  go_enter Tryd.func12, Tryd.ntmps12
  go_wp2
  go_loopw [3, 4] (fun s x wr => ∃ (s' : Int) (p : Nat), s = .int .i64 s' ∧ x = .int .i64 p ∧ 1 ≤ p ∧ p ≤ 65 ∧ 0 ≤ s' ∧ s' ≤ 100000 ∧ Room b s' ∧ Below w.heap.size w wr) (fun _ x _ => 65 - (intOf x).toNat)
  case atStart => exact ⟨_, 1, rfl, rfl, by omega, by omega, by omega, by omega, room_first b, Below.refl _ _⟩
  case round =>
    obtain ⟨s, p, rfl, rfl, hp1, hp2, hs1, hs2, hroom, hbel⟩ := hrel
    have HR : Hid (Room b s) := hroom
    have HBL : Hid (Below w.heap.size w wr) := hbel
    clear hroom hbel
    by_cases hp : p ≤ 64 ∧ p ≤ b.length
    · obtain ⟨q1, q2⟩ := hp
      have q1' : (p : Int) ≤ 64 := by omega
      have q2' : (p : Int) ≤ (b.length : Int) := by omega
      go_wp2
      go_loopw [5, 6] (fun ag x wr => ∃ (g : Bool) (k : Nat), ag = .bool g ∧ x = .int .i64 k ∧ p ≤ k ∧ k ≤ b.length ∧ (g = true → ∀ j, p ≤ j → j < k → b.getD j 0 = b.getD (j - p) 0) ∧ Below w.heap.size w wr) (fun _ x _ => b.length - (intOf x).toNat)
      case atStart => exact ⟨true, p, rfl, rfl, Nat.le_refl _, q2, fun _ j h1 h2 => by omega, HBL.out⟩
      case round =>
        obtain ⟨g, k, rfl, rfl, hk1, hk2, hg, hbel⟩ := hrel
        have HG : Hid (g = true → ∀ j, p ≤ j → j < k → b.getD j 0 = b.getD (j - p) 0) := hg
        have HBL1 : Hid (Below w.heap.size w wr) := hbel
        clear hg hbel HBL
        by_cases hk : k < b.length
        · have hk' : (k : Int) < (b.length : Int) := by omega
          cases g with
          | true =>
            obtain ⟨X, hX⟩ : ∃ X, X = b.getD k 0 := ⟨_, rfl⟩
            obtain ⟨Y, hY⟩ : ∃ Y, Y = b.getD (k - p) 0 := ⟨_, rfl⟩
            have c1 : wr.cell? ⟨B, k, none⟩ = some (.int .u8 ((X.toNat : Nat) : Int)) := by rw [hX]; exact byte_at (HC.out.below HBL1.out hB) _ (by omega)
            have c2 : wr.cell? ⟨B, k - p, none⟩ = some (.int .u8 ((Y.toNat : Nat) : Int)) := by rw [hY]; exact byte_at (HC.out.below HBL1.out hB) _ (by omega)
            have HX : Hid (X = b.getD k 0) := hX
            have HY : Hid (Y = b.getD (k - p) 0) := hY
            have hpk : (p : Int) ≤ (k : Int) := by omega
            have hpk2 : (k : Int) - (p : Int) < (b.length : Int) := by omega
            clear hX hY
            by_cases hxy : X = Y
            · subst hxy
              go_wp2
              go_quiet (fail)
              go_wp2
              go_roundw
              case rel => exact ⟨true, k + 1, by simp, by go_num, by omega, by omega, fun _ j h1 h2 => by
                  rcases Nat.lt_or_ge j k with h | h
                  · exact HG.out (by simp) j h1 h
                  · obtain rfl : j = k := by omega
                    rw [← HX.out, ← HY.out], HBL1.out.trans (drewN_below _ _ _)⟩
              case measure => simp [intOf]; omega
            · have hne : ¬ X.toNat = Y.toNat := fun h => hxy (UInt8.toNat_inj.1 h)
              have hd : (((X.toNat : Nat) : Int) == ((Y.toNat : Nat) : Int)) = false := by simp; omega
              go_wp2
              go_quiet (fail)
              go_wp2
              go_roundw
              case rel => exact ⟨false, k + 1, by first | rfl | simp, by go_num, by omega, by omega, (fun h => by cases h), HBL1.out.trans (drewN_below _ _ _)⟩
              case measure => simp [intOf]; omega
          | false =>
            go_wp2
            go_roundw
            case rel => exact ⟨s, p + 1, rfl, by go_num, by omega, by omega, hs1, hs2, HR.out, HBL1.out⟩
            case measure => simp [intOf]; omega
        · have hk' : ¬ (k : Int) < (b.length : Int) := by omega
          cases g with
          | true =>
            have hper : Per b p := fun j h1 h2 => HG.out (by simp) j h1 (by omega)
            have HRP : Hid (Room b ((p : Int) + 8 + 3 * ((b.length : Int) / 130))) := room_per hp1 q1 q2 hper
            by_cases hmin : (p : Int) + 8 + 3 * ((b.length : Int) / 130) < s
            · go_wp2
              go_roundw
              case rel => exact ⟨_, p + 1, rfl, by go_num, by omega, by omega, by omega, by omega, HRP.out, HBL1.out⟩
              case measure => simp [intOf]; omega
            · go_wp2
              go_roundw
              case rel => exact ⟨s, p + 1, rfl, by go_num, by omega, by omega, hs1, hs2, HR.out, HBL1.out⟩
              case measure => simp [intOf]; omega
          | false =>
            go_wp2
            go_roundw
            case rel => exact ⟨s, p + 1, rfl, by go_num, by omega, by omega, hs1, hs2, HR.out, HBL1.out⟩
            case measure => simp [intOf]; omega
    · by_cases q1 : (p : Int) ≤ 64
      · have q2 : ¬ (p : Int) ≤ (b.length : Int) := by omega
        go_wp2
        go_ret
        exact ⟨s, rfl, HR.out, HBL.out⟩
      · go_wp2
        go_ret
        exact ⟨s, rfl, HR.out, HBL.out⟩
end Go.Proofs.YtppmjdmdflcoiabDoor
