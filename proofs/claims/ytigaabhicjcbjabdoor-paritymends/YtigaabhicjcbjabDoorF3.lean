/-
  The document's own finding of two bytes that are lost.
-/
import Derived.Test.YtigaabhicjcbjabDoorF2
namespace Go.Proofs.YtigaabhicjcbjabDoor
open Go.ChangeShapes Go.WideShapes Go.ChangeAt Go.RowKit
set_option linter.unusedVariables false

set_option maxRecDepth 100000 in
set_option maxHeartbeats 2000000 in
theorem found_2 (U : List (List UInt8)) (n i sz : Nat) (x0 : UInt8) (v : Value) (w : World) (hn : U.length = n + 2) (hn16 : n ≤ 16) (hsz : sz ≤ 4096) (hi : i < sz) (hp : ∀ b ∈ U, b.length = 0 ∨ b.length = sz) (hl2 : lostN (U.take n) = 2) (hpn : ∀ h : n < U.length, U[n].length ≠ 0) (hv : Pcs w.heap.size w v U)
    (hfit : ∀ x, Fit U n 2 i (cols (U.take n) [x, x ^^^ at0 (U.getD n []) i ^^^ colP (U.take n) i] i) ↔ x = x0) :
    Calls Tryd.prog 33 #[v, .int .i64 2, .int .i64 (i : Int)] w (FoundPost [x0, x0 ^^^ at0 (U.getD n []) i ^^^ colP (U.take n) i] w) := by
  obtain ⟨ao, cp, rfl⟩ := hv.shape
  have hcp := hv.cap.2
  have HE := hid_mk (rempty_any (U.take n) w.heap.size (.slice ao n cp) w (by rw [List.length_take]; omega) (hv.take (k := 0) n (by omega)))
  have HF : Hid (∀ (x y : UInt8) (W : World) (b : Nat), b = W.heap.size → Below w.heap.size w W → Calls Tryd.prog 36 #[.slice ao U.length cp, .int .i64 2, .int .i64 (i : Int), .slice (some ⟨b, 0, none⟩) 2 2] (W.alloc (.cells #[.int .u8 (x.toNat : Int), .int .u8 (y.toNat : Int)] 5)) (FitsPost U n 2 i (cols (U.take n) [x, y] i) (W.alloc (.cells #[.int .u8 (x.toNat : Int), .int .u8 (y.toNat : Int)] 5)))) := fun x y W b hb hB =>
    fits_any U n 2 i sz [x, y] _ _ _ hn (by omega) hn16 hsz hi hp (by rw [hl2]; rfl) ((hv.below (hB.alloc hB.size _) (Nat.le_refl _)).mono (hB.alloc hB.size _).size) (fill_two W x y b hb)
  rw [hl2] at HE
  have HFI := hid_mk hfit
  have HV := hid_mk hv
  have HPL := hid_mk hp
  have HN := hid_mk hn
  have hni : (U.length : Int) - 2 = (n : Int) := by omega
  have hnc : (n : Int) ≤ (cp : Int) := by omega
  have hUL : (U.length : Int) ≤ 18 := by omega
  have hnU : (n : Int) < (U.length : Int) := by omega
  have hnU' : n < U.length := by omega
  obtain ⟨b, off, ul, ucp, rfl, hbb, hcP, hrP⟩ := hv.get n hnU'
  have hPn := hpn hnU'
  have hPs : U[n].length = sz := (hp _ (List.getElem_mem hnU')).resolve_left hPn
  obtain ⟨b2, off2, rfl, hb2, hcp2⟩ := Rd.byte hrP i (by omega)
  have HGD : Hid (U.getD n [] = U[n]) := by show _ = _; simp [hnU']
  rw [hPs] at hcP
  obtain ⟨p, hpp⟩ : ∃ p, p = at0 (U.getD n []) i := ⟨_, rfl⟩
  have hcp2' : w.cell? ⟨b2, off2 + i, none⟩ = some (.int .u8 (p.toNat : Int)) := by rw [hpp, HGD.out]; exact hcp2
  rw [← hpp] at HFI ⊢
  obtain ⟨S, hS⟩ : ∃ S, S = colP (U.take n) i := ⟨_, rfl⟩
  rw [← hS] at HFI ⊢
  have HS := hid_mk hS
  have HCP := hid_mk hcP
  have HCP2 := hid_mk hcp2'
  have hiz : (i : Int) < (sz : Int) := by omega
  clear hv hl2 hp hfit hn hpn hrP hcp2 hpp hS hPn hPs hcP hcp2'
  go_enter Tryd.func33, Tryd.ntmps33
  go_wp2_with fail
  refine HE.out.mono ?_
  rintro e w1 ⟨rfl, rfl⟩
  go_wp2
  go_loopw [9] (fun xx wr => ∃ k : Nat, xx = .int .i64 (k : Int) ∧ k ≤ x0.toNat ∧ Below w1.heap.size w1 wr) (fun xx _ => 256 - (intOf xx).toNat)
  case atStart => exact ⟨0, rfl, by omega, Below.refl _ _⟩
  case round =>
    obtain ⟨k, rfl, hk, hb⟩ := hrel
    have hx0 := u8_lt x0
    obtain ⟨X, rfl⟩ := u8_of k (by omega)
    obtain ⟨V, hV⟩ : ∃ V, V = wr := ⟨_, rfl⟩
    subst hV
    have HB := hid_mk hb
    have hX := u8_lt X
    have hX256 : (X.toNat : Int) < 256 := by omega
    have c1 := (hb.cell (p := ⟨b, off + n, none⟩) hbb).trans HCP.out
    have c2 := (hb.cell (p := ⟨b2, off2 + i, none⟩) hb2).trans HCP2.out
    clear hb
    go_wp2
    rw [b8_xor X p]
    go_loopw [10, 11] (fun yy tt wr => ∃ (t : Nat) (Z : UInt8), tt = .int .i64 (t : Int) ∧ t ≤ n ∧ yy = .int .u8 (Z.toNat : Int) ∧ Z = X ^^^ p ^^^ colP (U.take t) i ∧ wr = V) (fun _ tt _ => n - (intOf tt).toNat)
    case atStart => exact ⟨0, X ^^^ p, rfl, by omega, rfl, by simp [colP], rfl⟩
    case round =>
      obtain ⟨t, Z, rfl, ht, rfl, hZ, rfl⟩ := hrel
      have HZZ := hid_mk hZ
      clear hZ
      by_cases htn : t < n
      · have htU : t < U.length := by omega
        have htU' : (t : Int) < (U.length : Int) := by omega
        have htn' : (t : Int) < (n : Int) := by omega
        obtain ⟨b', off', ul', ucp', e', hbb', hct, hrt⟩ := HV.out.get t htU
        cases e'
        have d1 := (HB.out.cell (p := ⟨b, off + t, none⟩) hbb).trans hct
        have HTS : Hid (colP (U.take (t + 1)) i = colP (U.take t) i ^^^ at0 U[t] i) := by show _ = _; rw [take_snoc U t htU, colP_snoc]
        have hor := HPL.out _ (List.getElem_mem htU)
        by_cases h0 : U[t].length = 0
        · rw [h0] at d1
          have HZ : Hid (at0 U[t] i = 0) := by show _ = _; rw [List.eq_nil_of_length_eq_zero h0, at0_nil]
          clear hct hrt h0 hor
          go_wp2
          go_roundw
          case rel => exact ⟨t + 1, Z, by go_num, by omega, rfl, by rw [HTS.out, HZ.out, UInt8.xor_zero]; exact HZZ.out, trivial⟩
          case measure => simp [intOf]; omega
        · have hts : U[t].length = sz := hor.resolve_left h0
          obtain ⟨b3, off3, rfl, hb3, hc3⟩ := Rd.byte hrt i (by omega)
          have d2 := (HB.out.cell (p := ⟨b3, off3 + i, none⟩) hb3).trans hc3
          rw [hts] at d1
          obtain ⟨y, hy⟩ : ∃ y, y = at0 U[t] i := ⟨_, rfl⟩
          rw [← hy] at d2 HTS
          have hs0 : (0 : Int) < (sz : Int) := by omega
          clear hct hrt h0 hor hts hc3 hy
          go_wp2
          go_roundw
          case rel =>
            refine ⟨t + 1, Z ^^^ y, by go_num, by omega, by rw [b8_xor], ?_, trivial⟩
            rw [HTS.out, HZZ.out, ← UInt8.xor_assoc]
          case measure => simp [intOf]; omega
      · have htn' : t = n := by omega
        subst htn'
        have HY : Hid (Z = X ^^^ p ^^^ S) := by show _ = _; rw [HS.out]; exact HZZ.out
        have HC := hid_mk (HF.out X Z wr wr.heap.size rfl HB.out)
        have HBA : Hid (Below w1.heap.size w1 (wr.alloc (.cells #[.int .u8 (X.toNat : Int), .int .u8 (Z.toNat : Int)] 5))) := HB.out.alloc HB.out.size _
        go_wp2_with fail
        refine HC.out.mono ?_
        rintro e w2 ⟨r, rfl, hr, hb2'⟩
        have HR := hid_mk hr
        have HB2 : Hid (Below w1.heap.size w1 w2) := HBA.out.trans (hb2'.mono HBA.out.size)
        clear hr hb2' HC
        by_cases hXx : X = x0
        · have hrt : r = true := HR.out.2 (by rw [HY.out]; exact (HFI.out X).2 hXx)
          subst hrt
          go_wp2
          go_ret
          refine ⟨_, rfl, by rw [← hXx, ← HY.out]; exact fill_two w2 X Z _ rfl, fun b h => by simp [Value.ownBlock] at h; subst h; exact HB2.out.size, HB2.out.alloc HB2.out.size _⟩
        · have hrf : r = false := by
            cases r with
            | false => rfl
            | true => exact absurd ((HFI.out X).1 (by have := HR.out.1 rfl; rw [HY.out] at this; exact this)) hXx
          subst hrf
          have hne : X.toNat ≠ x0.toNat := fun h => hXx (u8_ext h)
          go_wp2
          go_roundw
          case rel => exact ⟨X.toNat + 1, by go_num, by omega, HB2.out⟩
          case measure => simp [intOf]; omega
end Go.Proofs.YtigaabhicjcbjabDoor
