import Derived.Test.YtcpdnalmoaojlaaDoorHSp22a

/-
  Load, walked.
-/
namespace Go.Proofs.YtcpdnalmoaojlaaDoor
open Go.ChangeShapes Go.WideShapes Go.ChangeAt Go.RowKit
set_option linter.unusedVariables false
set_option linter.unusedSimpArgs false

set_option maxRecDepth 100000 in
set_option maxHeartbeats 4000000 in
theorem load_zero (bs : List UInt8) (n b off cp : Nat) (w : World) (hn : n = bs.length) (hl : bs.length ≤ 70368744177664) (hcp : bs.length ≤ cp) (hb : b < w.heap.size) (hv : BytesAt w b off bs) (hmod : bs.length = 4) (hbig : ¬ 1073741824 < leN (bs.take 4)) :
    Calls Tryd.prog 44 #[.slice (some ⟨b, off, none⟩) n cp] w (LoadPost w bs) := by
  have HNN := hid_mk hn
  have hl' : n ≤ 70368744177664 := by omega
  have hcp' : n ≤ cp := by omega
  have h4 : ¬ n < 4 := by omega
  have h18 : (n - 4) % 18 = 0 := by omega
  have HN4 : Hid (n = 4) := by show _ = _; omega
  clear hn hl hcp hmod
  obtain ⟨K, hK⟩ : ∃ K, n = 4 + 18 * K := ⟨(n - 4) / 18, by omega⟩
  have h4i : ¬ (n : Int) < 4 := by omega
  have hm : ((n : Int) - 4).tmod 18 = 0 := by rw [Int.tmod_eq_emod_of_nonneg (by omega)]; omega
  have hm2 : ((n : Int) - 4) % 18 = 0 := by omega
  have HV := hid_mk hv
  have HK := hid_mk hK
  clear hK
  obtain ⟨rows, hrows⟩ : ∃ rows, rows = leN (bs.take 4) := ⟨_, rfl⟩
  have hr32 : rows < 4294967296 := by rw [hrows]; exact leN_take_lt bs 4
  have HN : Hid (∀ c, Calls Tryd.prog 62 #[.slice (some ⟨b, off, none⟩) 4 c] w fun e w' => e = .returned (.int .u64 (rows : Int)) ∧ w' = w) := by
    intro c
    rw [hrows]
    exact number_any (bs.take 4) 4 b off c w (by have := HNN.out; rw [List.length_take]; omega) (by rw [List.length_take]; omega) (by have := bytesAt_part hv 0 4 (by have := HNN.out; omega); simpa using this)
  have hwr : IntKind.i64.wrap (rows : Int) = (rows : Int) := by rw [IntKind.wrap_i64]; omega
  have c4 : (4 : Int) ≤ (cp : Int) := by omega
  have hc4 : ¬ cp - 4 = 0 ∨ cp - 4 = 0 := by omega
  clear hv
  rw [← hrows] at hbig
  have hbi : ¬ (1073741824 : Int) < (rows : Int) := by omega
  have HW : Hid (∀ A, Below w.heap.size w (w.alloc A)) := fun A => Below.alloc (Below.refl _ _) (Nat.le_refl _) _
  have HRW := hid_mk hrows
  clear hrows
  have h30 : rows ≤ 1073741824 := by omega
  obtain ⟨s, hs⟩ : ∃ s, s = w.heap.size := ⟨_, rfl⟩
  obtain ⟨W0, hW0⟩ : ∃ W0, W0 = w.alloc (.cells #[.int .i64 (rows : Int), .int .i64 0, .int .i64 0, .pointer none] 87) := ⟨_, rfl⟩
  have HR0 : Hid (loadR bs = (loadL K (bs.drop 4) 0 rows).map (fun l => (rows, l))) := by
    show _ = _
    have := HNN.out
    have := HK.out
    unfold loadR
    rw [if_neg (by omega), if_neg (by rw [← HRW.out]; exact hbig), ← HRW.out]
    rw [show (bs.length - 4) / 18 = K by omega]
  have HL0 : Hid (∀ x, (x = .slice (some ⟨b, off + 4, none⟩) (n - 4) (cp - 4) ∨ (K = 0 ∧ ∃ o c, x = .slice o 0 c)) → LI w bs rows K s b off cp x (.slice none 0 0) 0 0 [] W0) := by
    intro x hx
    have hn := HK.out
    refine ⟨?_, ?_, Nat.zero_le _, World.ownsRow_nil _ _ _ _, rfl, ?_, by simp [Fits], Nat.zero_le _, fun p hp => by simp at hp, ?_, ?_⟩
    · rw [hW0, hs]
      exact heap_alloc_new _ _
    · rcases hx with rfl | ⟨h1, h2⟩
      · left
        simp only [Nat.mul_zero, Nat.add_zero, Nat.sub_zero]
        rw [show n - 4 = 18 * K by omega]
      · exact .inr ⟨h1.symm, h2⟩
    · simp
    · rw [hW0]; exact HW.out _
    · simp [Go.Proofs.YtcpdnalmoaojlaaDoor.own, Value.ownBlock]
  have REST : Hid (∀ k v stop pre W, LI w bs rows K s b off cp (.slice none 0 0) v stop k pre W → True) := fun _ _ _ _ _ _ => trivial
  have HS0 := hid_mk hs
  have hK0 : K = 0 := by have := HK.out; have := HN4.out; omega
  subst hK0
  have hm0 : n - 4 = 0 := by have := HK.out; omega
  clear hc4
  have hcz : cp = 4 ∨ ¬ cp = 4 := by omega
  go_enter Tryd.func44, Tryd.ntmps44
  go_wp2_with (first | (go_at_call 62; refine (HN.out _).mono ?_; clear HN; rintro e w2 ⟨rfl, hw2⟩; rw [hw2]; clear hw2))
  all_goals
    rw [← hW0, ← hs]
    clear hW0 hs
    go_loopw [0, 5, 6] (fun x v st wr => ∃ (k stop : Nat) (pre : List Pc), st = .int .i64 (stop : Int) ∧ LI w bs rows 0 s b off cp x v stop k pre wr) (fun x _ _ _ => match x with | .slice _ m _ => m | _ => 0)
    case atStart => exact ⟨0, 0, [], rfl, HL0.out _ (by first | exact .inr ⟨trivial, _, _, rfl⟩ | exact .inr ⟨rfl, _, _, rfl⟩)⟩
    case round =>
      obtain ⟨k, stop, pre, rfl, hLI⟩ := hrel
      have HLI := hid_mk hLI
      obtain rfl : k = 0 := by have := hLI.kK; omega
      obtain ⟨ao, cv, rfl⟩ := hLI.own.form
      have HLT : Hid (∀ W, Below wr.heap.size wr W → Calls Tryd.prog 61 #[.slice ao pre.length cv] W (KPost W pre)) := by
        intro W hW
        have hfit : Fits 0 pre rows := hLI.fits.mono (Nat.le_refl _) hLI.le
        cases ao with
        | none =>
          have h0 : pre = [] := by
            rcases hLI.own.2 with ⟨_, h⟩ | ⟨_, _, _, h, _⟩
            · exact List.eq_nil_of_length_eq_zero h
            · cases h
          rw [h0]
          exact listed_nil none cv W
        | some x =>
          obtain ⟨g, o, sp⟩ := x
          have hsp : sp = none ∧ o = 0 := by
            rcases hLI.own.2 with ⟨h, _⟩ | ⟨_, _, _, h, _⟩
            · cases h
            · simp at h; exact ⟨h.1.2.2, h.1.2.1⟩
          obtain ⟨rfl, rfl⟩ := hsp
          obtain ⟨_, _, hle, hg, hpc⟩ := POwns.at hLI.own
          exact listed_any pre.length pre g 0 cv 0 rows W (Nat.le_refl _) hle (Nat.lt_of_lt_of_le hg hW.size) (hpc.below hW hg) hfit h30
      have HDN := hid_mk (li_done hLI (by have := HNN.out; have := HK.out; omega))
      have HSP := hid_mk hLI.sp
      have HHL := hid_mk (held_none hLI.used)
      have HWB := hid_mk hLI.below
      have hsl : s < wr.heap.size := (Array.getElem?_eq_some_iff.1 hLI.sp).1
      have c3 : ∀ W, Below wr.heap.size wr W → W.cell? ⟨s, 3, none⟩ = some (.pointer none) ∧ W.frozen? ⟨s, 3, none⟩ = false := fun W hW => ⟨(sp_cells ((hW.block s hsl).trans hLI.sp)).2.2.2, unfrozen ((hW.block s hsl).trans hLI.sp) 3⟩
      have HC3 := hid_mk c3
      obtain ⟨xo, xc, rfl⟩ : ∃ xo xc, u0 = .slice xo 0 xc := by
        rcases hLI.sl with rfl | ⟨_, o, c, rfl⟩
        · exact ⟨_, _, rfl⟩
        · exact ⟨_, _, rfl⟩
      obtain ⟨lp, hlp⟩ : ∃ lp, lp = pre.length := ⟨_, rfl⟩
      rw [← hlp] at HLT ⊢
      clear hLI HLI c3 hlp HL0
      go_wp2_with (first | (go_at_call 61; refine (HLT.out _ (Below.refl _ _)).mono ?_; clear HLT; rintro e w8 ⟨t, rfl, hk8, hb8⟩; have HK8 := hid_mk hk8; have HB8 := hid_mk hb8; obtain ⟨d3, df⟩ := HC3.out w8 hb8; clear hk8 hb8))
      go_ret2
      have hsp8 := (HB8.out.block s hsl).trans HSP.out
      refine ⟨?_, .inr ⟨s, rows, pre, by rw [HR0.out, HDN.out]; rfl, rfl, by have := HS0.out; omega, t, ?_, HK8.out.only hsp8 ((Only.refl s w8).setCell 3 _)⟩⟩
      · exact (HWB.out.trans (HB8.out.mono HWB.out.size)).setCell (p := ⟨s, 3, none⟩) (by show w.heap.size ≤ s; have := HS0.out; omega) _
      · rw [heap_put hsp8, HHL.out]
        simp [spv]
end Go.Proofs.YtcpdnalmoaojlaaDoor
