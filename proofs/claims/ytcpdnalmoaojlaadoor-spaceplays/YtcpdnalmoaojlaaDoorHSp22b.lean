import Derived.Test.YtcpdnalmoaojlaaDoorHSp22a
import Derived.Laws.Cover1

/-
  Load, walked.
-/
namespace Go.Proofs.YtcpdnalmoaojlaaDoor
open Go.ChangeShapes Go.WideShapes Go.ChangeAt Go.RowKit
set_option linter.unusedVariables false
set_option linter.unusedSimpArgs false

set_option maxRecDepth 100000 in
set_option maxHeartbeats 4000000 in
theorem load_pos (bs : List UInt8) (n b off cp : Nat) (w : World) (hn : n = bs.length) (hl : bs.length ≤ 70368744177664) (hcp : bs.length ≤ cp) (hb : b < w.heap.size) (hv : BytesAt w b off bs) (hmod : 22 ≤ bs.length ∧ (bs.length - 4) % 18 = 0) (hbig : ¬ 1073741824 < leN (bs.take 4)) :
    Calls Tryd.prog 44 #[.slice (some ⟨b, off, none⟩) n cp] w (LoadPost w bs) := by
  have HNN := hid_mk hn
  have hl' : n ≤ 70368744177664 := by omega
  have hcp' : n ≤ cp := by omega
  have h4 : ¬ n < 4 := by omega
  have h18 : (n - 4) % 18 = 0 := by omega
  have h22 : 22 ≤ n := by omega
  clear hn hl hcp hmod
  obtain ⟨K, hK⟩ : ∃ K, n = 4 + 18 * K := ⟨(n - 4) / 18, by omega⟩
  have h4i : ¬ (n : Int) < 4 := by omega
  have hm : ((n : Int) - 4).tmod 18 = 0 := by rw [Int.tmod_eq_emod_of_nonneg (by omega)]; omega
  have hm2 : ((n : Int) - 4) % 18 = 0 := by omega
  have HV := hid_mk hv
  have HK := hid_mk hK
  clear hK
  obtain ⟨rows, hrows⟩ : ∃ rows, rows = leN (bs.take 4) := ⟨_, rfl⟩
  have hr32 : rows < 4294967296 := by rw [hrows]; exact leN_take_lt bs 4
  have HN : Hid (∀ c, Calls Tryd.prog 62 #[.slice (some ⟨b, off, none⟩) 4 c] w fun e w' => e = .returned (.int .u64 (rows : Int)) ∧ w' = w) := by
    intro c
    rw [hrows]
    exact number_any (bs.take 4) 4 b off c w (by have := HNN.out; rw [List.length_take]; omega) (by rw [List.length_take]; omega) (by have := bytesAt_part hv 0 4 (by have := HNN.out; omega); simpa using this)
  have hwr : IntKind.i64.wrap (rows : Int) = (rows : Int) := by rw [IntKind.wrap_i64]; omega
  have c4 : (4 : Int) ≤ (cp : Int) := by omega
  have hc4 : ¬ cp - 4 = 0 ∨ cp - 4 = 0 := by omega
  clear hv
  rw [← hrows] at hbig
  have hbi : ¬ (1073741824 : Int) < (rows : Int) := by omega
  have HW : Hid (∀ A, Below w.heap.size w (w.alloc A)) := fun A => Below.alloc (Below.refl _ _) (Nat.le_refl _) _
  have HRW := hid_mk hrows
  clear hrows
  have h30 : rows ≤ 1073741824 := by omega
  obtain ⟨s, hs⟩ : ∃ s, s = w.heap.size := ⟨_, rfl⟩
  obtain ⟨W0, hW0⟩ : ∃ W0, W0 = w.alloc (.cells #[.int .i64 (rows : Int), .int .i64 0, .int .i64 0, .pointer none] 87) := ⟨_, rfl⟩
  have HR0 : Hid (loadR bs = (loadL K (bs.drop 4) 0 rows).map (fun l => (rows, l))) := by
    show _ = _
    have := HNN.out
    have := HK.out
    unfold loadR
    rw [if_neg (by omega), if_neg (by rw [← HRW.out]; exact hbig), ← HRW.out]
    rw [show (bs.length - 4) / 18 = K by omega]
  have HL0 : Hid (∀ x, (x = .slice (some ⟨b, off + 4, none⟩) (n - 4) (cp - 4) ∨ (K = 0 ∧ ∃ o c, x = .slice o 0 c)) → LI w bs rows K s b off cp x (.slice none 0 0) 0 0 [] W0) := by
    intro x hx
    have hn := HK.out
    refine ⟨?_, ?_, Nat.zero_le _, World.ownsRow_nil _ _ _ _, rfl, ?_, by simp [Fits], Nat.zero_le _, fun p hp => by simp at hp, ?_, ?_⟩
    · rw [hW0, hs]
      exact heap_alloc_new _ _
    · rcases hx with rfl | ⟨h1, h2⟩
      · left
        simp only [Nat.mul_zero, Nat.add_zero, Nat.sub_zero]
        rw [show n - 4 = 18 * K by omega]
      · exact .inr ⟨h1.symm, h2⟩
    · simp
    · rw [hW0]; exact HW.out _
    · simp [Go.Proofs.YtcpdnalmoaojlaaDoor.own, Value.ownBlock]
  have REST : Hid (∀ k v stop pre W, LI w bs rows K s b off cp (.slice none 0 0) v stop k pre W → True) := fun _ _ _ _ _ _ => trivial
  have hK0 : ¬ K = 0 := by have := HK.out; omega
  have c18 : ¬ cp - 4 = 0 := by have := HK.out; omega
  have c4' : ¬ cp = 4 := by omega
  have c4l : ¬ cp ≤ 4 := by omega
  clear hc4
  go_enter Tryd.func44, Tryd.ntmps44
  go_wp2_with (first | (go_at_call 62; refine (HN.out _).mono ?_; clear HN; rintro e w2 ⟨rfl, hw2⟩; rw [hw2]; clear hw2))
  rw [← hW0, ← hs]
  have HS0 := hid_mk hs
  clear hW0 hs
  go_loopw [0, 5, 6] (fun x v st wr => ∃ (k stop : Nat) (pre : List Pc), st = .int .i64 (stop : Int) ∧ LI w bs rows K s b off cp x v stop k pre wr) (fun x _ _ _ => match x with | .slice _ m _ => m | _ => 0)
  case atStart => exact ⟨0, 0, [], rfl, HL0.out _ (.inl rfl)⟩
  case round =>
    obtain ⟨k, stop, pre, rfl, hLI⟩ := hrel
    have HLI := hid_mk hLI
    by_cases hlt : k < K
    · obtain ⟨ao, cv, rfl⟩ := hLI.own.form
      obtain ⟨lp, hlp⟩ : ∃ lp, lp = pre.length := ⟨_, rfl⟩
      have hlpb : lp ≤ 1073741824 := by have := fits_len hLI.fits; have := hLI.le; omega
      rw [← hlp] at hLI HLI ⊢
      have HLP := hid_mk hlp
      clear hlp
      have HOL := hid_mk (owns_lt hLI.own)
      have HAP := hid_mk hLI.apart
      have HOW := hid_mk hLI.own
      have HWB := hid_mk hLI.below
      obtain rfl : u0 = .slice (some ⟨b, off + 4 + 18 * k, none⟩) (18 * (K - k)) (cp - 4 - 18 * k) := hLI.sl.resolve_right (fun h => by omega)
      obtain ⟨o, ho⟩ : ∃ o, o = off + 4 + 18 * k := ⟨_, rfl⟩
      obtain ⟨m, hm'⟩ : ∃ m, m = 18 * (K - k) := ⟨_, rfl⟩
      obtain ⟨c, hc'⟩ : ∃ c, c = cp - 4 - 18 * k := ⟨_, rfl⟩
      have m18 : 18 ≤ m := by omega
      have mc : m ≤ c := by have := HK.out; omega
      have hmb : m ≤ 70368744177664 := by have := HK.out; omega
      obtain ⟨p, hp⟩ : ∃ p, p = runP ((bs.drop (4 + 18 * k)).take 18) := ⟨_, rfl⟩
      have hlen18 : ((bs.drop (4 + 18 * k)).take 18).length = 18 := by have := HK.out; have := HNN.out; rw [List.length_take, List.length_drop]; omega
      obtain ⟨p1, p2, p3, p4, p5⟩ := runP_bounds _ hlen18
      rw [← hp] at p1 p2 p3 p4 p5
      have HRN : Hid (Calls Tryd.prog 63 #[.slice (some ⟨b, o, none⟩) 18 c] wr fun e w' => e = .returned (.agg (runv p)) ∧ Below wr.heap.size wr w') := by
        rw [hp, ho]
        have hbw : b < wr.heap.size := Nat.lt_of_lt_of_le hb hLI.below.size
        refine runOf_any _ b _ c wr hlen18 (by omega) hbw ?_
        have h1 := bytesAt_part HV.out (4 + 18 * k) 18 (by have := HK.out; have := HNN.out; omega)
        intro i hi
        have h2 := h1 i hi
        rw [show off + (4 + 18 * k) = off + 4 + 18 * k by omega] at h2
        exact (hLI.below.cell (p := ⟨b, off + 4 + 18 * k + i, none⟩) hb).trans h2
      have HSP : Hid (wr.heap[s]? = some (.cells (spv rows (rowsL isUsed pre) 0 none) 87 (0, 0))) := hLI.sp
      obtain ⟨used, hused⟩ : ∃ used, used = rowsL isUsed pre := ⟨_, rfl⟩
      rw [← hused] at HSP
      have HUS := hid_mk hused
      have hsl : s < wr.heap.size := (Array.getElem?_eq_some_iff.1 HSP.out).1
      have hst : p.stop = p.at' + p.n := rfl
      have hsle : stop ≤ rows := hLI.le
      have HPP := hid_mk hp
      have HOO := hid_mk ho
      have HMM := hid_mk hm'
      have HCC := hid_mk hc'
      rw [← ho, ← hm', ← hc']
      clear hLI hp ho hm' hc' hlen18 hused HL0
      unfold runv at HRN
      have mi : (18 : Int) ≤ (m : Int) := by omega
      have ci : (18 : Int) ≤ (c : Int) := by omega
      have m0 : ¬ m = 0 := by omega
      have m0' : (0 : Int) < (m : Int) := by omega
      have HP1 : Hid (∀ W, Calls Tryd.prog 64 #[.agg (pcv p)] W fun e w' => e = .returned (.int .i64 (p.stop : Int)) ∧ Below W.heap.size W w') := fun W => (end_big p W (by omega)).mono (fun e w' h => ⟨h.1, by rw [h.2]; exact Below.alloc (Below.refl _ _) (Nat.le_refl _) _⟩)
      have e5 : (p.st : Int) = 1 := by omega
      unfold pcv at HP1
      rw [e5] at HP1
      obtain ⟨A, hA⟩ : ∃ A : Int, A = (p.at' : Int) := ⟨_, rfl⟩
      obtain ⟨N, hN'⟩ : ∃ N : Int, N = (p.n : Int) := ⟨_, rfl⟩
      obtain ⟨C, hC⟩ : ∃ C : Int, C = (p.count : Int) := ⟨_, rfl⟩
      obtain ⟨G, hG⟩ : ∃ G : Int, G = (p.tag : Int) := ⟨_, rfl⟩
      obtain ⟨E, hE⟩ : ∃ E : Int, E = (p.stop : Int) := ⟨_, rfl⟩
      obtain ⟨T, hT⟩ : ∃ T : Int, T = (stop : Int) := ⟨_, rfl⟩
      obtain ⟨R, hR⟩ : ∃ R : Int, R = (rows : Int) := ⟨_, rfl⟩
      obtain ⟨U, hU⟩ : ∃ U : Int, U = (used : Int) := ⟨_, rfl⟩
      rw [← hA, ← hN', ← hC, ← hG, ← hE] at HP1
      rw [← hA, ← hN', ← hC, ← hG] at HRN
      rw [← hT, ← hR]
      have HA := hid_mk hA
      have HN' := hid_mk hN'
      have HC := hid_mk hC
      have HG := hid_mk hG
      have HE := hid_mk hE
      have HT := hid_mk hT
      have HR := hid_mk hR
      have HU := hid_mk hU
      clear hA hN' hC hG hE hT hR hU
      go_wp2_with (first | (go_at_call 63; refine HRN.out.mono ?_; clear HRN; rintro e w3 ⟨rfl, hb3⟩; have HB3 := hid_mk hb3; clear hb3))
      obtain ⟨P, hP⟩ : ∃ P, P = w3.heap.size := ⟨_, rfl⟩
      obtain ⟨V, hV⟩ : ∃ V, V = w3.alloc (.cells #[.int .i64 A, .int .i64 N, .int .i64 C, .int .u64 G, .int .u8 1] 103) := ⟨_, rfl⟩
      have HVS : Hid (V.heap.size = P + 1) := by show _ = _; rw [hV, hP]; simp
      have HV0 : Hid (V.heap[P]? = some (.cells #[.int .i64 A, .int .i64 N, .int .i64 C, .int .u64 G, .int .u8 1] 103 (0, 0))) := by show _ = _; rw [hV, hP]; exact heap_alloc_new _ _
      have HVB : Hid (Below wr.heap.size wr V) := by show Below _ _ _; rw [hV]; exact Below.alloc HB3.out HB3.out.size _
      have HCS : Hid (∀ W, Below V.heap.size V W → W.cell? ⟨P, 0, none⟩ = some (.int .i64 A) ∧ W.cell? ⟨P, 1, none⟩ = some (.int .i64 N) ∧ W.cell? ⟨P, 2, none⟩ = some (.int .i64 C) ∧ W.cell? ⟨P, 3, none⟩ = some (.int .u64 G) ∧ W.cell? ⟨P, 4, none⟩ = some (.int .u8 1) ∧ W.cell? ⟨s, 0, none⟩ = some (.int .i64 R) ∧ W.cell? ⟨s, 1, none⟩ = some (.int .i64 U) ∧ W.heap[s]? = some (.cells (spv rows used 0 none) 87 (0, 0))) := by
        intro W hW
        have h1 := (hW.block P (by rw [HVS.out]; omega)).trans HV0.out
        have h2 := (hW.block s (Nat.lt_of_lt_of_le hsl HVB.out.size)).trans ((HVB.out.block s hsl).trans HSP.out)
        obtain ⟨d0, d1, _, _⟩ := sp_cells h2
        exact ⟨by simp [World.cell?, h1], by simp [World.cell?, h1], by simp [World.cell?, h1], by simp [World.cell?, h1], by simp [World.cell?, h1], by rw [HR.out]; exact d0, by rw [HU.out]; exact d1, h2⟩
      rw [← hV, ← hP]
      have HPV := hid_mk hP
      clear hV hP
      obtain ⟨v0, v1, v2, v3, v4, v5, v6, _⟩ := HCS.out V (Below.refl _ _)
      by_cases hbad : p.at' < stop ∨ p.n < 1 ∨ rows < p.stop ∨ p.count < 1
      · have HLB : Hid (loadR bs = none) := by show _ = _; rw [HR0.out, li_bad HLI.out hlt (by have := HNN.out; have := HK.out; omega) HPP.out hbad]; rfl
        have HW5 : Hid (∀ W, Below V.heap.size V W → Below w.heap.size w W) := fun W hW => (HWB.out.trans (HVB.out.mono HWB.out.size)).trans (hW.mono (Nat.le_trans HWB.out.size HVB.out.size))
        clear HLI
        by_cases q1 : p.at' < stop
        · have t1 : A < T := (by have := HA.out; have := HN'.out; have := HC.out; have := HE.out; have := HT.out; have := HR.out; omega)
          clear hbad
          go_quiet (fail)
          go_wp2_with fail
          go_ret2
          exact load_bad HLB.out (HW5.out _ (drewN_bel _ _ _))
        · skip
          by_cases q2 : p.n < 1
          · have t2 : N < 1 := (by have := HA.out; have := HN'.out; have := HC.out; have := HE.out; have := HT.out; have := HR.out; omega)
            have t1 : decide (A < T) = false := decide_eq_false (by have := HA.out; have := HN'.out; have := HC.out; have := HE.out; have := HT.out; have := HR.out; omega)
            clear hbad
            go_quiet (fail)
            go_wp2_with fail
            go_ret2
            exact load_bad HLB.out (HW5.out _ (drewN_bel _ _ _))
          · skip
            by_cases q3 : rows < p.stop
            · have t3 : R < E := (by have := HA.out; have := HN'.out; have := HC.out; have := HE.out; have := HT.out; have := HR.out; omega)
              have t1 : decide (A < T) = false := decide_eq_false (by have := HA.out; have := HN'.out; have := HC.out; have := HE.out; have := HT.out; have := HR.out; omega)
              have t2 : decide (N < 1) = false := decide_eq_false (by have := HA.out; have := HN'.out; have := HC.out; have := HE.out; have := HT.out; have := HR.out; omega)
              clear hbad
              refine wp_region_held_drew (S := (fun w' => w'.cell? ⟨P, 0, none⟩ = some (.int .i64 A) ∧ w'.cell? ⟨P, 1, none⟩ = some (.int .i64 N) ∧ w'.cell? ⟨P, 2, none⟩ = some (.int .i64 C) ∧ w'.cell? ⟨P, 3, none⟩ = some (.int .u64 G) ∧ w'.cell? ⟨P, 4, none⟩ = some (.int .u8 1) ∧ w'.cell? ⟨s, 0, none⟩ = some (.int .i64 R))) (by kernel_rfl) (by (try dsimp only); simp [*]) (fun hHeld => ?_)
              refine wpAnyH_take (i := 0) (v := ?_) rfl (by kernel_rfl) (by kernel_rfl) (by kernel_rfl) (fun _ _ _ h => h) (Or.inl ⟨by kernel_rfl, ?_⟩) (by assumption) ?_
              rotate_left
              · (intro w0 hSw; (try dsimp only at hSw); go_simp; (try with_reducible rfl))
              try simp only [Act.put, List.getElem_toArray, List.getElem_cons_zero, List.getElem_cons_succ, List.setIfInBounds_toArray, List.set_cons_zero, List.set_cons_succ]
              refine wpAnyH_take (i := 1) (v := ?_) rfl (by kernel_rfl) (by kernel_rfl) (by kernel_rfl) (fun _ _ _ h => h) (Or.inl ⟨by kernel_rfl, ?_⟩) (by assumption) ?_
              rotate_left
              · (intro w0 hSw; (try dsimp only at hSw); go_simp; (try with_reducible rfl))
              try simp only [Act.put, List.getElem_toArray, List.getElem_cons_zero, List.getElem_cons_succ, List.setIfInBounds_toArray, List.set_cons_zero, List.set_cons_succ]
              refine wpAnyH_take (i := 2) (v := ?_) rfl (by kernel_rfl) (by kernel_rfl) (by kernel_rfl) (fun _ _ _ h => h) (Or.inl ⟨by kernel_rfl, ?_⟩) (by assumption) ?_
              rotate_left
              · (intro w0 hSw; (try dsimp only at hSw); go_simp; (try with_reducible rfl))
              try simp only [Act.put, List.getElem_toArray, List.getElem_cons_zero, List.getElem_cons_succ, List.setIfInBounds_toArray, List.set_cons_zero, List.set_cons_succ]
              refine wpAnyH_take (i := 3) (v := ?_) rfl (by kernel_rfl) (by kernel_rfl) (by kernel_rfl) (fun _ _ _ h => h) (Or.inl ⟨by kernel_rfl, ?_⟩) (by assumption) ?_
              rotate_left
              · (intro w0 hSw; (try dsimp only at hSw); go_simp; (try with_reducible rfl))
              try simp only [Act.put, List.getElem_toArray, List.getElem_cons_zero, List.getElem_cons_succ, List.setIfInBounds_toArray, List.set_cons_zero, List.set_cons_succ]
              refine wpAnyH_take (i := 4) (v := .bool false) rfl (by kernel_rfl) (by kernel_rfl) (by kernel_rfl) (fun _ _ _ h => h) (Or.inl ⟨by kernel_rfl, ?_⟩) (by assumption) ?_
              · (intro w0 hSw; (try dsimp only at hSw); go_simp; (try simp [t1]); (try with_reducible rfl))
              try simp only [Act.put, List.getElem_toArray, List.getElem_cons_zero, List.getElem_cons_succ, List.setIfInBounds_toArray, List.set_cons_zero, List.set_cons_succ]
              refine wpAnyH_take (i := 5) (v := ?_) rfl (by kernel_rfl) (by kernel_rfl) (by kernel_rfl) (fun _ _ _ h => h) (Or.inl ⟨by kernel_rfl, ?_⟩) (by assumption) ?_
              rotate_left
              · (intro w0 hSw; (try dsimp only at hSw); go_simp; (try with_reducible rfl))
              try simp only [Act.put, List.getElem_toArray, List.getElem_cons_zero, List.getElem_cons_succ, List.setIfInBounds_toArray, List.set_cons_zero, List.set_cons_succ]
              refine wpAnyH_take (i := 6) (v := ?_) rfl (by kernel_rfl) (by kernel_rfl) (by kernel_rfl) (fun _ _ _ h => h) (Or.inl ⟨by kernel_rfl, ?_⟩) (by assumption) ?_
              rotate_left
              · (intro w0 hSw; (try dsimp only at hSw); go_simp; (try with_reducible rfl))
              try simp only [Act.put, List.getElem_toArray, List.getElem_cons_zero, List.getElem_cons_succ, List.setIfInBounds_toArray, List.set_cons_zero, List.set_cons_succ]
              refine wpAnyH_take (i := 7) (v := ?_) rfl (by kernel_rfl) (by kernel_rfl) (by kernel_rfl) (fun _ _ _ h => h) (Or.inl ⟨by kernel_rfl, ?_⟩) (by assumption) ?_
              rotate_left
              · (intro w0 hSw; (try dsimp only at hSw); go_simp; (try with_reducible rfl))
              try simp only [Act.put, List.getElem_toArray, List.getElem_cons_zero, List.getElem_cons_succ, List.setIfInBounds_toArray, List.set_cons_zero, List.set_cons_succ]
              refine wpAnyH_take (i := 8) (v := ?_) rfl (by kernel_rfl) (by kernel_rfl) (by kernel_rfl) (fun _ _ _ h => h) (Or.inl ⟨by kernel_rfl, ?_⟩) (by assumption) ?_
              rotate_left
              · (intro w0 hSw; (try dsimp only at hSw); go_simp; (try with_reducible rfl))
              try simp only [Act.put, List.getElem_toArray, List.getElem_cons_zero, List.getElem_cons_succ, List.setIfInBounds_toArray, List.set_cons_zero, List.set_cons_succ]
              refine wpAnyH_take (i := 9) (v := .bool false) rfl (by kernel_rfl) (by kernel_rfl) (by kernel_rfl) (fun _ _ _ h => h) (Or.inl ⟨by kernel_rfl, ?_⟩) (by assumption) ?_
              · (intro w0 hSw; (try dsimp only at hSw); go_simp; (try simp [t2]); (try with_reducible rfl))
              try simp only [Act.put, List.getElem_toArray, List.getElem_cons_zero, List.getElem_cons_succ, List.setIfInBounds_toArray, List.set_cons_zero, List.set_cons_succ]
              refine wpAnyH_take (i := 10) (v := ?_) rfl (by kernel_rfl) (by kernel_rfl) (by kernel_rfl) (fun _ _ _ h => h) (Or.inl ⟨by kernel_rfl, ?_⟩) (by assumption) ?_
              rotate_left
              · (intro w0 hSw; (try dsimp only at hSw); go_simp; (try with_reducible rfl))
              try simp only [Act.put, List.getElem_toArray, List.getElem_cons_zero, List.getElem_cons_succ, List.setIfInBounds_toArray, List.set_cons_zero, List.set_cons_succ]
              refine wpAnyH_take (i := 11) (v := ?_) rfl (by kernel_rfl) (by kernel_rfl) (by kernel_rfl) (fun _ _ _ h => h) (Or.inl ⟨by kernel_rfl, ?_⟩) (by assumption) ?_
              rotate_left
              · (intro w0 hSw; (try dsimp only at hSw); go_simp; (try with_reducible rfl))
              try simp only [Act.put, List.getElem_toArray, List.getElem_cons_zero, List.getElem_cons_succ, List.setIfInBounds_toArray, List.set_cons_zero, List.set_cons_succ]
              refine wpAnyH_take (i := 12) (v := ?_) rfl (by kernel_rfl) (by kernel_rfl) (by kernel_rfl) (fun _ _ _ h => h) (Or.inl ⟨by kernel_rfl, ?_⟩) (by assumption) ?_
              rotate_left
              · (intro w0 hSw; (try dsimp only at hSw); go_simp; (try with_reducible rfl))
              try simp only [Act.put, List.getElem_toArray, List.getElem_cons_zero, List.getElem_cons_succ, List.setIfInBounds_toArray, List.set_cons_zero, List.set_cons_succ]
              refine wpAnyH_take (i := 14) (v := ?_) rfl (by kernel_rfl) (by kernel_rfl) (by kernel_rfl) (fun _ _ _ h => h) (Or.inl ⟨by kernel_rfl, ?_⟩) (by assumption) ?_
              rotate_left
              · (intro w0 hSw; (try dsimp only at hSw); go_simp; (try with_reducible rfl))
              try simp only [Act.put, List.getElem_toArray, List.getElem_cons_zero, List.getElem_cons_succ, List.setIfInBounds_toArray, List.set_cons_zero, List.set_cons_succ]
              refine wpAnyH_take (i := 15) (v := ?_) rfl (by kernel_rfl) (by kernel_rfl) (by kernel_rfl) (fun _ _ _ h => h) (Or.inl ⟨by kernel_rfl, ?_⟩) (by assumption) ?_
              rotate_left
              · (intro w0 hSw; (try dsimp only at hSw); go_simp; (try with_reducible rfl))
              try simp only [Act.put, List.getElem_toArray, List.getElem_cons_zero, List.getElem_cons_succ, List.setIfInBounds_toArray, List.set_cons_zero, List.set_cons_succ]
              refine wpAnyH_take (i := 16) (v := ?_) rfl (by kernel_rfl) (by kernel_rfl) (by kernel_rfl) (fun _ _ _ h => h) (Or.inl ⟨by kernel_rfl, ?_⟩) (by assumption) ?_
              rotate_left
              · (intro w0 hSw; (try dsimp only at hSw); go_simp; (try with_reducible rfl))
              try simp only [Act.put, List.getElem_toArray, List.getElem_cons_zero, List.getElem_cons_succ, List.setIfInBounds_toArray, List.set_cons_zero, List.set_cons_succ]
              refine wpAnyH_take (i := 17) (v := ?_) rfl (by kernel_rfl) (by kernel_rfl) (by kernel_rfl) (fun _ _ _ h => h) (Or.inl ⟨by kernel_rfl, ?_⟩) (by assumption) ?_
              rotate_left
              · (intro w0 hSw; (try dsimp only at hSw); go_simp; (try with_reducible rfl))
              try simp only [Act.put, List.getElem_toArray, List.getElem_cons_zero, List.getElem_cons_succ, List.setIfInBounds_toArray, List.set_cons_zero, List.set_cons_succ]
              refine wpAnyH_ready (rs := [13]) (by kernel_rfl) (by simp) ?_
              refine AllReadyH.cons rfl (fun K hK => ?_) AllReadyH.nil
              (go_simp; go_at_call 64; refine (HP1.out _).mono ?_; rintro e w4 ⟨rfl, hb4⟩; have HB4 : Hid (Below V.heap.size V w4) := (Below.drew (Below.refl _ _)).trans hb4; obtain ⟨y0, y1, y2, y3, y4, y5, y6, _⟩ := HCS.out w4 HB4.out; clear hb4; go_wp2_with fail)
              refine hK.out _ _ (by (try dsimp only); simp [*]) (fun hHeld => ?_)
              clear hK K
              try simp only [Act.put, List.getElem_toArray, List.getElem_cons_zero, List.getElem_cons_succ, List.setIfInBounds_toArray, List.set_cons_zero, List.set_cons_succ]
              refine wpAnyH_take (i := 18) (v := .bool true) rfl (by kernel_rfl) (by kernel_rfl) (by kernel_rfl) (fun _ _ _ h => h) (Or.inl ⟨by kernel_rfl, ?_⟩) (by assumption) ?_
              · (intro w0 hSw; (try dsimp only at hSw); go_simp; (try simp [t3]); (try with_reducible rfl))
              try simp only [Act.put, List.getElem_toArray, List.getElem_cons_zero, List.getElem_cons_succ, List.setIfInBounds_toArray, List.set_cons_zero, List.set_cons_succ]
              refine wpAnyH_take (i := 19) (v := ?_) rfl (by kernel_rfl) (by kernel_rfl) (by kernel_rfl) (fun _ _ _ h => h) (Or.inl ⟨by kernel_rfl, ?_⟩) (by assumption) ?_
              rotate_left
              · (intro w0 hSw; (try dsimp only at hSw); go_simp; (try with_reducible rfl))
              try simp only [Act.put, List.getElem_toArray, List.getElem_cons_zero, List.getElem_cons_succ, List.setIfInBounds_toArray, List.set_cons_zero, List.set_cons_succ]
              refine wpAnyH_take (i := 20) (v := ?_) rfl (by kernel_rfl) (by kernel_rfl) (by kernel_rfl) (fun _ _ _ h => h) (Or.inl ⟨by kernel_rfl, ?_⟩) (by assumption) ?_
              rotate_left
              · (intro w0 hSw; (try dsimp only at hSw); go_simp; (try with_reducible rfl))
              try simp only [Act.put, List.getElem_toArray, List.getElem_cons_zero, List.getElem_cons_succ, List.setIfInBounds_toArray, List.set_cons_zero, List.set_cons_succ]
              refine wpAnyH_take (i := 21) (v := undef) rfl (by kernel_rfl) (by kernel_rfl) (by kernel_rfl) (fun _ _ _ h => h) (Or.inr ⟨by kernel_rfl, rfl⟩) (by assumption) ?_
              try simp only [Act.put, List.getElem_toArray, List.getElem_cons_zero, List.getElem_cons_succ, List.setIfInBounds_toArray, List.set_cons_zero, List.set_cons_succ]
              refine wpAnyH_take (i := 22) (v := undef) rfl (by kernel_rfl) (by kernel_rfl) (by kernel_rfl) (fun _ _ _ h => h) (Or.inr ⟨by kernel_rfl, rfl⟩) (by assumption) ?_
              try simp only [Act.put, List.getElem_toArray, List.getElem_cons_zero, List.getElem_cons_succ, List.setIfInBounds_toArray, List.set_cons_zero, List.set_cons_succ]
              refine wpAnyH_take (i := 23) (v := undef) rfl (by kernel_rfl) (by kernel_rfl) (by kernel_rfl) (fun _ _ _ h => h) (Or.inr ⟨by kernel_rfl, rfl⟩) (by assumption) ?_
              try simp only [Act.put, List.getElem_toArray, List.getElem_cons_zero, List.getElem_cons_succ, List.setIfInBounds_toArray, List.set_cons_zero, List.set_cons_succ]
              refine wpAnyH_take (i := 24) (v := undef) rfl (by kernel_rfl) (by kernel_rfl) (by kernel_rfl) (fun _ _ _ h => h) (Or.inr ⟨by kernel_rfl, rfl⟩) (by assumption) ?_
              try simp only [Act.put, List.getElem_toArray, List.getElem_cons_zero, List.getElem_cons_succ, List.setIfInBounds_toArray, List.set_cons_zero, List.set_cons_succ]
              refine wpAnyH_take (i := 25) (v := ?_) rfl (by kernel_rfl) (by kernel_rfl) (by kernel_rfl) (fun _ _ _ h => h) (Or.inl ⟨by kernel_rfl, ?_⟩) (by assumption) ?_
              rotate_left
              · (intro w0 hSw; (try dsimp only at hSw); go_simp; (try with_reducible rfl))
              try simp only [Act.put, List.getElem_toArray, List.getElem_cons_zero, List.getElem_cons_succ, List.setIfInBounds_toArray, List.set_cons_zero, List.set_cons_succ]
              refine wpAnyH_done (by kernel_rfl) ?_ _
              go_wp2_with fail
              go_ret2
              exact load_bad HLB.out (HW5.out _ HB4.out)
            · skip
              have q4 : p.count < 1 := by omega
              have t4 : C < 1 := (by have := HA.out; have := HN'.out; have := HC.out; have := HE.out; have := HT.out; have := HR.out; omega)
              have t1 : decide (A < T) = false := decide_eq_false (by have := HA.out; have := HN'.out; have := HC.out; have := HE.out; have := HT.out; have := HR.out; omega)
              have t2 : decide (N < 1) = false := decide_eq_false (by have := HA.out; have := HN'.out; have := HC.out; have := HE.out; have := HT.out; have := HR.out; omega)
              have t3 : decide (R < E) = false := decide_eq_false (by have := HA.out; have := HN'.out; have := HC.out; have := HE.out; have := HT.out; have := HR.out; omega)
              clear hbad
              go_region_held3 (fun w' => w'.cell? ⟨P, 0, none⟩ = some (.int .i64 A) ∧ w'.cell? ⟨P, 1, none⟩ = some (.int .i64 N) ∧ w'.cell? ⟨P, 2, none⟩ = some (.int .i64 C) ∧ w'.cell? ⟨P, 3, none⟩ = some (.int .u64 G) ∧ w'.cell? ⟨P, 4, none⟩ = some (.int .u8 1) ∧ w'.cell? ⟨s, 0, none⟩ = some (.int .i64 R)) (simp [*]) (first | (go_at_call 64; refine (HP1.out _).mono ?_; rintro e w4 ⟨rfl, hb4⟩; have HB4 : Hid (Below V.heap.size V w4) := (Below.drew (Below.refl _ _)).trans hb4; obtain ⟨y0, y1, y2, y3, y4, y5, y6, _⟩ := HCS.out w4 HB4.out; clear hb4))
              go_wp2_with fail
              go_ret2
              exact load_bad HLB.out (HW5.out _ HB4.out)
      · have t1 : decide (A < T) = false := decide_eq_false (by have := HA.out; have := HN'.out; have := HC.out; have := HE.out; have := HT.out; have := HR.out; omega)
        have t2 : decide (N < 1) = false := decide_eq_false (by have := HA.out; have := HN'.out; have := HC.out; have := HE.out; have := HT.out; have := HR.out; omega)
        have t3 : decide (R < E) = false := decide_eq_false (by have := HA.out; have := HN'.out; have := HC.out; have := HE.out; have := HT.out; have := HR.out; omega)
        have t4 : decide (C < 1) = false := decide_eq_false (by have := HA.out; have := HN'.out; have := HC.out; have := HE.out; have := HT.out; have := HR.out; omega)
        go_region_held3 (fun w' => w'.cell? ⟨P, 0, none⟩ = some (.int .i64 A) ∧ w'.cell? ⟨P, 1, none⟩ = some (.int .i64 N) ∧ w'.cell? ⟨P, 2, none⟩ = some (.int .i64 C) ∧ w'.cell? ⟨P, 3, none⟩ = some (.int .u64 G) ∧ w'.cell? ⟨P, 4, none⟩ = some (.int .u8 1) ∧ w'.cell? ⟨s, 0, none⟩ = some (.int .i64 R)) (simp [*]) (first
          | (go_at_call 64; refine (HP1.out _).mono ?_; rintro e w4 ⟨rfl, hb4⟩; have HB4 : Hid (Below V.heap.size V w4) := (Below.drew (Below.refl _ _)).trans hb4; obtain ⟨y0, y1, y2, y3, y4, y5, y6, _⟩ := HCS.out w4 HB4.out; clear hb4))
        clear v0 v1 v2 v3 v4 v5 v6
        have HV4S := hid_mk HB4.out.size
        have HN4 : Hid (∀ k, Go.Proofs.YtcpdnalmoaojlaaDoor.own (.slice ao lp cv) k → k < wr.heap.size) := HOL.out
        have HA4 : Hid (∀ c, Below w4.heap.size w4 (w4.alloc (.cells c 103))) := fun c => Below.alloc (Below.refl _ _) (Nat.le_refl _) _
        have HWR4 : Hid (Below wr.heap.size wr w4) := HVB.out.trans (HB4.out.mono HVB.out.size)
        have HOW4 : Hid (∀ c, POwns (w4.alloc (.cells c 103)) w.heap.size (.slice ao lp cv) pre) := fun c => (HOW.out.below HWR4.out).below (HA4.out c)
        have HNW : Hid (∀ j u, (#[.int .i64 A, .int .i64 N, .int .i64 C, .int .u64 G, .int .u8 1] : Array Value).toList[j]? = some u → (w4.alloc (.cells #[.int .i64 A, .int .i64 N, .int .i64 C, .int .u64 G, .int .u8 1] 103)).cell? ((⟨w4.heap.size, 0, none⟩ : Addr).add j) = some u) := by
          intro j u hj
          have h := heap_alloc_new w4 (.cells #[.int .i64 A, .int .i64 N, .int .i64 C, .int .u64 G, .int .u8 1] 103)
          have e : (⟨w4.heap.size, 0, none⟩ : Addr).add j = ⟨w4.heap.size, j, none⟩ := by
            unfold Addr.add
            by_cases h0 : j = 0
            · rw [if_pos h0, h0]
            · rw [if_neg h0, Nat.zero_add]
          rw [e]
          simp only [World.cell?, h]
          simpa using hj
        obtain ⟨i0, hi, hz0, hz1, hz2⟩ := info_parts info_pc
        have HI0 := hid_mk hi
        have HZ0 := hid_mk hz0
        have HZ1 := hid_mk hz1
        have HZ2 := hid_mk hz2
        clear hi hz0 hz1 hz2
        go_wp2_with (at_builtin; go_loud (refine wpList_app rfl _ _ 109 rfl w.heap.size 103 i0 (.agg #[.int .i64 0, .int .i64 0, .int .i64 0, .int .u64 0, .int .u8 0]) 5 40 Tryd.underlying109 HI0.out HZ0.out HZ1.out HZ2.out rfl (by decide) _ pre.length (pre.flatMap fun x => (pcv x).toList) rfl (HOW4.out _) ⟨w4.heap.size, 0, none⟩ 1 1 [.int .i64 A, .int .i64 N, .int .i64 C, .int .u64 G, .int .u8 1] rfl rfl HNW.out (by simp [Value.oneCell']) (by decide) (by rw [← HLP.out]; unfold maxLen; omega) (by rw [← HLP.out]; omega) (Nat.le_trans HWB.out.size (Nat.le_trans HWR4.out.size (by simp))) ?_); intro v' w5 h1 h2; go_loud (have HO5 := hid_mk h1; have HG5 := hid_mk h2; clear h1 h2))
        have hx1 : (w4.alloc (.cells #[.int .i64 A, .int .i64 N, .int .i64 C, .int .u64 G, .int .u8 1] 103)).heap.size = w4.heap.size + 1 := by simp
        have HS5 : Hid (w5.heap[s]? = some (.cells (spv rows used 0 none) 87 (0, 0))) := (HG5.out.kept.block s (by rw [hx1]; have := HWR4.out.size; omega) HAP.out).trans (((HA4.out _).block s (by have := HWR4.out.size; omega)).trans (HCS.out w4 HB4.out).2.2.2.2.2.2.2)
        have HP5 : Hid (w5.heap[P]? = some (.cells #[.int .i64 A, .int .i64 N, .int .i64 C, .int .u64 G, .int .u8 1] 103 (0, 0))) := by
          have hPw : wr.heap.size ≤ P := by have := HPV.out; have := HB3.out.size; omega
          have hP4 : P < w4.heap.size := by have := HVS.out; have := HB4.out.size; omega
          exact (HG5.out.kept.block P (by rw [hx1]; omega) (fun h => by have := HOL.out _ h; omega)).trans (((HA4.out _).block P hP4).trans ((HB4.out.block P (by rw [HVS.out]; omega)).trans HV0.out))
        have z0 : w5.cell? ⟨P, 0, none⟩ = some (.int .i64 A) := by simp [World.cell?, HP5.out]
        have z1 : w5.cell? ⟨P, 1, none⟩ = some (.int .i64 N) := by simp [World.cell?, HP5.out]
        have z2 : w5.cell? ⟨P, 2, none⟩ = some (.int .i64 C) := by simp [World.cell?, HP5.out]
        have z3 : w5.cell? ⟨P, 3, none⟩ = some (.int .u64 G) := by simp [World.cell?, HP5.out]
        have z4 : w5.cell? ⟨P, 4, none⟩ = some (.int .u8 1) := by simp [World.cell?, HP5.out]
        have z5 : w5.cell? ⟨s, 1, none⟩ = some (.int .i64 U) := by rw [HU.out]; exact (sp_cells HS5.out).2.1
        have zf := unfrozen HS5.out
        have hne : ¬ s = P := by have := HPV.out; have := HB3.out.size; omega
        have hne' : ¬ P = s := fun e => hne e.symm
        have hUN : IntKind.i64.wrap (U + N) = U + N := by
          have := HU.out
          have := HN'.out
          have hu : used ≤ 1073741824 := by
            have h1 := rowsL_all HLI.out.fits
            have h2 := HLI.out.le
            have h3 : used = rowsL isUsed pre := HUS.out
            omega
          rw [IntKind.wrap_i64]
          omega
        clear y0 y1 y2 y3 y4 y5 y6 hx1
        go_region
        have HFIN : Hid (∀ x' w7, Below (w5.setCell ⟨s, 1, none⟩ (.int .i64 (U + N))).heap.size (w5.setCell ⟨s, 1, none⟩ (.int .i64 (U + N))) w7 → (x' = .slice (some ⟨b, off + 4 + 18 * (k + 1), none⟩) (18 * (K - (k + 1))) (cp - 4 - 18 * (k + 1)) ∨ (k + 1 = K ∧ ∃ o c, x' = .slice o 0 c)) → LI w bs rows K s b off cp x' v' p.stop (k + 1) (pre ++ [p]) w7) := by
          intro x' w7 hb7 hx'
          have hs1 : (w5.setCell ⟨s, 1, none⟩ (.int .i64 (U + N))).heap.size = w5.heap.size := by simp [World.setCell]
          have hlt5 : s < w5.heap.size := (Array.getElem?_eq_some_iff.1 HS5.out).1
          have hap : ¬ Go.Proofs.YtcpdnalmoaojlaaDoor.own v' s := fun h => (HG5.out.sub s h).1.elim HAP.out (fun h => by have := HWR4.out.size; simp at h; omega)
          refine li_step HLI.out hlt (by have := HNN.out; have := HK.out; omega) HPP.out (by omega) hbad ?_ hx' ?_ ?_ hap
          · rw [hb7.block s (by rw [hs1]; exact hlt5), heap_put HS5.out, ← HUS.out]
            simp [spv, HU.out, HN'.out]
          · have h5 : POwns w5 w.heap.size v' (pre ++ [p]) := by
              have h := HO5.out
              unfold POwns
              rw [List.length_append, List.flatMap_append]
              have ep : ([p].flatMap fun x => (pcv x).toList) = [.int .i64 A, .int .i64 N, .int .i64 C, .int .u64 G, .int .u8 1] := by simp [pcv, HA.out, HN'.out, HC.out, HG.out, e5]
              rw [ep]
              exact h
            have h6 : POwns (w5.setCell ⟨s, 1, none⟩ (.int .i64 (U + N))) w.heap.size v' (pre ++ [p]) :=
              World.ownsRow.kept h5 (row := some s) ⟨rfl, rfl, rfl, by simp [World.setCell], fun k _ hk => Below.heap_setCell _ _ _ _ (fun e => hk (by rw [e]))⟩ (.inr hap)
            exact h6.below hb7
          · have hw5 : Below w.heap.size w w5 := by
              refine ((HWB.out.trans (HWR4.out.mono HWB.out.size)).trans ((HA4.out _).mono (Nat.le_trans HWB.out.size HWR4.out.size))).trans (HG5.out.kept.below (by have := HWB.out.size; have := HWR4.out.size; simp; omega) (fun k hk h => ?_))
              have := (World.ownsRow.lt (HOW4.out #[]) k h).1
              omega
            refine (hw5.setCell (p := ⟨s, 1, none⟩) (by show w.heap.size ≤ s; have := HS0.out; omega) _).trans (hb7.mono ?_)
            rw [hs1]
            exact hw5.size
        clear HLI HS5 HP5 HG5 HO5
        by_cases hc18 : c = 18
        · have hm18 : m = 18 := by omega
          have hkK : k + 1 = K := by have := HMM.out; omega
          have cs : c - 18 = 0 := by omega
          have HKK := hid_mk hkK
          clear hkK
          go_wp2_with (first | (go_at_call 64; refine (HP1.out _).mono ?_; rintro e w7 ⟨rfl, hb7⟩; have HB7 := hid_mk hb7; clear hb7))
          refine ⟨⟨k + 1, p.stop, pre ++ [p], by rw [HE.out], HFIN.out _ _ ((Below.drew (Below.refl _ _)).trans HB7.out) (.inr ⟨HKK.out, _, _, rfl⟩)⟩, ?_⟩
          show 0 < m
          omega
        · have cs : ¬ c - 18 = 0 := by omega
          have cs' : ¬ c ≤ 18 := by omega
          go_wp2_with (first | (go_at_call 64; refine (HP1.out _).mono ?_; rintro e w7 ⟨rfl, hb7⟩; have HB7 := hid_mk hb7; clear hb7))
          refine ⟨⟨k + 1, p.stop, pre ++ [p], by rw [HE.out], HFIN.out _ _ ((Below.drew (Below.refl _ _)).trans HB7.out) (.inl ?_)⟩, ?_⟩
          · have h1 := HOO.out
            have h2 := HMM.out
            have h3 := HCC.out
            rw [show o + 18 = off + 4 + 18 * (k + 1) by omega, show m - 18 = 18 * (K - (k + 1)) by omega, show c - 18 = cp - 4 - 18 * (k + 1) by omega]
          · show m - 18 < m
            omega
    · obtain rfl : k = K := by have := hLI.kK; omega
      obtain ⟨ao, cv, rfl⟩ := hLI.own.form
      have HLT : Hid (∀ W, Below wr.heap.size wr W → Calls Tryd.prog 61 #[.slice ao pre.length cv] W (KPost W pre)) := by
        intro W hW
        have hfit : Fits 0 pre rows := hLI.fits.mono (Nat.le_refl _) hLI.le
        cases ao with
        | none =>
          have h0 : pre = [] := by
            rcases hLI.own.2 with ⟨_, h⟩ | ⟨_, _, _, h, _⟩
            · exact List.eq_nil_of_length_eq_zero h
            · cases h
          rw [h0]
          exact listed_nil none cv W
        | some x =>
          obtain ⟨g, o, sp⟩ := x
          have hsp : sp = none ∧ o = 0 := by
            rcases hLI.own.2 with ⟨h, _⟩ | ⟨_, _, _, h, _⟩
            · cases h
            · simp at h; exact ⟨h.1.2.2, h.1.2.1⟩
          obtain ⟨rfl, rfl⟩ := hsp
          obtain ⟨_, _, hle, hg, hpc⟩ := POwns.at hLI.own
          exact listed_any pre.length pre g 0 cv 0 rows W (Nat.le_refl _) hle (Nat.lt_of_lt_of_le hg hW.size) (hpc.below hW hg) hfit h30
      have HDN := hid_mk (li_done hLI (by have := HNN.out; have := HK.out; omega))
      have HSP := hid_mk hLI.sp
      have HHL := hid_mk (held_none hLI.used)
      have HWB := hid_mk hLI.below
      have hsl : s < wr.heap.size := (Array.getElem?_eq_some_iff.1 hLI.sp).1
      have c3 : ∀ W, Below wr.heap.size wr W → W.cell? ⟨s, 3, none⟩ = some (.pointer none) ∧ W.frozen? ⟨s, 3, none⟩ = false := fun W hW => ⟨(sp_cells ((hW.block s hsl).trans hLI.sp)).2.2.2, unfrozen ((hW.block s hsl).trans hLI.sp) 3⟩
      have HC3 := hid_mk c3
      obtain ⟨xo, xc, rfl⟩ : ∃ xo xc, u0 = .slice xo 0 xc := by
        rcases hLI.sl with rfl | ⟨_, o, c, rfl⟩
        · exact ⟨_, _, by rw [Nat.sub_self]⟩
        · exact ⟨_, _, rfl⟩
      obtain ⟨lp, hlp⟩ : ∃ lp, lp = pre.length := ⟨_, rfl⟩
      rw [← hlp] at HLT ⊢
      clear hLI HLI c3 hlp HL0
      go_wp2_with (first | (go_at_call 61; refine (HLT.out _ (Below.refl _ _)).mono ?_; clear HLT; rintro e w8 ⟨t, rfl, hk8, hb8⟩; have HK8 := hid_mk hk8; have HB8 := hid_mk hb8; obtain ⟨d3, df⟩ := HC3.out w8 hb8; clear hk8 hb8))
      go_ret2
      have hsp8 := (HB8.out.block s hsl).trans HSP.out
      refine ⟨?_, .inr ⟨s, rows, pre, by rw [HR0.out, HDN.out]; rfl, rfl, by have := HS0.out; omega, t, ?_, HK8.out.only hsp8 ((Only.refl s w8).setCell 3 _)⟩⟩
      · exact (HWB.out.trans (HB8.out.mono HWB.out.size)).setCell (p := ⟨s, 3, none⟩) (by show w.heap.size ≤ s; have := HS0.out; omega) _
      · rw [heap_put hsp8, HHL.out]
        simp [spv]
end Go.Proofs.YtcpdnalmoaojlaaDoor
