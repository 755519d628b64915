import Derived.Test.YtcpdnalmoaojlaaDoorHSp11b

/-
  with.
-/
namespace Go.Proofs.YtcpdnalmoaojlaaDoor
open Go.ChangeShapes Go.WideShapes Go.ChangeAt Go.RowKit
set_option linter.unusedVariables false
set_option linter.unusedSimpArgs false

set_option maxRecDepth 100000 in
set_option maxHeartbeats 4000000 in
theorem with_lt (x q : Pc) (g : Nat) (p1 p2 : Option Addr) (l1 L : List Pc) (d f e0 : Nat) (wd : Int) (w : World) (hg : w.heap[g]? = some (.cells (knv q p1 p2 d f e0 wd) 118 (0, 0))) (hlt : x.at' < q.at') (HW : Hid (∀ W, Below w.heap.size w W → Calls Tryd.prog 57 #[.pointer p1, .agg (pcv x)] W (KPost W (putL l1 x)))) (HQ : Hid (∀ W t, Below w.heap.size w W → KT W t (putL l1 x) → Calls Tryd.prog 70 #[.pointer t, .agg (pcv q), .pointer p2] W (KPost W L))) :
    Calls Tryd.prog 57 #[.pointer (some ⟨g, 0, none⟩), .agg (pcv x)] w (KPost w L) := by
  obtain ⟨V, hV⟩ : ∃ V, V = w.alloc (.cells #[.int .i64 (x.at' : Int), .int .i64 (x.n : Int), .int .i64 (x.count : Int), .int .u64 (x.tag : Int), .int .u8 (x.st : Int)] 103) := ⟨_, rfl⟩
  have HV : Hid (Below w.heap.size w V) := by show Below _ _ _; rw [hV]; exact Below.alloc (Below.refl _ _) (Nat.le_refl _) _
  have HVS : Hid (V.heap.size = w.heap.size + 1) := by show _ = _; rw [hV]; simp
  have HC : Hid (∀ W, Below V.heap.size V W → W.cell? ⟨w.heap.size, 0, none⟩ = some (.int .i64 (x.at' : Int)) ∧ W.cell? ⟨w.heap.size, 1, none⟩ = some (.int .i64 (x.n : Int)) ∧ W.cell? ⟨w.heap.size, 2, none⟩ = some (.int .i64 (x.count : Int)) ∧ W.cell? ⟨w.heap.size, 3, none⟩ = some (.int .u64 (x.tag : Int)) ∧ W.cell? ⟨w.heap.size, 4, none⟩ = some (.int .u8 (x.st : Int)) ∧ W.cell? ⟨g, 0, none⟩ = some (.int .i64 (q.at' : Int)) ∧ W.cell? ⟨g, 1, none⟩ = some (.int .i64 (q.n : Int)) ∧ W.cell? ⟨g, 2, none⟩ = some (.int .i64 (q.count : Int)) ∧ W.cell? ⟨g, 3, none⟩ = some (.int .u64 (q.tag : Int)) ∧ W.cell? ⟨g, 4, none⟩ = some (.int .u8 (q.st : Int)) ∧ W.cell? ⟨g, 5, none⟩ = some (.pointer p1) ∧ W.cell? ⟨g, 6, none⟩ = some (.pointer p2)) := fun W hW => by
    obtain ⟨c0, c1, c2, c3, c4, c5, c6, _⟩ := kn_cells hg
    have hgl := (Array.getElem?_eq_some_iff.1 hg).1
    have key : ∀ i, W.cell? ⟨g, i, none⟩ = w.cell? ⟨g, i, none⟩ := fun i => (hW.cell (p := ⟨g, i, none⟩) (Nat.lt_of_lt_of_le hgl HV.out.size)).trans (HV.out.cell (p := ⟨g, i, none⟩) hgl)
    have kb : ∀ i, W.cell? ⟨w.heap.size, i, none⟩ = V.cell? ⟨w.heap.size, i, none⟩ := fun i => hW.cell (p := ⟨w.heap.size, i, none⟩) (by rw [HVS.out]; exact Nat.lt_succ_self _)
    refine ⟨(kb 0).trans (by rw [hV]; simp), (kb 1).trans (by rw [hV]; simp), (kb 2).trans (by rw [hV]; simp), (kb 3).trans (by rw [hV]; simp), (kb 4).trans (by rw [hV]; simp), (key 0).trans c0, (key 1).trans c1, (key 2).trans c2, (key 3).trans c3, (key 4).trans c4, (key 5).trans c5, (key 6).trans c6⟩
  have g1 : decide ((x.at' : Int) < (q.at' : Int)) = true := decide_eq_true (by omega)
  clear hg
  unfold pcv at HW HQ
  unfold pcv
  obtain ⟨v0, v1, v2, v3, v4, v5, v6, v7, v8, v9, v10, v11⟩ := HC.out V (Below.refl _ _)
  go_enter Tryd.func57, Tryd.ntmps57
  go_wp2_with fail
  rw [← hV]
  clear hV
  go_quiet (fail)
  obtain ⟨V1, hV1⟩ : ∃ V1, V1 = V.drewN nq := ⟨_, rfl⟩
  rw [← hV1]
  have HV1V : Hid (Below V.heap.size V V1) := by show Below _ _ _; rw [hV1]; exact drewN_bel _ _ _
  have HV1 : Hid (Below w.heap.size w V1) := HV.out.trans (HV1V.out.mono HV.out.size)
  clear hV1 v0 v1 v2 v3 v4 v5 v6 v7 v8 v9 v10 v11
  obtain ⟨s0, s1, s2, s3, s4, s5, s6, s7, s8, s9, s10, s11⟩ := HC.out V1 HV1V.out
  go_wp2_with fail
  go_region_held3 (fun w' => w'.cell? ⟨w.heap.size, 0, none⟩ = some (.int .i64 (x.at' : Int)) ∧ w'.cell? ⟨w.heap.size, 1, none⟩ = some (.int .i64 (x.n : Int)) ∧ w'.cell? ⟨w.heap.size, 2, none⟩ = some (.int .i64 (x.count : Int)) ∧ w'.cell? ⟨w.heap.size, 3, none⟩ = some (.int .u64 (x.tag : Int)) ∧ w'.cell? ⟨w.heap.size, 4, none⟩ = some (.int .u8 (x.st : Int)) ∧ w'.cell? ⟨g, 0, none⟩ = some (.int .i64 (q.at' : Int)) ∧ w'.cell? ⟨g, 1, none⟩ = some (.int .i64 (q.n : Int)) ∧ w'.cell? ⟨g, 2, none⟩ = some (.int .i64 (q.count : Int)) ∧ w'.cell? ⟨g, 3, none⟩ = some (.int .u64 (q.tag : Int)) ∧ w'.cell? ⟨g, 4, none⟩ = some (.int .u8 (q.st : Int)) ∧ w'.cell? ⟨g, 5, none⟩ = some (.pointer p1) ∧ w'.cell? ⟨g, 6, none⟩ = some (.pointer p2)) (simp [*]) (first
    | (go_at_call 57; refine (HW.out _ (Below.drew HV1.out)).mono ?_; clear HW; rintro e w3 ⟨t1, rfl, hk1, hb3⟩; have HB3V : Hid (Below V.heap.size V w3) := Below.trans (Below.drew HV1V.out) (hb3.mono HV1V.out.size); have HB3 : Hid (Below w.heap.size w w3) := HV.out.trans (HB3V.out.mono HV.out.size); have HK1 := hid_mk hk1; obtain ⟨y0, y1, y2, y3, y4, y5, y6, y7, y8, y9, y10, y11⟩ := HC.out w3 HB3V.out; clear hk1 hb3)
    | (go_at_call 70; refine (HQ.out _ _ HB3.out HK1.out).mono ?_; clear HQ; rintro e w4 ⟨t2, rfl, hk2, hb4⟩; have HB4V : Hid (Below V.heap.size V w4) := HB3V.out.trans (hb4.mono HB3V.out.size); have HB4 : Hid (Below w.heap.size w w4) := HB3.out.trans (hb4.mono HB3.out.size); have HK2 := hid_mk hk2; obtain ⟨z0, z1, z2, z3, z4, z5, z6, z7, z8, z9, z10, z11⟩ := HC.out w4 HB4V.out; clear hk2 hb4))
  go_wp2_with fail
  go_ret
  exact ⟨_, rfl, HK2.out, HB4.out⟩
set_option maxRecDepth 100000 in
set_option maxHeartbeats 4000000 in
theorem with_gt (x q : Pc) (g : Nat) (p1 p2 : Option Addr) (l1 L : List Pc) (d f e0 : Nat) (wd : Int) (w : World) (hg : w.heap[g]? = some (.cells (knv q p1 p2 d f e0 wd) 118 (0, 0))) (hlt : q.at' < x.at') (HW : Hid (∀ W, Below w.heap.size w W → Calls Tryd.prog 57 #[.pointer p2, .agg (pcv x)] W (KPost W (putL l1 x)))) (HQ : Hid (∀ W t, Below w.heap.size w W → KT W t (putL l1 x) → Calls Tryd.prog 70 #[.pointer p1, .agg (pcv q), .pointer t] W (KPost W L))) :
    Calls Tryd.prog 57 #[.pointer (some ⟨g, 0, none⟩), .agg (pcv x)] w (KPost w L) := by
  obtain ⟨V, hV⟩ : ∃ V, V = w.alloc (.cells #[.int .i64 (x.at' : Int), .int .i64 (x.n : Int), .int .i64 (x.count : Int), .int .u64 (x.tag : Int), .int .u8 (x.st : Int)] 103) := ⟨_, rfl⟩
  have HV : Hid (Below w.heap.size w V) := by show Below _ _ _; rw [hV]; exact Below.alloc (Below.refl _ _) (Nat.le_refl _) _
  have HVS : Hid (V.heap.size = w.heap.size + 1) := by show _ = _; rw [hV]; simp
  have HC : Hid (∀ W, Below V.heap.size V W → W.cell? ⟨w.heap.size, 0, none⟩ = some (.int .i64 (x.at' : Int)) ∧ W.cell? ⟨w.heap.size, 1, none⟩ = some (.int .i64 (x.n : Int)) ∧ W.cell? ⟨w.heap.size, 2, none⟩ = some (.int .i64 (x.count : Int)) ∧ W.cell? ⟨w.heap.size, 3, none⟩ = some (.int .u64 (x.tag : Int)) ∧ W.cell? ⟨w.heap.size, 4, none⟩ = some (.int .u8 (x.st : Int)) ∧ W.cell? ⟨g, 0, none⟩ = some (.int .i64 (q.at' : Int)) ∧ W.cell? ⟨g, 1, none⟩ = some (.int .i64 (q.n : Int)) ∧ W.cell? ⟨g, 2, none⟩ = some (.int .i64 (q.count : Int)) ∧ W.cell? ⟨g, 3, none⟩ = some (.int .u64 (q.tag : Int)) ∧ W.cell? ⟨g, 4, none⟩ = some (.int .u8 (q.st : Int)) ∧ W.cell? ⟨g, 5, none⟩ = some (.pointer p1) ∧ W.cell? ⟨g, 6, none⟩ = some (.pointer p2)) := fun W hW => by
    obtain ⟨c0, c1, c2, c3, c4, c5, c6, _⟩ := kn_cells hg
    have hgl := (Array.getElem?_eq_some_iff.1 hg).1
    have key : ∀ i, W.cell? ⟨g, i, none⟩ = w.cell? ⟨g, i, none⟩ := fun i => (hW.cell (p := ⟨g, i, none⟩) (Nat.lt_of_lt_of_le hgl HV.out.size)).trans (HV.out.cell (p := ⟨g, i, none⟩) hgl)
    have kb : ∀ i, W.cell? ⟨w.heap.size, i, none⟩ = V.cell? ⟨w.heap.size, i, none⟩ := fun i => hW.cell (p := ⟨w.heap.size, i, none⟩) (by rw [HVS.out]; exact Nat.lt_succ_self _)
    refine ⟨(kb 0).trans (by rw [hV]; simp), (kb 1).trans (by rw [hV]; simp), (kb 2).trans (by rw [hV]; simp), (kb 3).trans (by rw [hV]; simp), (kb 4).trans (by rw [hV]; simp), (key 0).trans c0, (key 1).trans c1, (key 2).trans c2, (key 3).trans c3, (key 4).trans c4, (key 5).trans c5, (key 6).trans c6⟩
  have g1 : decide ((x.at' : Int) < (q.at' : Int)) = false := decide_eq_false (by omega)
  have g2 : decide ((q.at' : Int) < (x.at' : Int)) = true := decide_eq_true (by omega)
  have n1 : ¬ x.at' < q.at' := by omega
  clear hg
  unfold pcv at HW HQ
  unfold pcv
  obtain ⟨v0, v1, v2, v3, v4, v5, v6, v7, v8, v9, v10, v11⟩ := HC.out V (Below.refl _ _)
  go_enter Tryd.func57, Tryd.ntmps57
  go_wp2_with fail
  rw [← hV]
  clear hV
  go_quiet (fail)
  obtain ⟨V1, hV1⟩ : ∃ V1, V1 = V.drewN nq := ⟨_, rfl⟩
  rw [← hV1]
  have HV1V : Hid (Below V.heap.size V V1) := by show Below _ _ _; rw [hV1]; exact drewN_bel _ _ _
  have HV1 : Hid (Below w.heap.size w V1) := HV.out.trans (HV1V.out.mono HV.out.size)
  clear hV1 v0 v1 v2 v3 v4 v5 v6 v7 v8 v9 v10 v11
  obtain ⟨s0, s1, s2, s3, s4, s5, s6, s7, s8, s9, s10, s11⟩ := HC.out V1 HV1V.out
  go_wp2_with fail
  go_quiet (fail)
  obtain ⟨V2, hV2⟩ : ∃ V2, V2 = V1.drewN nq := ⟨_, rfl⟩
  rw [← hV2]
  have HV2V : Hid (Below V.heap.size V V2) := by show Below _ _ _; rw [hV2]; exact HV1V.out.trans (drewN_bel _ _ _)
  have HV2 : Hid (Below w.heap.size w V2) := HV.out.trans (HV2V.out.mono HV.out.size)
  clear hV2 s0 s1 s2 s3 s4 s5 s6 s7 s8 s9 s10 s11
  obtain ⟨r0, r1, r2, r3, r4, r5, r6, r7, r8, r9, r10, r11⟩ := HC.out V2 HV2V.out
  go_wp2_with fail
  go_region_held3 (fun w' => w'.cell? ⟨w.heap.size, 0, none⟩ = some (.int .i64 (x.at' : Int)) ∧ w'.cell? ⟨w.heap.size, 1, none⟩ = some (.int .i64 (x.n : Int)) ∧ w'.cell? ⟨w.heap.size, 2, none⟩ = some (.int .i64 (x.count : Int)) ∧ w'.cell? ⟨w.heap.size, 3, none⟩ = some (.int .u64 (x.tag : Int)) ∧ w'.cell? ⟨w.heap.size, 4, none⟩ = some (.int .u8 (x.st : Int)) ∧ w'.cell? ⟨g, 0, none⟩ = some (.int .i64 (q.at' : Int)) ∧ w'.cell? ⟨g, 1, none⟩ = some (.int .i64 (q.n : Int)) ∧ w'.cell? ⟨g, 2, none⟩ = some (.int .i64 (q.count : Int)) ∧ w'.cell? ⟨g, 3, none⟩ = some (.int .u64 (q.tag : Int)) ∧ w'.cell? ⟨g, 4, none⟩ = some (.int .u8 (q.st : Int)) ∧ w'.cell? ⟨g, 5, none⟩ = some (.pointer p1) ∧ w'.cell? ⟨g, 6, none⟩ = some (.pointer p2)) (simp [*]) (first
    | (go_at_call 57; refine (HW.out _ (Below.drew HV2.out)).mono ?_; clear HW; rintro e w3 ⟨t1, rfl, hk1, hb3⟩; have HB3V : Hid (Below V.heap.size V w3) := Below.trans (Below.drew HV2V.out) (hb3.mono HV2V.out.size); have HB3 : Hid (Below w.heap.size w w3) := HV.out.trans (HB3V.out.mono HV.out.size); have HK1 := hid_mk hk1; obtain ⟨y0, y1, y2, y3, y4, y5, y6, y7, y8, y9, y10, y11⟩ := HC.out w3 HB3V.out; clear hk1 hb3)
    | (go_at_call 70; refine (HQ.out _ _ HB3.out HK1.out).mono ?_; clear HQ; rintro e w4 ⟨t2, rfl, hk2, hb4⟩; have HB4V : Hid (Below V.heap.size V w4) := HB3V.out.trans (hb4.mono HB3V.out.size); have HB4 : Hid (Below w.heap.size w w4) := HB3.out.trans (hb4.mono HB3.out.size); have HK2 := hid_mk hk2; obtain ⟨z0, z1, z2, z3, z4, z5, z6, z7, z8, z9, z10, z11⟩ := HC.out w4 HB4V.out; clear hk2 hb4))
  go_wp2_with fail
  go_ret
  exact ⟨_, rfl, HK2.out, HB4.out⟩
set_option maxRecDepth 100000 in
set_option maxHeartbeats 4000000 in
theorem with_eq (x q : Pc) (g : Nat) (p1 p2 : Option Addr) (L : List Pc) (d f e0 : Nat) (wd : Int) (w : World) (hg : w.heap[g]? = some (.cells (knv q p1 p2 d f e0 wd) 118 (0, 0))) (hlt : x.at' = q.at') (HQ : Hid (∀ W, Below w.heap.size w W → Calls Tryd.prog 69 #[.pointer p1, .agg (pcv x), .pointer p2] W (KPost W L))) :
    Calls Tryd.prog 57 #[.pointer (some ⟨g, 0, none⟩), .agg (pcv x)] w (KPost w L) := by
  obtain ⟨V, hV⟩ : ∃ V, V = w.alloc (.cells #[.int .i64 (x.at' : Int), .int .i64 (x.n : Int), .int .i64 (x.count : Int), .int .u64 (x.tag : Int), .int .u8 (x.st : Int)] 103) := ⟨_, rfl⟩
  have HV : Hid (Below w.heap.size w V) := by show Below _ _ _; rw [hV]; exact Below.alloc (Below.refl _ _) (Nat.le_refl _) _
  have HVS : Hid (V.heap.size = w.heap.size + 1) := by show _ = _; rw [hV]; simp
  have HC : Hid (∀ W, Below V.heap.size V W → W.cell? ⟨w.heap.size, 0, none⟩ = some (.int .i64 (x.at' : Int)) ∧ W.cell? ⟨w.heap.size, 1, none⟩ = some (.int .i64 (x.n : Int)) ∧ W.cell? ⟨w.heap.size, 2, none⟩ = some (.int .i64 (x.count : Int)) ∧ W.cell? ⟨w.heap.size, 3, none⟩ = some (.int .u64 (x.tag : Int)) ∧ W.cell? ⟨w.heap.size, 4, none⟩ = some (.int .u8 (x.st : Int)) ∧ W.cell? ⟨g, 0, none⟩ = some (.int .i64 (q.at' : Int)) ∧ W.cell? ⟨g, 1, none⟩ = some (.int .i64 (q.n : Int)) ∧ W.cell? ⟨g, 2, none⟩ = some (.int .i64 (q.count : Int)) ∧ W.cell? ⟨g, 3, none⟩ = some (.int .u64 (q.tag : Int)) ∧ W.cell? ⟨g, 4, none⟩ = some (.int .u8 (q.st : Int)) ∧ W.cell? ⟨g, 5, none⟩ = some (.pointer p1) ∧ W.cell? ⟨g, 6, none⟩ = some (.pointer p2)) := fun W hW => by
    obtain ⟨c0, c1, c2, c3, c4, c5, c6, _⟩ := kn_cells hg
    have hgl := (Array.getElem?_eq_some_iff.1 hg).1
    have key : ∀ i, W.cell? ⟨g, i, none⟩ = w.cell? ⟨g, i, none⟩ := fun i => (hW.cell (p := ⟨g, i, none⟩) (Nat.lt_of_lt_of_le hgl HV.out.size)).trans (HV.out.cell (p := ⟨g, i, none⟩) hgl)
    have kb : ∀ i, W.cell? ⟨w.heap.size, i, none⟩ = V.cell? ⟨w.heap.size, i, none⟩ := fun i => hW.cell (p := ⟨w.heap.size, i, none⟩) (by rw [HVS.out]; exact Nat.lt_succ_self _)
    refine ⟨(kb 0).trans (by rw [hV]; simp), (kb 1).trans (by rw [hV]; simp), (kb 2).trans (by rw [hV]; simp), (kb 3).trans (by rw [hV]; simp), (kb 4).trans (by rw [hV]; simp), (key 0).trans c0, (key 1).trans c1, (key 2).trans c2, (key 3).trans c3, (key 4).trans c4, (key 5).trans c5, (key 6).trans c6⟩
  have g1 : decide ((x.at' : Int) < (q.at' : Int)) = false := decide_eq_false (by omega)
  have g2 : decide ((q.at' : Int) < (x.at' : Int)) = false := decide_eq_false (by omega)
  have n1 : ¬ x.at' < q.at' := by omega
  have n2 : ¬ q.at' < x.at' := by omega
  clear hlt
  clear hg
  unfold pcv at HQ
  unfold pcv
  obtain ⟨v0, v1, v2, v3, v4, v5, v6, v7, v8, v9, v10, v11⟩ := HC.out V (Below.refl _ _)
  go_enter Tryd.func57, Tryd.ntmps57
  go_wp2_with fail
  rw [← hV]
  clear hV
  go_quiet (fail)
  obtain ⟨V1, hV1⟩ : ∃ V1, V1 = V.drewN nq := ⟨_, rfl⟩
  rw [← hV1]
  have HV1V : Hid (Below V.heap.size V V1) := by show Below _ _ _; rw [hV1]; exact drewN_bel _ _ _
  have HV1 : Hid (Below w.heap.size w V1) := HV.out.trans (HV1V.out.mono HV.out.size)
  clear hV1 v0 v1 v2 v3 v4 v5 v6 v7 v8 v9 v10 v11
  obtain ⟨s0, s1, s2, s3, s4, s5, s6, s7, s8, s9, s10, s11⟩ := HC.out V1 HV1V.out
  go_wp2_with fail
  go_quiet (fail)
  obtain ⟨V2, hV2⟩ : ∃ V2, V2 = V1.drewN nq := ⟨_, rfl⟩
  rw [← hV2]
  have HV2V : Hid (Below V.heap.size V V2) := by show Below _ _ _; rw [hV2]; exact HV1V.out.trans (drewN_bel _ _ _)
  have HV2 : Hid (Below w.heap.size w V2) := HV.out.trans (HV2V.out.mono HV.out.size)
  clear hV2 s0 s1 s2 s3 s4 s5 s6 s7 s8 s9 s10 s11
  obtain ⟨r0, r1, r2, r3, r4, r5, r6, r7, r8, r9, r10, r11⟩ := HC.out V2 HV2V.out
  go_wp2_with fail
  go_region_held3 (fun w' => w'.cell? ⟨w.heap.size, 0, none⟩ = some (.int .i64 (x.at' : Int)) ∧ w'.cell? ⟨w.heap.size, 1, none⟩ = some (.int .i64 (x.n : Int)) ∧ w'.cell? ⟨w.heap.size, 2, none⟩ = some (.int .i64 (x.count : Int)) ∧ w'.cell? ⟨w.heap.size, 3, none⟩ = some (.int .u64 (x.tag : Int)) ∧ w'.cell? ⟨w.heap.size, 4, none⟩ = some (.int .u8 (x.st : Int)) ∧ w'.cell? ⟨g, 0, none⟩ = some (.int .i64 (q.at' : Int)) ∧ w'.cell? ⟨g, 1, none⟩ = some (.int .i64 (q.n : Int)) ∧ w'.cell? ⟨g, 2, none⟩ = some (.int .i64 (q.count : Int)) ∧ w'.cell? ⟨g, 3, none⟩ = some (.int .u64 (q.tag : Int)) ∧ w'.cell? ⟨g, 4, none⟩ = some (.int .u8 (q.st : Int)) ∧ w'.cell? ⟨g, 5, none⟩ = some (.pointer p1) ∧ w'.cell? ⟨g, 6, none⟩ = some (.pointer p2)) (simp [*]) (first
    | (go_at_call 69; refine (HQ.out _ (Below.drew HV2.out)).mono ?_; clear HQ; rintro e w4 ⟨t2, rfl, hk2, hb4⟩; have HB4V : Hid (Below V.heap.size V w4) := Below.trans (Below.drew HV2V.out) (hb4.mono HV2V.out.size); have HB4 : Hid (Below w.heap.size w w4) := HV.out.trans (HB4V.out.mono HV.out.size); have HK2 := hid_mk hk2; obtain ⟨z0, z1, z2, z3, z4, z5, z6, z7, z8, z9, z10, z11⟩ := HC.out w4 HB4V.out; clear hk2 hb4))
  go_wp2_with fail
  go_ret
  exact ⟨_, rfl, HK2.out, HB4.out⟩
set_option maxRecDepth 100000 in
theorem with_none (x : Pc) (w : World) (HQ : Hid (∀ W, Below w.heap.size w W → Calls Tryd.prog 69 #[.pointer none, .agg (pcv x), .pointer none] W (KPost W [x]))) : Calls Tryd.prog 57 #[.pointer none, .agg (pcv x)] w (KPost w [x]) := by
  have HV : Hid (∀ A, Below w.heap.size w (w.alloc A)) := fun A => Below.alloc (Below.refl _ _) (Nat.le_refl _) _
  unfold pcv at HQ
  unfold pcv
  go_enter Tryd.func57, Tryd.ntmps57
  go_wp2_with (first | (go_at_call 69; refine (HQ.out _ (HV.out _)).mono ?_; clear HQ; rintro e w3 ⟨t1, rfl, hk1, hb3⟩; have HK := hid_mk hk1; have HB3 : Hid (Below w.heap.size w w3) := (HV.out _).trans (hb3.mono (by simp)); clear hk1 hb3))
  go_ret
  exact ⟨_, rfl, HK.out, HB3.out⟩
theorem with_any (k : Nat) : ∀ (p : Option Addr) (l : List Pc) (x : Pc) (a b : Nat) (w : World), KD w k p l → Fits a l b → Fits a (putL l x) b → b ≤ 1073741824 → Calls Tryd.prog 57 #[.pointer p, .agg (pcv x)] w (KPost w (putL l x)) := by
  have none_way : ∀ (x : Pc) (a b : Nat) (w : World), Fits a [x] b → b ≤ 1073741824 → Calls Tryd.prog 57 #[.pointer none, .agg (pcv x)] w (KPost w [x]) := fun x a b w hf hb =>
    with_none x w (fun W hW => tie_any none none [] [] x a b W (KT.nil _) (KT.nil _) hf hb)
  induction k with
  | zero =>
    rintro p l x a b w ⟨rfl, rfl⟩ hf hp hb
    exact none_way x a b w hp hb
  | succ k ih =>
    rintro p l x a b w (⟨rfl, rfl⟩ | ⟨g, p1, p2, la, q, lr, d, wd, rfl, rfl, hg, hok, h1, h2⟩) hf hp hb
    · exact none_way x a b w hp hb
    · obtain ⟨f1, f2, f3⟩ := fits_cut.1 hf
      have hqb : q.at' ≤ b := by have := f3.le; have : q.stop = q.at' + q.n := rfl; omega
      have happ := putL_append la lr q x (fits_lt hf).1
      have K1 : KT w p1 la := ⟨k, h1⟩
      have K2 : KT w p2 lr := ⟨k, h2⟩
      by_cases hlt : x.at' < q.at'
      · rw [if_pos hlt] at happ
        rw [happ] at hp ⊢
        refine with_lt x q g p1 p2 la _ d _ _ wd w hg hlt ?_ ?_
        · intro W hW
          exact ih p1 la x a q.at' W (KD.keep (fun b cur e => hW.block b (Array.getElem?_eq_some_iff.1 e).1) k _ _ h1) f1 (fits_cut.1 hp).1 (by omega)
        · intro W t hW ht
          exact bal_any t p2 _ lr q a b W ht (K2.below hW) hp hb
      · rw [if_neg hlt] at happ
        by_cases hgt : q.at' < x.at'
        · rw [if_pos hgt] at happ
          rw [happ] at hp ⊢
          refine with_gt x q g p1 p2 lr _ d _ _ wd w hg hgt ?_ ?_
          · intro W hW
            exact ih p2 lr x q.stop b W (KD.keep (fun b cur e => hW.block b (Array.getElem?_eq_some_iff.1 e).1) k _ _ h2) f3 (fits_cut.1 hp).2.2 hb
          · intro W t hW ht
            exact bal_any p1 t la _ q a b W (K1.below hW) ht hp hb
        · rw [if_neg hgt] at happ
          rw [happ] at hp ⊢
          refine with_eq x q g p1 p2 _ d _ _ wd w hg (by omega) ?_
          intro W hW
          exact tie_any p1 p2 la lr x a b W (K1.below hW) (K2.below hW) hp hb
end Go.Proofs.YtcpdnalmoaojlaaDoor
