import Derived.Test.YtcpdnalmoaojlaaDoorHSp10
import Derived.Deep.RegionHeld3

/-
  balance: the other turns.
-/
namespace Go.Proofs.YtcpdnalmoaojlaaDoor
open Go.ChangeShapes Go.WideShapes Go.ChangeAt Go.RowKit
set_option linter.unusedVariables false
set_option linter.unusedSimpArgs false

set_option maxRecDepth 100000 in
set_option maxHeartbeats 4000000 in
theorem bal_left2 (pr : Option Addr) (l1 l3 l4 lr : List Pc) (x q z : Pc) (g h : Nat) (p1 p2 p3 p4 : Option Addr) (hp2 : p2 = some ⟨h, 0, none⟩) (a b da db d1 d2 d d' : Nat) (f e0 f' e0' : Nat) (wd wd' : Int) (w : World) (hr : KT w pr lr) (h1 : KT w p1 l1) (h3 : KT w p3 l3) (h4 : KT w p4 l4) (hf : Fits a ((l1 ++ q :: (l3 ++ z :: l4)) ++ x :: lr) b) (hg : w.heap[g]? = some (.cells (knv q p1 p2 d f e0 wd) 118 (0, 0))) (hh : w.heap[h]? = some (.cells (knv z p3 p4 d' f' e0' wd') 118 (0, 0))) (hb : b ≤ 1073741824) (hda : Dep w (some ⟨g, 0, none⟩) da) (hdb : Dep w pr db) (hd1 : Dep w p1 d1) (hd2 : Dep w p2 d2) (ha30 : da ≤ 1073741824) (hb30 : db ≤ 1073741824) (hgt : (1 : Int) < (da : Int) - (db : Int)) (hlt : ¬ (d2 : Int) ≤ (d1 : Int)) :
    Calls Tryd.prog 70 #[.pointer (some ⟨g, 0, none⟩), .agg (pcv x), .pointer pr] w (KPost w ((l1 ++ q :: (l3 ++ z :: l4)) ++ x :: lr)) := by
  subst hp2
  have EQ : Hid (((l1 ++ q :: (l3 ++ z :: l4)) ++ x :: lr) = ((l1 ++ q :: l3) ++ z :: (l4 ++ x :: lr))) := by show _ = _; simp
  rw [EQ.out] at hf
  obtain ⟨F1, F4, F2⟩ := fits_cut.1 hf
  have F3 : z.at' ≤ 1073741824 := by have := F2.le; have : z.stop = z.at' + z.n := rfl; omega
  have HA : Hid (∀ W, Below w.heap.size w W → Calls Tryd.prog 73 #[.pointer (some ⟨g, 0, none⟩)] W fun e w' => e = .returned (.int .i64 (da : Int)) ∧ w' = W) := fun W hW => depth_any _ da W (hda.below hW)
  have HB : Hid (∀ W, Below w.heap.size w W → Calls Tryd.prog 73 #[.pointer pr] W fun e w' => e = .returned (.int .i64 (db : Int)) ∧ w' = W) := fun W hW => depth_any _ db W (hdb.below hW)
  have H1 : Hid (∀ W, Below w.heap.size w W → Calls Tryd.prog 73 #[.pointer p1] W fun e w' => e = .returned (.int .i64 (d1 : Int)) ∧ w' = W) := fun W hW => depth_any p1 d1 W (hd1.below hW)
  have H2 : Hid (∀ W, Below w.heap.size w W → Calls Tryd.prog 73 #[.pointer (some ⟨h, 0, none⟩)] W fun e w' => e = .returned (.int .i64 (d2 : Int)) ∧ w' = W) := fun W hW => depth_any (some ⟨h, 0, none⟩) d2 W (hd2.below hW)
  have T1 : Hid (∀ W, Below w.heap.size w W → Calls Tryd.prog 69 #[.pointer p1, .agg (pcv q), .pointer p3] W (KPost W (l1 ++ q :: l3))) := fun W hW => tie_any p1 p3 l1 l3 q a z.at' W (h1.below hW) (h3.below hW) F1 F3
  have T2 : Hid (∀ W, Below w.heap.size w W → Calls Tryd.prog 69 #[.pointer p4, .agg (pcv x), .pointer pr] W (KPost W (l4 ++ x :: lr))) := fun W hW => tie_any p4 pr l4 lr x z.stop b W (h4.below hW) (hr.below hW) F2 hb
  have T3 : Hid (∀ W t1 t2, KT W t1 (l1 ++ q :: l3) → KT W t2 (l4 ++ x :: lr) → Calls Tryd.prog 69 #[.pointer t1, .agg (pcv z), .pointer t2] W (KPost W ((l1 ++ q :: l3) ++ z :: (l4 ++ x :: lr)))) := fun W t1 t2 k1 k2 => tie_any t1 t2 _ _ z a b W k1 k2 hf hb
  obtain ⟨V, hV⟩ : ∃ V, V = w.alloc (.cells #[.int .i64 (x.at' : Int), .int .i64 (x.n : Int), .int .i64 (x.count : Int), .int .u64 (x.tag : Int), .int .u8 (x.st : Int)] 103) := ⟨_, rfl⟩
  have HV : Hid (Below w.heap.size w V) := by show Below _ _ _; rw [hV]; exact Below.alloc (Below.refl _ _) (Nat.le_refl _) _
  have HVS : Hid (V.heap.size = w.heap.size + 1) := by show _ = _; rw [hV]; simp
  have HC : Hid (∀ W, Below V.heap.size V W → W.cell? ⟨w.heap.size, 0, none⟩ = some (.int .i64 (x.at' : Int)) ∧ W.cell? ⟨w.heap.size, 1, none⟩ = some (.int .i64 (x.n : Int)) ∧ W.cell? ⟨w.heap.size, 2, none⟩ = some (.int .i64 (x.count : Int)) ∧ W.cell? ⟨w.heap.size, 3, none⟩ = some (.int .u64 (x.tag : Int)) ∧ W.cell? ⟨w.heap.size, 4, none⟩ = some (.int .u8 (x.st : Int)) ∧ W.cell? ⟨g, 0, none⟩ = some (.int .i64 (q.at' : Int)) ∧ W.cell? ⟨g, 1, none⟩ = some (.int .i64 (q.n : Int)) ∧ W.cell? ⟨g, 2, none⟩ = some (.int .i64 (q.count : Int)) ∧ W.cell? ⟨g, 3, none⟩ = some (.int .u64 (q.tag : Int)) ∧ W.cell? ⟨g, 4, none⟩ = some (.int .u8 (q.st : Int)) ∧ W.cell? ⟨g, 5, none⟩ = some (.pointer p1) ∧ W.cell? ⟨g, 6, none⟩ = some (.pointer (some ⟨h, 0, none⟩)) ∧ W.cell? ⟨h, 0, none⟩ = some (.int .i64 (z.at' : Int)) ∧ W.cell? ⟨h, 1, none⟩ = some (.int .i64 (z.n : Int)) ∧ W.cell? ⟨h, 2, none⟩ = some (.int .i64 (z.count : Int)) ∧ W.cell? ⟨h, 3, none⟩ = some (.int .u64 (z.tag : Int)) ∧ W.cell? ⟨h, 4, none⟩ = some (.int .u8 (z.st : Int)) ∧ W.cell? ⟨h, 5, none⟩ = some (.pointer p3) ∧ W.cell? ⟨h, 6, none⟩ = some (.pointer p4)) := fun W hW => by
    obtain ⟨c0, c1, c2, c3, c4, c5, c6, _⟩ := kn_cells hg
    obtain ⟨k0, k1, k2, k3, k4, k5, k6, _⟩ := kn_cells hh
    have hgl := (Array.getElem?_eq_some_iff.1 hg).1
    have hhl := (Array.getElem?_eq_some_iff.1 hh).1
    have key : ∀ i, W.cell? ⟨g, i, none⟩ = w.cell? ⟨g, i, none⟩ := fun i => (hW.cell (p := ⟨g, i, none⟩) (Nat.lt_of_lt_of_le hgl HV.out.size)).trans (HV.out.cell (p := ⟨g, i, none⟩) hgl)
    have kez : ∀ i, W.cell? ⟨h, i, none⟩ = w.cell? ⟨h, i, none⟩ := fun i => (hW.cell (p := ⟨h, i, none⟩) (Nat.lt_of_lt_of_le hhl HV.out.size)).trans (HV.out.cell (p := ⟨h, i, none⟩) hhl)
    have kb : ∀ i, W.cell? ⟨w.heap.size, i, none⟩ = V.cell? ⟨w.heap.size, i, none⟩ := fun i => hW.cell (p := ⟨w.heap.size, i, none⟩) (by rw [HVS.out]; exact Nat.lt_succ_self _)
    refine ⟨(kb 0).trans (by rw [hV]; simp), (kb 1).trans (by rw [hV]; simp), (kb 2).trans (by rw [hV]; simp), (kb 3).trans (by rw [hV]; simp), (kb 4).trans (by rw [hV]; simp), (key 0).trans c0, (key 1).trans c1, (key 2).trans c2, (key 3).trans c3, (key 4).trans c4, (key 5).trans c5, (key 6).trans c6, (kez 0).trans k0, (kez 1).trans k1, (kez 2).trans k2, (kez 3).trans k3, (kez 4).trans k4, (kez 5).trans k5, (kez 6).trans k6⟩
  rw [EQ.out]
  clear hr hf h1 h3 h4 hda hdb hd1 hd2 hg hh F1 F2 F3 F4
  unfold pcv at T1 T2 T3
  unfold pcv
  have g1 : decide ((1 : Int) < (da : Int) - (db : Int)) = true := decide_eq_true hgt
  have g3 : decide ((d2 : Int) ≤ (d1 : Int)) = false := decide_eq_false hlt
  have hlN : d1 < d2 := by omega
  have hlM : ¬ d2 ≤ d1 := by omega
  clear hgt hlt
  obtain ⟨v0, v1, v2, v3, v4, v5, v6, v7, v8, v9, v10, v11, v12, v13, v14, v15, v16, v17, v18⟩ := HC.out V (Below.refl _ _)
  go_enter Tryd.func70, Tryd.ntmps70
  go_wp2_with fail
  rw [← hV]
  clear hV
  go_wp2_with (first | (go_at_call 73; refine (HA.out _ HV.out).mono ?_; clear HA; rintro e w2 ⟨rfl, hw2⟩; rw [hw2]; clear hw2) | (go_at_call 73; refine (HB.out _ HV.out).mono ?_; clear HB; rintro e w2 ⟨rfl, hw2⟩; rw [hw2]; clear hw2))
  go_quiet (first | (go_at_call_of 73 (Value.pointer p1); exact Calls.quiet_of_same (H1.out _ (HV.out.trans (drewN_bel _ _ _)))) | (go_at_call_of 73 (Value.pointer (some ⟨h, 0, none⟩)); exact Calls.quiet_of_same (H2.out _ (HV.out.trans (drewN_bel _ _ _)))))
  obtain ⟨V2, hV2⟩ : ∃ V2, V2 = V.drewN nq := ⟨_, rfl⟩
  rw [← hV2]
  have HV2V : Hid (Below V.heap.size V V2) := by show Below _ _ _; rw [hV2]; exact drewN_bel _ _ _
  have HV2 : Hid (Below w.heap.size w V2) := HV.out.trans (HV2V.out.mono HV.out.size)
  clear hV2 v0 v1 v2 v3 v4 v5 v6 v7 v8 v9 v10 v11 v12 v13 v14 v15 v16 v17 v18
  obtain ⟨s0, s1, s2, s3, s4, s5, s6, s7, s8, s9, s10, s11, s12, s13, s14, s15, s16, s17, s18⟩ := HC.out V2 HV2V.out
  go_wp2_with fail
  go_region_held3 (fun w' => w'.cell? ⟨w.heap.size, 0, none⟩ = some (.int .i64 (x.at' : Int)) ∧ w'.cell? ⟨w.heap.size, 1, none⟩ = some (.int .i64 (x.n : Int)) ∧ w'.cell? ⟨w.heap.size, 2, none⟩ = some (.int .i64 (x.count : Int)) ∧ w'.cell? ⟨w.heap.size, 3, none⟩ = some (.int .u64 (x.tag : Int)) ∧ w'.cell? ⟨w.heap.size, 4, none⟩ = some (.int .u8 (x.st : Int)) ∧ w'.cell? ⟨g, 0, none⟩ = some (.int .i64 (q.at' : Int)) ∧ w'.cell? ⟨g, 1, none⟩ = some (.int .i64 (q.n : Int)) ∧ w'.cell? ⟨g, 2, none⟩ = some (.int .i64 (q.count : Int)) ∧ w'.cell? ⟨g, 3, none⟩ = some (.int .u64 (q.tag : Int)) ∧ w'.cell? ⟨g, 4, none⟩ = some (.int .u8 (q.st : Int)) ∧ w'.cell? ⟨g, 5, none⟩ = some (.pointer p1) ∧ w'.cell? ⟨g, 6, none⟩ = some (.pointer (some ⟨h, 0, none⟩)) ∧ w'.cell? ⟨h, 0, none⟩ = some (.int .i64 (z.at' : Int)) ∧ w'.cell? ⟨h, 1, none⟩ = some (.int .i64 (z.n : Int)) ∧ w'.cell? ⟨h, 2, none⟩ = some (.int .i64 (z.count : Int)) ∧ w'.cell? ⟨h, 3, none⟩ = some (.int .u64 (z.tag : Int)) ∧ w'.cell? ⟨h, 4, none⟩ = some (.int .u8 (z.st : Int)) ∧ w'.cell? ⟨h, 5, none⟩ = some (.pointer p3) ∧ w'.cell? ⟨h, 6, none⟩ = some (.pointer p4)) (simp [*]) (first
    | (go_at_call_of 69 (Value.pointer p1); refine (T1.out _ (Below.drew HV2.out)).mono ?_; clear T1; rintro e w3 ⟨t1, rfl, hk1, hb3⟩; have HB3V : Hid (Below V.heap.size V w3) := Below.trans (Below.drew HV2V.out) (hb3.mono HV2V.out.size); have HB3 : Hid (Below w.heap.size w w3) := HV.out.trans (HB3V.out.mono HV.out.size); have HK1 := hid_mk hk1; obtain ⟨y0, y1, y2, y3, y4, y5, y6, y7, y8, y9, y10, y11, y12, y13, y14, y15, y16, y17, y18⟩ := HC.out w3 HB3V.out; clear hk1 hb3)
    | (go_at_call 69; refine (T2.out _ HB3.out).mono ?_; clear T2; rintro e w4 ⟨t2, rfl, hk2, hb4⟩; have HB4V : Hid (Below V.heap.size V w4) := HB3V.out.trans (hb4.mono HB3V.out.size); have HB4 : Hid (Below w.heap.size w w4) := HB3.out.trans (hb4.mono HB3.out.size); have HK2 := hid_mk hk2; have HK14 := hid_mk (HK1.out.below hb4); obtain ⟨z_0, z_1, z_2, z_3, z_4, z_5, z_6, z_7, z_8, z_9, z_10, z_11, z_12, z_13, z_14, z_15, z_16, z_17, z_18⟩ := HC.out w4 HB4V.out; clear hk2 hb4)
    | (go_at_call 69; refine (T3.out _ _ _ HK14.out HK2.out).mono ?_; clear T3; rintro e w5 ⟨t3, rfl, hk3, hb5⟩; have HB5V : Hid (Below V.heap.size V w5) := HB4V.out.trans (hb5.mono HB4V.out.size); have HB5 : Hid (Below w.heap.size w w5) := HB4.out.trans (hb5.mono HB4.out.size); have HK3 := hid_mk hk3; obtain ⟨q_0, q_1, q_2, q_3, q_4, q_5, q_6, q_7, q_8, q_9, q_10, q_11, q_12, q_13, q_14, q_15, q_16, q_17, q_18⟩ := HC.out w5 HB5V.out; clear hk3 hb5))
  go_wp2_with fail
  go_ret
  exact ⟨_, rfl, HK3.out, HB5.out⟩
end Go.Proofs.YtcpdnalmoaojlaaDoor

/-
  balance: the other turns.
-/
namespace Go.Proofs.YtcpdnalmoaojlaaDoor
open Go.ChangeShapes Go.WideShapes Go.ChangeAt Go.RowKit
set_option linter.unusedVariables false
set_option linter.unusedSimpArgs false

set_option maxRecDepth 100000 in
set_option maxHeartbeats 4000000 in
theorem bal_right2 (pl : Option Addr) (la l3 l4 l2 : List Pc) (x q z : Pc) (g h : Nat) (p1 p2 p3 p4 : Option Addr) (hp2 : p1 = some ⟨h, 0, none⟩) (a b da db d1 d2 d d' : Nat) (f e0 f' e0' : Nat) (wd wd' : Int) (w : World) (hr : KT w pl la) (h1 : KT w p2 l2) (h3 : KT w p3 l3) (h4 : KT w p4 l4) (hf : Fits a (la ++ x :: ((l3 ++ z :: l4) ++ q :: l2)) b) (hg : w.heap[g]? = some (.cells (knv q p1 p2 d f e0 wd) 118 (0, 0))) (hh : w.heap[h]? = some (.cells (knv z p3 p4 d' f' e0' wd') 118 (0, 0))) (hb : b ≤ 1073741824) (hda : Dep w pl da) (hdb : Dep w (some ⟨g, 0, none⟩) db) (hd1 : Dep w p1 d1) (hd2 : Dep w p2 d2) (ha30 : da ≤ 1073741824) (hb30 : db ≤ 1073741824) (hgt : (da : Int) - (db : Int) < -1) (hlt : ¬ (d1 : Int) ≤ (d2 : Int)) :
    Calls Tryd.prog 70 #[.pointer pl, .agg (pcv x), .pointer (some ⟨g, 0, none⟩)] w (KPost w (la ++ x :: ((l3 ++ z :: l4) ++ q :: l2))) := by
  subst hp2
  have EQ : Hid ((la ++ x :: ((l3 ++ z :: l4) ++ q :: l2)) = ((la ++ x :: l3) ++ z :: (l4 ++ q :: l2))) := by show _ = _; simp
  rw [EQ.out] at hf
  obtain ⟨F1, F4, F2⟩ := fits_cut.1 hf
  have F3 : z.at' ≤ 1073741824 := by have := F2.le; have : z.stop = z.at' + z.n := rfl; omega
  have HA : Hid (∀ W, Below w.heap.size w W → Calls Tryd.prog 73 #[.pointer pl] W fun e w' => e = .returned (.int .i64 (da : Int)) ∧ w' = W) := fun W hW => depth_any _ da W (hda.below hW)
  have HB : Hid (∀ W, Below w.heap.size w W → Calls Tryd.prog 73 #[.pointer (some ⟨g, 0, none⟩)] W fun e w' => e = .returned (.int .i64 (db : Int)) ∧ w' = W) := fun W hW => depth_any _ db W (hdb.below hW)
  have H1 : Hid (∀ W, Below w.heap.size w W → Calls Tryd.prog 73 #[.pointer (some ⟨h, 0, none⟩)] W fun e w' => e = .returned (.int .i64 (d1 : Int)) ∧ w' = W) := fun W hW => depth_any (some ⟨h, 0, none⟩) d1 W (hd1.below hW)
  have H2 : Hid (∀ W, Below w.heap.size w W → Calls Tryd.prog 73 #[.pointer p2] W fun e w' => e = .returned (.int .i64 (d2 : Int)) ∧ w' = W) := fun W hW => depth_any p2 d2 W (hd2.below hW)
  have T1 : Hid (∀ W, Below w.heap.size w W → Calls Tryd.prog 69 #[.pointer pl, .agg (pcv x), .pointer p3] W (KPost W (la ++ x :: l3))) := fun W hW => tie_any pl p3 la l3 x a z.at' W (hr.below hW) (h3.below hW) F1 F3
  have T2 : Hid (∀ W, Below w.heap.size w W → Calls Tryd.prog 69 #[.pointer p4, .agg (pcv q), .pointer p2] W (KPost W (l4 ++ q :: l2))) := fun W hW => tie_any p4 p2 l4 l2 q z.stop b W (h4.below hW) (h1.below hW) F2 hb
  have T3 : Hid (∀ W t1 t2, KT W t1 (la ++ x :: l3) → KT W t2 (l4 ++ q :: l2) → Calls Tryd.prog 69 #[.pointer t1, .agg (pcv z), .pointer t2] W (KPost W ((la ++ x :: l3) ++ z :: (l4 ++ q :: l2)))) := fun W t1 t2 k1 k2 => tie_any t1 t2 _ _ z a b W k1 k2 hf hb
  obtain ⟨V, hV⟩ : ∃ V, V = w.alloc (.cells #[.int .i64 (x.at' : Int), .int .i64 (x.n : Int), .int .i64 (x.count : Int), .int .u64 (x.tag : Int), .int .u8 (x.st : Int)] 103) := ⟨_, rfl⟩
  have HV : Hid (Below w.heap.size w V) := by show Below _ _ _; rw [hV]; exact Below.alloc (Below.refl _ _) (Nat.le_refl _) _
  have HVS : Hid (V.heap.size = w.heap.size + 1) := by show _ = _; rw [hV]; simp
  have HC : Hid (∀ W, Below V.heap.size V W → W.cell? ⟨w.heap.size, 0, none⟩ = some (.int .i64 (x.at' : Int)) ∧ W.cell? ⟨w.heap.size, 1, none⟩ = some (.int .i64 (x.n : Int)) ∧ W.cell? ⟨w.heap.size, 2, none⟩ = some (.int .i64 (x.count : Int)) ∧ W.cell? ⟨w.heap.size, 3, none⟩ = some (.int .u64 (x.tag : Int)) ∧ W.cell? ⟨w.heap.size, 4, none⟩ = some (.int .u8 (x.st : Int)) ∧ W.cell? ⟨g, 0, none⟩ = some (.int .i64 (q.at' : Int)) ∧ W.cell? ⟨g, 1, none⟩ = some (.int .i64 (q.n : Int)) ∧ W.cell? ⟨g, 2, none⟩ = some (.int .i64 (q.count : Int)) ∧ W.cell? ⟨g, 3, none⟩ = some (.int .u64 (q.tag : Int)) ∧ W.cell? ⟨g, 4, none⟩ = some (.int .u8 (q.st : Int)) ∧ W.cell? ⟨g, 5, none⟩ = some (.pointer (some ⟨h, 0, none⟩)) ∧ W.cell? ⟨g, 6, none⟩ = some (.pointer p2) ∧ W.cell? ⟨h, 0, none⟩ = some (.int .i64 (z.at' : Int)) ∧ W.cell? ⟨h, 1, none⟩ = some (.int .i64 (z.n : Int)) ∧ W.cell? ⟨h, 2, none⟩ = some (.int .i64 (z.count : Int)) ∧ W.cell? ⟨h, 3, none⟩ = some (.int .u64 (z.tag : Int)) ∧ W.cell? ⟨h, 4, none⟩ = some (.int .u8 (z.st : Int)) ∧ W.cell? ⟨h, 5, none⟩ = some (.pointer p3) ∧ W.cell? ⟨h, 6, none⟩ = some (.pointer p4)) := fun W hW => by
    obtain ⟨c0, c1, c2, c3, c4, c5, c6, _⟩ := kn_cells hg
    obtain ⟨k0, k1, k2, k3, k4, k5, k6, _⟩ := kn_cells hh
    have hgl := (Array.getElem?_eq_some_iff.1 hg).1
    have hhl := (Array.getElem?_eq_some_iff.1 hh).1
    have key : ∀ i, W.cell? ⟨g, i, none⟩ = w.cell? ⟨g, i, none⟩ := fun i => (hW.cell (p := ⟨g, i, none⟩) (Nat.lt_of_lt_of_le hgl HV.out.size)).trans (HV.out.cell (p := ⟨g, i, none⟩) hgl)
    have kez : ∀ i, W.cell? ⟨h, i, none⟩ = w.cell? ⟨h, i, none⟩ := fun i => (hW.cell (p := ⟨h, i, none⟩) (Nat.lt_of_lt_of_le hhl HV.out.size)).trans (HV.out.cell (p := ⟨h, i, none⟩) hhl)
    have kb : ∀ i, W.cell? ⟨w.heap.size, i, none⟩ = V.cell? ⟨w.heap.size, i, none⟩ := fun i => hW.cell (p := ⟨w.heap.size, i, none⟩) (by rw [HVS.out]; exact Nat.lt_succ_self _)
    refine ⟨(kb 0).trans (by rw [hV]; simp), (kb 1).trans (by rw [hV]; simp), (kb 2).trans (by rw [hV]; simp), (kb 3).trans (by rw [hV]; simp), (kb 4).trans (by rw [hV]; simp), (key 0).trans c0, (key 1).trans c1, (key 2).trans c2, (key 3).trans c3, (key 4).trans c4, (key 5).trans c5, (key 6).trans c6, (kez 0).trans k0, (kez 1).trans k1, (kez 2).trans k2, (kez 3).trans k3, (kez 4).trans k4, (kez 5).trans k5, (kez 6).trans k6⟩
  rw [EQ.out]
  clear hr hf h1 h3 h4 hda hdb hd1 hd2 hg hh F1 F2 F3 F4
  unfold pcv at T1 T2 T3
  unfold pcv
  have g1 : decide ((1 : Int) < (da : Int) - (db : Int)) = false := decide_eq_false (by omega)
  have g2 : decide ((da : Int) - (db : Int) < -1) = true := decide_eq_true hgt
  have g3 : decide ((d1 : Int) ≤ (d2 : Int)) = false := decide_eq_false hlt
  have hlN : d2 < d1 := by omega
  have hlM : ¬ d1 ≤ d2 := by omega
  clear hgt hlt
  obtain ⟨v0, v1, v2, v3, v4, v5, v6, v7, v8, v9, v10, v11, v12, v13, v14, v15, v16, v17, v18⟩ := HC.out V (Below.refl _ _)
  go_enter Tryd.func70, Tryd.ntmps70
  go_wp2_with fail
  rw [← hV]
  clear hV
  go_wp2_with (first | (go_at_call 73; refine (HA.out _ HV.out).mono ?_; clear HA; rintro e w2 ⟨rfl, hw2⟩; rw [hw2]; clear hw2) | (go_at_call 73; refine (HB.out _ HV.out).mono ?_; clear HB; rintro e w2 ⟨rfl, hw2⟩; rw [hw2]; clear hw2))
  go_quiet (fail)
  obtain ⟨V1, hV1⟩ : ∃ V1, V1 = V.drewN nq := ⟨_, rfl⟩
  rw [← hV1]
  have HV1V : Hid (Below V.heap.size V V1) := by show Below _ _ _; rw [hV1]; exact drewN_bel _ _ _
  have HV1 : Hid (Below w.heap.size w V1) := HV.out.trans (HV1V.out.mono HV.out.size)
  clear hV1 v0 v1 v2 v3 v4 v5 v6 v7 v8 v9 v10 v11 v12 v13 v14 v15 v16 v17 v18
  obtain ⟨s0, s1, s2, s3, s4, s5, s6, s7, s8, s9, s10, s11, s12, s13, s14, s15, s16, s17, s18⟩ := HC.out V1 HV1V.out
  go_wp2_with fail
  go_quiet (first | (go_at_call_of 73 (Value.pointer (some ⟨h, 0, none⟩)); exact Calls.quiet_of_same (H1.out _ (HV1.out.trans (drewN_bel _ _ _)))) | (go_at_call_of 73 (Value.pointer p2); exact Calls.quiet_of_same (H2.out _ (HV1.out.trans (drewN_bel _ _ _)))))
  obtain ⟨V2, hV2⟩ : ∃ V2, V2 = V1.drewN nq := ⟨_, rfl⟩
  rw [← hV2]
  have HV2V : Hid (Below V.heap.size V V2) := by show Below _ _ _; rw [hV2]; exact HV1V.out.trans (drewN_bel _ _ _)
  have HV2 : Hid (Below w.heap.size w V2) := HV.out.trans (HV2V.out.mono HV.out.size)
  clear hV2 s0 s1 s2 s3 s4 s5 s6 s7 s8 s9 s10 s11 s12 s13 s14 s15 s16 s17 s18
  obtain ⟨r0, r1, r2, r3, r4, r5, r6, r7, r8, r9, r10, r11, r12, r13, r14, r15, r16, r17, r18⟩ := HC.out V2 HV2V.out
  go_wp2_with fail
  go_region_held3 (fun w' => w'.cell? ⟨w.heap.size, 0, none⟩ = some (.int .i64 (x.at' : Int)) ∧ w'.cell? ⟨w.heap.size, 1, none⟩ = some (.int .i64 (x.n : Int)) ∧ w'.cell? ⟨w.heap.size, 2, none⟩ = some (.int .i64 (x.count : Int)) ∧ w'.cell? ⟨w.heap.size, 3, none⟩ = some (.int .u64 (x.tag : Int)) ∧ w'.cell? ⟨w.heap.size, 4, none⟩ = some (.int .u8 (x.st : Int)) ∧ w'.cell? ⟨g, 0, none⟩ = some (.int .i64 (q.at' : Int)) ∧ w'.cell? ⟨g, 1, none⟩ = some (.int .i64 (q.n : Int)) ∧ w'.cell? ⟨g, 2, none⟩ = some (.int .i64 (q.count : Int)) ∧ w'.cell? ⟨g, 3, none⟩ = some (.int .u64 (q.tag : Int)) ∧ w'.cell? ⟨g, 4, none⟩ = some (.int .u8 (q.st : Int)) ∧ w'.cell? ⟨g, 5, none⟩ = some (.pointer (some ⟨h, 0, none⟩)) ∧ w'.cell? ⟨g, 6, none⟩ = some (.pointer p2) ∧ w'.cell? ⟨h, 0, none⟩ = some (.int .i64 (z.at' : Int)) ∧ w'.cell? ⟨h, 1, none⟩ = some (.int .i64 (z.n : Int)) ∧ w'.cell? ⟨h, 2, none⟩ = some (.int .i64 (z.count : Int)) ∧ w'.cell? ⟨h, 3, none⟩ = some (.int .u64 (z.tag : Int)) ∧ w'.cell? ⟨h, 4, none⟩ = some (.int .u8 (z.st : Int)) ∧ w'.cell? ⟨h, 5, none⟩ = some (.pointer p3) ∧ w'.cell? ⟨h, 6, none⟩ = some (.pointer p4)) (simp [*]) (first
    | (go_at_call_of 69 (Value.pointer pl); refine (T1.out _ (Below.drew HV2.out)).mono ?_; clear T1; rintro e w3 ⟨t1, rfl, hk1, hb3⟩; have HB3V : Hid (Below V.heap.size V w3) := Below.trans (Below.drew HV2V.out) (hb3.mono HV2V.out.size); have HB3 : Hid (Below w.heap.size w w3) := HV.out.trans (HB3V.out.mono HV.out.size); have HK1 := hid_mk hk1; obtain ⟨y0, y1, y2, y3, y4, y5, y6, y7, y8, y9, y10, y11, y12, y13, y14, y15, y16, y17, y18⟩ := HC.out w3 HB3V.out; clear hk1 hb3)
    | (go_at_call 69; refine (T2.out _ HB3.out).mono ?_; clear T2; rintro e w4 ⟨t2, rfl, hk2, hb4⟩; have HB4V : Hid (Below V.heap.size V w4) := HB3V.out.trans (hb4.mono HB3V.out.size); have HB4 : Hid (Below w.heap.size w w4) := HB3.out.trans (hb4.mono HB3.out.size); have HK2 := hid_mk hk2; have HK14 := hid_mk (HK1.out.below hb4); obtain ⟨z_0, z_1, z_2, z_3, z_4, z_5, z_6, z_7, z_8, z_9, z_10, z_11, z_12, z_13, z_14, z_15, z_16, z_17, z_18⟩ := HC.out w4 HB4V.out; clear hk2 hb4)
    | (go_at_call 69; refine (T3.out _ _ _ HK14.out HK2.out).mono ?_; clear T3; rintro e w5 ⟨t3, rfl, hk3, hb5⟩; have HB5V : Hid (Below V.heap.size V w5) := HB4V.out.trans (hb5.mono HB4V.out.size); have HB5 : Hid (Below w.heap.size w w5) := HB4.out.trans (hb5.mono HB4.out.size); have HK3 := hid_mk hk3; obtain ⟨q_0, q_1, q_2, q_3, q_4, q_5, q_6, q_7, q_8, q_9, q_10, q_11, q_12, q_13, q_14, q_15, q_16, q_17, q_18⟩ := HC.out w5 HB5V.out; clear hk3 hb5))
  go_wp2_with fail
  go_ret
  exact ⟨_, rfl, HK3.out, HB5.out⟩
end Go.Proofs.YtcpdnalmoaojlaaDoor

/-
  balance, with.
-/
namespace Go.Proofs.YtcpdnalmoaojlaaDoor
open Go.ChangeShapes Go.WideShapes Go.ChangeAt Go.RowKit
set_option linter.unusedVariables false
set_option linter.unusedSimpArgs false

theorem bal_any (pl pr : Option Addr) (la lr : List Pc) (x : Pc) (a b : Nat) (w : World) (hl : KT w pl la) (hr : KT w pr lr) (hf : Fits a (la ++ x :: lr) b) (hb : b ≤ 1073741824) :
    Calls Tryd.prog 70 #[.pointer pl, .agg (pcv x), .pointer pr] w (KPost w (la ++ x :: lr)) := by
  obtain ⟨da, hda, dal⟩ := hl.dep
  obtain ⟨db, hdb, dbl⟩ := hr.dep
  have hlen := fits_len hf
  rw [List.length_append, List.length_cons] at hlen
  have ha30 : da ≤ 1073741824 := by omega
  have hb30 : db ≤ 1073741824 := by omega
  by_cases h1 : (1 : Int) < (da : Int) - (db : Int)
  · cases pl with
    | none =>
      rcases hda with ⟨_, e⟩ | ⟨_, e, _⟩
      · omega
      · cases e
    | some p =>
      obtain ⟨g, p1, p2, l1, q, l2, d, wd, rfl, rfl, hg, _, k1, k2⟩ := hl.of_some
      obtain ⟨d1, hd1, _⟩ := k1.dep
      obtain ⟨d2, hd2, _⟩ := k2.dep
      by_cases h2 : (d2 : Int) ≤ (d1 : Int)
      · exact bal_left pr l1 l2 lr x q g p1 p2 a b da db d1 d2 d _ _ wd w hr hf hg k1 k2 hb hda hdb hd1 hd2 ha30 hb30 h1 h2
      · cases p2 with
        | none =>
          rcases hd2 with ⟨_, e⟩ | ⟨_, e, _⟩
          · omega
          · cases e
        | some p =>
          obtain ⟨h, p3, p4, l3, z, l4, d', wd', rfl, rfl, hh, _, k3, k4⟩ := k2.of_some
          exact bal_left2 pr l1 l3 l4 lr x q z g h p1 _ p3 p4 rfl a b da db d1 d2 d d' _ _ _ _ wd wd' w hr k1 k3 k4 hf hg hh hb hda hdb hd1 hd2 ha30 hb30 h1 h2
  · by_cases h3 : (da : Int) - (db : Int) < -1
    · cases pr with
      | none =>
        rcases hdb with ⟨_, e⟩ | ⟨_, e, _⟩
        · omega
        · cases e
      | some p =>
        obtain ⟨g, p1, p2, l1, q, l2, d, wd, rfl, rfl, hg, _, k1, k2⟩ := hr.of_some
        obtain ⟨d1, hd1, _⟩ := k1.dep
        obtain ⟨d2, hd2, _⟩ := k2.dep
        by_cases h2 : (d1 : Int) ≤ (d2 : Int)
        · exact bal_right pl la l1 l2 x q g p1 p2 a b da db d1 d2 d _ _ wd w hl hf hg k1 k2 hb hda hdb hd1 hd2 ha30 hb30 h3 h2
        · cases p1 with
          | none =>
            rcases hd1 with ⟨_, e⟩ | ⟨_, e, _⟩
            · omega
            · cases e
          | some p =>
            obtain ⟨h, p3, p4, l3, z, l4, d', wd', rfl, rfl, hh, _, k3, k4⟩ := k1.of_some
            exact bal_right2 pl la l3 l4 l2 x q z g h _ p2 p3 p4 rfl a b da db d1 d2 d d' _ _ _ _ wd wd' w hl k2 k3 k4 hf hg hh hb hda hdb hd1 hd2 ha30 hb30 h3 h2
    · exact bal_even pl pr la lr x a b da db w hl hr hf hb hda hdb ha30 hb30 h1 h3
end Go.Proofs.YtcpdnalmoaojlaaDoor
