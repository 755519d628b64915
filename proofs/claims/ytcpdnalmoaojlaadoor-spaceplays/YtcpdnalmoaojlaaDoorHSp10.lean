import Derived.Test.YtcpdnalmoaojlaaDoorHSp3
import Derived.Deep.RegionHeld3

/-
  balance.
-/
namespace Go.Proofs.YtcpdnalmoaojlaaDoor
open Go.ChangeShapes Go.WideShapes Go.ChangeAt Go.RowKit
set_option linter.unusedVariables false
set_option linter.unusedSimpArgs false

theorem drewN_bel (B : Nat) (w : World) (n : Nat) : Below B w (w.drewN n) := ⟨rfl, rfl, rfl, Nat.le_refl _, fun _ _ => rfl⟩
set_option maxRecDepth 100000 in
set_option maxHeartbeats 4000000 in
theorem bal_even (pl pr : Option Addr) (la lr : List Pc) (x : Pc) (a b da db : Nat) (w : World) (hl : KT w pl la) (hr : KT w pr lr) (hf : Fits a (la ++ x :: lr) b) (hb : b ≤ 1073741824) (hda : Dep w pl da) (hdb : Dep w pr db) (ha30 : da ≤ 1073741824) (hb30 : db ≤ 1073741824) (h1 : ¬ (1 : Int) < (da : Int) - (db : Int)) (h2 : ¬ (da : Int) - (db : Int) < -1) :
    Calls Tryd.prog 70 #[.pointer pl, .agg (pcv x), .pointer pr] w (KPost w (la ++ x :: lr)) := by
  have HA : Hid (∀ W, Below w.heap.size w W → Calls Tryd.prog 73 #[.pointer pl] W fun e w' => e = .returned (.int .i64 (da : Int)) ∧ w' = W) := fun W hW => depth_any pl da W (hda.below hW)
  have HB : Hid (∀ W, Below w.heap.size w W → Calls Tryd.prog 73 #[.pointer pr] W fun e w' => e = .returned (.int .i64 (db : Int)) ∧ w' = W) := fun W hW => depth_any pr db W (hdb.below hW)
  have HT : Hid (∀ W, Below w.heap.size w W → Calls Tryd.prog 69 #[.pointer pl, .agg (pcv x), .pointer pr] W (KPost W (la ++ x :: lr))) := fun W hW => tie_any pl pr la lr x a b W (hl.below hW) (hr.below hW) hf hb
  clear hl hr hf hda hdb
  unfold pcv at HT
  unfold pcv
  have g1 : decide ((1 : Int) < (da : Int) - (db : Int)) = false := decide_eq_false h1
  have g2 : decide ((da : Int) - (db : Int) < -1) = false := decide_eq_false h2
  have HV : Hid (∀ A, Below w.heap.size w (w.alloc A)) := fun A => Below.alloc (Below.refl _ _) (Nat.le_refl _) _
  obtain ⟨dd, hdd⟩ : ∃ dd : Int, dd = (da : Int) - (db : Int) := ⟨_, rfl⟩
  go_enter Tryd.func70, Tryd.ntmps70
  go_wp2_with (first | (go_at_call 73; refine (HA.out _ (HV.out _)).mono ?_; clear HA; rintro e w2 ⟨rfl, rfl⟩) | (go_at_call 73; refine (HB.out _ (HV.out _)).mono ?_; clear HB; rintro e w2 ⟨rfl, rfl⟩))
  go_quiet (fail)
  go_wp2_with fail
  go_quiet (fail)
  go_wp2_with (first | (go_at_call 69; refine (HT.out _ (by repeat (first | exact HV.out _ | apply Below.drew | (refine Below.trans ?_ (drewN_bel _ _ _))))).mono ?_; clear HT; rintro e w3 ⟨p, rfl, hk, hb3⟩; have HK := hid_mk hk; have HB3 : Hid (Below w.heap.size w w3) := Below.trans (by repeat (first | exact HV.out _ | apply Below.drew | (refine Below.trans ?_ (drewN_bel _ _ _)))) (hb3.mono (by simp)); clear hk hb3))
  go_ret
  exact ⟨_, rfl, HK.out, HB3.out⟩
set_option maxRecDepth 100000 in
set_option maxHeartbeats 4000000 in
theorem bal_left (pr : Option Addr) (l1 l2 lr : List Pc) (x q : Pc) (g : Nat) (p1 p2 : Option Addr) (a b da db d1 d2 d : Nat) (f e0 : Nat) (wd : Int) (w : World) (hr : KT w pr lr) (hf : Fits a ((l1 ++ q :: l2) ++ x :: lr) b) (hg : w.heap[g]? = some (.cells (knv q p1 p2 d f e0 wd) 118 (0, 0))) (h1 : KT w p1 l1) (h2 : KT w p2 l2) (hb : b ≤ 1073741824) (hda : Dep w (some ⟨g, 0, none⟩) da) (hdb : Dep w pr db) (hd1 : Dep w p1 d1) (hd2 : Dep w p2 d2) (ha30 : da ≤ 1073741824) (hb30 : db ≤ 1073741824) (hgt : (1 : Int) < (da : Int) - (db : Int)) (hge : (d2 : Int) ≤ (d1 : Int)) :
    Calls Tryd.prog 70 #[.pointer (some ⟨g, 0, none⟩), .agg (pcv x), .pointer pr] w (KPost w ((l1 ++ q :: l2) ++ x :: lr)) := by
  rw [List.append_assoc, List.cons_append] at hf
  have HA : Hid (∀ W, Below w.heap.size w W → Calls Tryd.prog 73 #[.pointer (some ⟨g, 0, none⟩)] W fun e w' => e = .returned (.int .i64 (da : Int)) ∧ w' = W) := fun W hW => depth_any _ da W (hda.below hW)
  have HB : Hid (∀ W, Below w.heap.size w W → Calls Tryd.prog 73 #[.pointer pr] W fun e w' => e = .returned (.int .i64 (db : Int)) ∧ w' = W) := fun W hW => depth_any _ db W (hdb.below hW)
  have H1 : Hid (∀ W, Below w.heap.size w W → Calls Tryd.prog 73 #[.pointer p1] W fun e w' => e = .returned (.int .i64 (d1 : Int)) ∧ w' = W) := fun W hW => depth_any p1 d1 W (hd1.below hW)
  have H2 : Hid (∀ W, Below w.heap.size w W → Calls Tryd.prog 73 #[.pointer p2] W fun e w' => e = .returned (.int .i64 (d2 : Int)) ∧ w' = W) := fun W hW => depth_any p2 d2 W (hd2.below hW)
  have T1 : Hid (∀ W, Below w.heap.size w W → Calls Tryd.prog 69 #[.pointer p2, .agg (pcv x), .pointer pr] W (KPost W (l2 ++ x :: lr))) := fun W hW => tie_any p2 pr l2 lr x q.stop b W (h2.below hW) (hr.below hW) (fits_cut.1 hf).2.2 hb
  have T2 : Hid (∀ W p, Below w.heap.size w W → KT W p (l2 ++ x :: lr) → Calls Tryd.prog 69 #[.pointer p1, .agg (pcv q), .pointer p] W (KPost W (l1 ++ q :: (l2 ++ x :: lr)))) := fun W p hW hp => tie_any p1 p l1 _ q a b W (h1.below hW) hp hf hb
  obtain ⟨V, hV⟩ : ∃ V, V = w.alloc (.cells #[.int .i64 (x.at' : Int), .int .i64 (x.n : Int), .int .i64 (x.count : Int), .int .u64 (x.tag : Int), .int .u8 (x.st : Int)] 103) := ⟨_, rfl⟩
  have HV : Hid (Below w.heap.size w V) := by show Below _ _ _; rw [hV]; exact Below.alloc (Below.refl _ _) (Nat.le_refl _) _
  have HVS : Hid (V.heap.size = w.heap.size + 1) := by show _ = _; rw [hV]; simp
  have HC : Hid (∀ W, Below V.heap.size V W → W.cell? ⟨w.heap.size, 0, none⟩ = some (.int .i64 (x.at' : Int)) ∧ W.cell? ⟨w.heap.size, 1, none⟩ = some (.int .i64 (x.n : Int)) ∧ W.cell? ⟨w.heap.size, 2, none⟩ = some (.int .i64 (x.count : Int)) ∧ W.cell? ⟨w.heap.size, 3, none⟩ = some (.int .u64 (x.tag : Int)) ∧ W.cell? ⟨w.heap.size, 4, none⟩ = some (.int .u8 (x.st : Int)) ∧ W.cell? ⟨g, 0, none⟩ = some (.int .i64 (q.at' : Int)) ∧ W.cell? ⟨g, 1, none⟩ = some (.int .i64 (q.n : Int)) ∧ W.cell? ⟨g, 2, none⟩ = some (.int .i64 (q.count : Int)) ∧ W.cell? ⟨g, 3, none⟩ = some (.int .u64 (q.tag : Int)) ∧ W.cell? ⟨g, 4, none⟩ = some (.int .u8 (q.st : Int)) ∧ W.cell? ⟨g, 5, none⟩ = some (.pointer p1) ∧ W.cell? ⟨g, 6, none⟩ = some (.pointer p2)) := fun W hW => by
    obtain ⟨c0, c1, c2, c3, c4, c5, c6, _⟩ := kn_cells hg
    have hgl := (Array.getElem?_eq_some_iff.1 hg).1
    have key : ∀ i, W.cell? ⟨g, i, none⟩ = w.cell? ⟨g, i, none⟩ := fun i => (hW.cell (p := ⟨g, i, none⟩) (Nat.lt_of_lt_of_le hgl HV.out.size)).trans (HV.out.cell (p := ⟨g, i, none⟩) hgl)
    have kb : ∀ i, W.cell? ⟨w.heap.size, i, none⟩ = V.cell? ⟨w.heap.size, i, none⟩ := fun i => hW.cell (p := ⟨w.heap.size, i, none⟩) (by rw [HVS.out]; exact Nat.lt_succ_self _)
    refine ⟨(kb 0).trans (by rw [hV]; simp), (kb 1).trans (by rw [hV]; simp), (kb 2).trans (by rw [hV]; simp), (kb 3).trans (by rw [hV]; simp), (kb 4).trans (by rw [hV]; simp), (key 0).trans c0, (key 1).trans c1, (key 2).trans c2, (key 3).trans c3, (key 4).trans c4, (key 5).trans c5, (key 6).trans c6⟩
  rw [List.append_assoc, List.cons_append]
  clear hr hf h1 h2 hda hdb hd1 hd2 hg
  unfold pcv at T1 T2
  unfold pcv
  have g1 : decide ((1 : Int) < (da : Int) - (db : Int)) = true := decide_eq_true hgt
  obtain ⟨v0, v1, v2, v3, v4, u0, u1, u2, u3, u4, u5, u6⟩ := HC.out V (Below.refl _ _)
  go_enter Tryd.func70, Tryd.ntmps70
  go_wp2_with fail
  rw [← hV]
  clear hV
  go_wp2_with (first | (go_at_call 73; refine (HA.out _ HV.out).mono ?_; clear HA; rintro e w2 ⟨rfl, hw2⟩; rw [hw2]; clear hw2) | (go_at_call 73; refine (HB.out _ HV.out).mono ?_; clear HB; rintro e w2 ⟨rfl, hw2⟩; rw [hw2]; clear hw2))
  go_quiet (first | (go_at_call_of 73 (Value.pointer p1); exact Calls.quiet_of_same (H1.out _ (HV.out.trans (drewN_bel _ _ _)))) | (go_at_call_of 73 (Value.pointer p2); exact Calls.quiet_of_same (H2.out _ (HV.out.trans (drewN_bel _ _ _)))))
  go_wp2_with fail
  go_region_held3 (fun w' => w'.cell? ⟨w.heap.size, 0, none⟩ = some (.int .i64 (x.at' : Int)) ∧ w'.cell? ⟨w.heap.size, 1, none⟩ = some (.int .i64 (x.n : Int)) ∧ w'.cell? ⟨w.heap.size, 2, none⟩ = some (.int .i64 (x.count : Int)) ∧ w'.cell? ⟨w.heap.size, 3, none⟩ = some (.int .u64 (x.tag : Int)) ∧ w'.cell? ⟨w.heap.size, 4, none⟩ = some (.int .u8 (x.st : Int)) ∧ w'.cell? ⟨g, 0, none⟩ = some (.int .i64 (q.at' : Int)) ∧ w'.cell? ⟨g, 1, none⟩ = some (.int .i64 (q.n : Int)) ∧ w'.cell? ⟨g, 2, none⟩ = some (.int .i64 (q.count : Int)) ∧ w'.cell? ⟨g, 3, none⟩ = some (.int .u64 (q.tag : Int)) ∧ w'.cell? ⟨g, 4, none⟩ = some (.int .u8 (q.st : Int)) ∧ w'.cell? ⟨g, 5, none⟩ = some (.pointer p1) ∧ w'.cell? ⟨g, 6, none⟩ = some (.pointer p2)) (simp [*]) (first
    | (go_at_call_of 69 (Value.pointer p2); refine (T1.out _ (Below.drew (HV.out.trans (drewN_bel _ _ _)))).mono ?_; clear T1; rintro e w3 ⟨t1, rfl, hk1, hb3⟩; have HB3V : Hid (Below V.heap.size V w3) := Below.trans (Below.drew (drewN_bel _ _ _)) (hb3.mono (Nat.le_refl _)); have HB3 : Hid (Below w.heap.size w w3) := HV.out.trans (HB3V.out.mono HV.out.size); have HK1 := hid_mk hk1; obtain ⟨y0, y1, y2, y3, y4, y5, y6, y7, y8, y9, y10, y11⟩ := HC.out w3 HB3V.out; clear hk1 hb3)
    | (go_at_call_of 69 (Value.pointer p1); refine (T2.out _ _ HB3.out HK1.out).mono ?_; clear T2; rintro e w4 ⟨t2, rfl, hk2, hb4⟩; have HB4V : Hid (Below V.heap.size V w4) := HB3V.out.trans (hb4.mono HB3V.out.size); have HB4 : Hid (Below w.heap.size w w4) := HB3.out.trans (hb4.mono HB3.out.size); have HK2 := hid_mk hk2; obtain ⟨z0, z1, z2, z3, z4, z5, z6, z7, z8, z9, z10, z11⟩ := HC.out w4 HB4V.out; clear hk2 hb4))
  go_wp2_with fail
  go_ret
  exact ⟨_, rfl, HK2.out, HB4.out⟩
end Go.Proofs.YtcpdnalmoaojlaaDoor

/-
  balance: the other turns.
-/
namespace Go.Proofs.YtcpdnalmoaojlaaDoor
open Go.ChangeShapes Go.WideShapes Go.ChangeAt Go.RowKit
set_option linter.unusedVariables false
set_option linter.unusedSimpArgs false

set_option maxRecDepth 100000 in
set_option maxHeartbeats 4000000 in
theorem bal_right (pl : Option Addr) (la l1 l2 : List Pc) (x q : Pc) (g : Nat) (p1 p2 : Option Addr) (a b da db d1 d2 d : Nat) (f e0 : Nat) (wd : Int) (w : World) (hr : KT w pl la) (hf : Fits a (la ++ x :: (l1 ++ q :: l2)) b) (hg : w.heap[g]? = some (.cells (knv q p1 p2 d f e0 wd) 118 (0, 0))) (h1 : KT w p1 l1) (h2 : KT w p2 l2) (hb : b ≤ 1073741824) (hda : Dep w pl da) (hdb : Dep w (some ⟨g, 0, none⟩) db) (hd1 : Dep w p1 d1) (hd2 : Dep w p2 d2) (ha30 : da ≤ 1073741824) (hb30 : db ≤ 1073741824) (hgt : (da : Int) - (db : Int) < -1) (hge : (d1 : Int) ≤ (d2 : Int)) :
    Calls Tryd.prog 70 #[.pointer pl, .agg (pcv x), .pointer (some ⟨g, 0, none⟩)] w (KPost w (la ++ x :: (l1 ++ q :: l2))) := by
  have EQ : Hid (la ++ x :: (l1 ++ q :: l2) = (la ++ x :: l1) ++ q :: l2) := by show _ = _; simp
  rw [EQ.out] at hf
  have HA : Hid (∀ W, Below w.heap.size w W → Calls Tryd.prog 73 #[.pointer pl] W fun e w' => e = .returned (.int .i64 (da : Int)) ∧ w' = W) := fun W hW => depth_any _ da W (hda.below hW)
  have HB : Hid (∀ W, Below w.heap.size w W → Calls Tryd.prog 73 #[.pointer (some ⟨g, 0, none⟩)] W fun e w' => e = .returned (.int .i64 (db : Int)) ∧ w' = W) := fun W hW => depth_any _ db W (hdb.below hW)
  have H1 : Hid (∀ W, Below w.heap.size w W → Calls Tryd.prog 73 #[.pointer p1] W fun e w' => e = .returned (.int .i64 (d1 : Int)) ∧ w' = W) := fun W hW => depth_any p1 d1 W (hd1.below hW)
  have H2 : Hid (∀ W, Below w.heap.size w W → Calls Tryd.prog 73 #[.pointer p2] W fun e w' => e = .returned (.int .i64 (d2 : Int)) ∧ w' = W) := fun W hW => depth_any p2 d2 W (hd2.below hW)
  have T1 : Hid (∀ W, Below w.heap.size w W → Calls Tryd.prog 69 #[.pointer pl, .agg (pcv x), .pointer p1] W (KPost W (la ++ x :: l1))) := fun W hW => tie_any pl p1 la l1 x a q.at' W (hr.below hW) (h1.below hW) (fits_cut.1 hf).1 (by have := (fits_cut.1 hf).2.2.le; have : q.stop = q.at' + q.n := rfl; omega)
  have T2 : Hid (∀ W p, Below w.heap.size w W → KT W p (la ++ x :: l1) → Calls Tryd.prog 69 #[.pointer p, .agg (pcv q), .pointer p2] W (KPost W ((la ++ x :: l1) ++ q :: l2))) := fun W p hW hp => tie_any p p2 _ l2 q a b W hp (h2.below hW) hf hb
  obtain ⟨V, hV⟩ : ∃ V, V = w.alloc (.cells #[.int .i64 (x.at' : Int), .int .i64 (x.n : Int), .int .i64 (x.count : Int), .int .u64 (x.tag : Int), .int .u8 (x.st : Int)] 103) := ⟨_, rfl⟩
  have HV : Hid (Below w.heap.size w V) := by show Below _ _ _; rw [hV]; exact Below.alloc (Below.refl _ _) (Nat.le_refl _) _
  have HVS : Hid (V.heap.size = w.heap.size + 1) := by show _ = _; rw [hV]; simp
  have HC : Hid (∀ W, Below V.heap.size V W → W.cell? ⟨w.heap.size, 0, none⟩ = some (.int .i64 (x.at' : Int)) ∧ W.cell? ⟨w.heap.size, 1, none⟩ = some (.int .i64 (x.n : Int)) ∧ W.cell? ⟨w.heap.size, 2, none⟩ = some (.int .i64 (x.count : Int)) ∧ W.cell? ⟨w.heap.size, 3, none⟩ = some (.int .u64 (x.tag : Int)) ∧ W.cell? ⟨w.heap.size, 4, none⟩ = some (.int .u8 (x.st : Int)) ∧ W.cell? ⟨g, 0, none⟩ = some (.int .i64 (q.at' : Int)) ∧ W.cell? ⟨g, 1, none⟩ = some (.int .i64 (q.n : Int)) ∧ W.cell? ⟨g, 2, none⟩ = some (.int .i64 (q.count : Int)) ∧ W.cell? ⟨g, 3, none⟩ = some (.int .u64 (q.tag : Int)) ∧ W.cell? ⟨g, 4, none⟩ = some (.int .u8 (q.st : Int)) ∧ W.cell? ⟨g, 5, none⟩ = some (.pointer p1) ∧ W.cell? ⟨g, 6, none⟩ = some (.pointer p2)) := fun W hW => by
    obtain ⟨c0, c1, c2, c3, c4, c5, c6, _⟩ := kn_cells hg
    have hgl := (Array.getElem?_eq_some_iff.1 hg).1
    have key : ∀ i, W.cell? ⟨g, i, none⟩ = w.cell? ⟨g, i, none⟩ := fun i => (hW.cell (p := ⟨g, i, none⟩) (Nat.lt_of_lt_of_le hgl HV.out.size)).trans (HV.out.cell (p := ⟨g, i, none⟩) hgl)
    have kb : ∀ i, W.cell? ⟨w.heap.size, i, none⟩ = V.cell? ⟨w.heap.size, i, none⟩ := fun i => hW.cell (p := ⟨w.heap.size, i, none⟩) (by rw [HVS.out]; exact Nat.lt_succ_self _)
    refine ⟨(kb 0).trans (by rw [hV]; simp), (kb 1).trans (by rw [hV]; simp), (kb 2).trans (by rw [hV]; simp), (kb 3).trans (by rw [hV]; simp), (kb 4).trans (by rw [hV]; simp), (key 0).trans c0, (key 1).trans c1, (key 2).trans c2, (key 3).trans c3, (key 4).trans c4, (key 5).trans c5, (key 6).trans c6⟩
  rw [EQ.out]
  clear hr hf h1 h2 hda hdb hd1 hd2 hg
  unfold pcv at T1 T2
  unfold pcv
  have g1 : decide ((1 : Int) < (da : Int) - (db : Int)) = false := decide_eq_false (by omega)
  have g2 : decide ((da : Int) - (db : Int) < -1) = true := decide_eq_true hgt
  obtain ⟨v0, v1, v2, v3, v4, u0, u1, u2, u3, u4, u5, u6⟩ := HC.out V (Below.refl _ _)
  go_enter Tryd.func70, Tryd.ntmps70
  go_wp2_with fail
  rw [← hV]
  clear hV
  go_wp2_with (first | (go_at_call 73; refine (HA.out _ HV.out).mono ?_; clear HA; rintro e w2 ⟨rfl, hw2⟩; rw [hw2]; clear hw2) | (go_at_call 73; refine (HB.out _ HV.out).mono ?_; clear HB; rintro e w2 ⟨rfl, hw2⟩; rw [hw2]; clear hw2))
  go_quiet (fail)
  obtain ⟨V2, hV2⟩ : ∃ V2, V2 = V.drewN nq := ⟨_, rfl⟩
  rw [← hV2]
  have HV2V : Hid (Below V.heap.size V V2) := by show Below _ _ _; rw [hV2]; exact drewN_bel _ _ _
  have HV2 : Hid (Below w.heap.size w V2) := HV.out.trans (HV2V.out.mono HV.out.size)
  clear hV2 v0 v1 v2 v3 v4 u0 u1 u2 u3 u4 u5 u6
  obtain ⟨s0, s1, s2, s3, s4, s5, s6, s7, s8, s9, s10, s11⟩ := HC.out V2 HV2V.out
  go_wp2_with fail
  go_quiet (first | (go_at_call_of 73 (Value.pointer p1); exact Calls.quiet_of_same (H1.out _ (HV2.out.trans (drewN_bel _ _ _)))) | (go_at_call_of 73 (Value.pointer p2); exact Calls.quiet_of_same (H2.out _ (HV2.out.trans (drewN_bel _ _ _)))))
  go_wp2_with fail
  go_region_held3 (fun w' => w'.cell? ⟨w.heap.size, 0, none⟩ = some (.int .i64 (x.at' : Int)) ∧ w'.cell? ⟨w.heap.size, 1, none⟩ = some (.int .i64 (x.n : Int)) ∧ w'.cell? ⟨w.heap.size, 2, none⟩ = some (.int .i64 (x.count : Int)) ∧ w'.cell? ⟨w.heap.size, 3, none⟩ = some (.int .u64 (x.tag : Int)) ∧ w'.cell? ⟨w.heap.size, 4, none⟩ = some (.int .u8 (x.st : Int)) ∧ w'.cell? ⟨g, 0, none⟩ = some (.int .i64 (q.at' : Int)) ∧ w'.cell? ⟨g, 1, none⟩ = some (.int .i64 (q.n : Int)) ∧ w'.cell? ⟨g, 2, none⟩ = some (.int .i64 (q.count : Int)) ∧ w'.cell? ⟨g, 3, none⟩ = some (.int .u64 (q.tag : Int)) ∧ w'.cell? ⟨g, 4, none⟩ = some (.int .u8 (q.st : Int)) ∧ w'.cell? ⟨g, 5, none⟩ = some (.pointer p1) ∧ w'.cell? ⟨g, 6, none⟩ = some (.pointer p2)) (simp [*]) (first
    | (go_at_call_of 69 (Value.pointer pl); refine (T1.out _ (Below.drew (HV2.out.trans (drewN_bel _ _ _)))).mono ?_; clear T1; rintro e w3 ⟨t1, rfl, hk1, hb3⟩; have HB3V : Hid (Below V.heap.size V w3) := Below.trans (Below.drew (HV2V.out.trans (drewN_bel _ _ _))) (hb3.mono HV2V.out.size); have HB3 : Hid (Below w.heap.size w w3) := HV.out.trans (HB3V.out.mono HV.out.size); have HK1 := hid_mk hk1; obtain ⟨y0, y1, y2, y3, y4, y5, y6, y7, y8, y9, y10, y11⟩ := HC.out w3 HB3V.out; clear hk1 hb3)
    | (go_at_call 69; refine (T2.out _ _ HB3.out HK1.out).mono ?_; clear T2; rintro e w4 ⟨t2, rfl, hk2, hb4⟩; have HB4V : Hid (Below V.heap.size V w4) := HB3V.out.trans (hb4.mono HB3V.out.size); have HB4 : Hid (Below w.heap.size w w4) := HB3.out.trans (hb4.mono HB3.out.size); have HK2 := hid_mk hk2; obtain ⟨z0, z1, z2, z3, z4, z5, z6, z7, z8, z9, z10, z11⟩ := HC.out w4 HB4V.out; clear hk2 hb4))
  go_wp2_with fail
  go_ret
  exact ⟨_, rfl, HK2.out, HB4.out⟩
end Go.Proofs.YtcpdnalmoaojlaaDoor
