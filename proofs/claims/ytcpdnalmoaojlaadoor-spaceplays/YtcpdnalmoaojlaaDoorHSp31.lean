import Derived.Test.YtcpdnalmoaojlaaDoorHSp11b
import Derived.Test.YtcpdnalmoaojlaaDoorHSp30

/-
  without.
-/
namespace Go.Proofs.YtcpdnalmoaojlaaDoor
open Go.ChangeShapes Go.WideShapes Go.ChangeAt Go.RowKit
set_option linter.unusedVariables false
set_option linter.unusedSimpArgs false

set_option maxRecDepth 100000 in
set_option maxHeartbeats 4000000 in
theorem wo_lt (a : Nat) (q : Pc) (g : Nat) (p1 p2 : Option Addr) (l1 L : List Pc) (d f e0 : Nat) (wd : Int) (w : World) (hg : w.heap[g]? = some (.cells (knv q p1 p2 d f e0 wd) 118 (0, 0))) (hlt : a < q.at') (HW : Hid (∀ W, Below w.heap.size w W → Calls Tryd.prog 60 #[.pointer p1, .int .i64 (a : Int)] W (KPost W l1))) (HQ : Hid (∀ W t, Below w.heap.size w W → KT W t l1 → Calls Tryd.prog 70 #[.pointer t, .agg (pcv q), .pointer p2] W (KPost W L))) :
    Calls Tryd.prog 60 #[.pointer (some ⟨g, 0, none⟩), .int .i64 (a : Int)] w (KPost w L) := by
  have HC : Hid (∀ W, Below w.heap.size w W → W.cell? ⟨g, 0, none⟩ = some (.int .i64 (q.at' : Int)) ∧ W.cell? ⟨g, 1, none⟩ = some (.int .i64 (q.n : Int)) ∧ W.cell? ⟨g, 2, none⟩ = some (.int .i64 (q.count : Int)) ∧ W.cell? ⟨g, 3, none⟩ = some (.int .u64 (q.tag : Int)) ∧ W.cell? ⟨g, 4, none⟩ = some (.int .u8 (q.st : Int)) ∧ W.cell? ⟨g, 5, none⟩ = some (.pointer p1) ∧ W.cell? ⟨g, 6, none⟩ = some (.pointer p2)) := fun W hW => by
    obtain ⟨c0, c1, c2, c3, c4, c5, c6, _⟩ := kn_cells hg
    have hgl := (Array.getElem?_eq_some_iff.1 hg).1
    have key : ∀ i, W.cell? ⟨g, i, none⟩ = w.cell? ⟨g, i, none⟩ := fun i => hW.cell (p := ⟨g, i, none⟩) hgl
    exact ⟨(key 0).trans c0, (key 1).trans c1, (key 2).trans c2, (key 3).trans c3, (key 4).trans c4, (key 5).trans c5, (key 6).trans c6⟩
  have h1 : (a : Int) < (q.at' : Int) := by omega
  clear hg
  unfold pcv at HQ
  obtain ⟨v0, v1, v2, v3, v4, v5, v6⟩ := HC.out w (Below.refl _ _)
  go_enter Tryd.func60, Tryd.ntmps60
  go_wp2_with fail
  go_region_held3 (fun w' => w'.cell? ⟨g, 0, none⟩ = some (.int .i64 (q.at' : Int)) ∧ w'.cell? ⟨g, 1, none⟩ = some (.int .i64 (q.n : Int)) ∧ w'.cell? ⟨g, 2, none⟩ = some (.int .i64 (q.count : Int)) ∧ w'.cell? ⟨g, 3, none⟩ = some (.int .u64 (q.tag : Int)) ∧ w'.cell? ⟨g, 4, none⟩ = some (.int .u8 (q.st : Int)) ∧ w'.cell? ⟨g, 5, none⟩ = some (.pointer p1) ∧ w'.cell? ⟨g, 6, none⟩ = some (.pointer p2)) (simp [*]) (first
    | (go_at_call 60; refine (HW.out _ (Below.drew (Below.refl _ _))).mono ?_; clear HW; rintro e w3 ⟨t1, rfl, hk1, hb3⟩; have HB3 : Hid (Below w.heap.size w w3) := (Below.drew (Below.refl _ _)).trans hb3; have HK1 := hid_mk hk1; obtain ⟨y0, y1, y2, y3, y4, y5, y6⟩ := HC.out w3 HB3.out; clear hk1 hb3)
    | (go_at_call 70; refine (HQ.out _ _ HB3.out HK1.out).mono ?_; clear HQ; rintro e w4 ⟨t2, rfl, hk2, hb4⟩; have HB4 : Hid (Below w.heap.size w w4) := HB3.out.trans (hb4.mono HB3.out.size); have HK2 := hid_mk hk2; obtain ⟨z0, z1, z2, z3, z4, z5, z6⟩ := HC.out w4 HB4.out; clear hk2 hb4))
  go_wp2_with fail
  go_ret
  exact ⟨_, rfl, HK2.out, HB4.out⟩
set_option maxRecDepth 100000 in
set_option maxHeartbeats 4000000 in
theorem wo_gt (a : Nat) (q : Pc) (g : Nat) (p1 p2 : Option Addr) (l1 L : List Pc) (d f e0 : Nat) (wd : Int) (w : World) (hg : w.heap[g]? = some (.cells (knv q p1 p2 d f e0 wd) 118 (0, 0))) (hlt : q.at' < a) (HW : Hid (∀ W, Below w.heap.size w W → Calls Tryd.prog 60 #[.pointer p2, .int .i64 (a : Int)] W (KPost W l1))) (HQ : Hid (∀ W t, Below w.heap.size w W → KT W t l1 → Calls Tryd.prog 70 #[.pointer p1, .agg (pcv q), .pointer t] W (KPost W L))) :
    Calls Tryd.prog 60 #[.pointer (some ⟨g, 0, none⟩), .int .i64 (a : Int)] w (KPost w L) := by
  have HC : Hid (∀ W, Below w.heap.size w W → W.cell? ⟨g, 0, none⟩ = some (.int .i64 (q.at' : Int)) ∧ W.cell? ⟨g, 1, none⟩ = some (.int .i64 (q.n : Int)) ∧ W.cell? ⟨g, 2, none⟩ = some (.int .i64 (q.count : Int)) ∧ W.cell? ⟨g, 3, none⟩ = some (.int .u64 (q.tag : Int)) ∧ W.cell? ⟨g, 4, none⟩ = some (.int .u8 (q.st : Int)) ∧ W.cell? ⟨g, 5, none⟩ = some (.pointer p1) ∧ W.cell? ⟨g, 6, none⟩ = some (.pointer p2)) := fun W hW => by
    obtain ⟨c0, c1, c2, c3, c4, c5, c6, _⟩ := kn_cells hg
    have hgl := (Array.getElem?_eq_some_iff.1 hg).1
    have key : ∀ i, W.cell? ⟨g, i, none⟩ = w.cell? ⟨g, i, none⟩ := fun i => hW.cell (p := ⟨g, i, none⟩) hgl
    exact ⟨(key 0).trans c0, (key 1).trans c1, (key 2).trans c2, (key 3).trans c3, (key 4).trans c4, (key 5).trans c5, (key 6).trans c6⟩
  have h1 : (q.at' : Int) < (a : Int) := by omega
  have h2 : ¬ (a : Int) < (q.at' : Int) := by omega
  have h3 : ¬ a < q.at' := by omega
  clear hg
  unfold pcv at HQ
  obtain ⟨v0, v1, v2, v3, v4, v5, v6⟩ := HC.out w (Below.refl _ _)
  go_enter Tryd.func60, Tryd.ntmps60
  go_wp2_with fail
  go_region_held3 (fun w' => w'.cell? ⟨g, 0, none⟩ = some (.int .i64 (q.at' : Int)) ∧ w'.cell? ⟨g, 1, none⟩ = some (.int .i64 (q.n : Int)) ∧ w'.cell? ⟨g, 2, none⟩ = some (.int .i64 (q.count : Int)) ∧ w'.cell? ⟨g, 3, none⟩ = some (.int .u64 (q.tag : Int)) ∧ w'.cell? ⟨g, 4, none⟩ = some (.int .u8 (q.st : Int)) ∧ w'.cell? ⟨g, 5, none⟩ = some (.pointer p1) ∧ w'.cell? ⟨g, 6, none⟩ = some (.pointer p2)) (simp [*]) (first
    | (go_at_call 60; refine (HW.out _ (Below.drew (Below.refl _ _))).mono ?_; clear HW; rintro e w3 ⟨t1, rfl, hk1, hb3⟩; have HB3 : Hid (Below w.heap.size w w3) := (Below.drew (Below.refl _ _)).trans hb3; have HK1 := hid_mk hk1; obtain ⟨y0, y1, y2, y3, y4, y5, y6⟩ := HC.out w3 HB3.out; clear hk1 hb3)
    | (go_at_call 70; refine (HQ.out _ _ HB3.out HK1.out).mono ?_; clear HQ; rintro e w4 ⟨t2, rfl, hk2, hb4⟩; have HB4 : Hid (Below w.heap.size w w4) := HB3.out.trans (hb4.mono HB3.out.size); have HK2 := hid_mk hk2; obtain ⟨z0, z1, z2, z3, z4, z5, z6⟩ := HC.out w4 HB4.out; clear hk2 hb4))
  go_wp2_with fail
  go_ret
  exact ⟨_, rfl, HK2.out, HB4.out⟩
set_option maxRecDepth 100000 in
theorem wo_none (a : Nat) (w : World) : Calls Tryd.prog 60 #[.pointer none, .int .i64 (a : Int)] w (KPost w []) := by
  go_enter Tryd.func60, Tryd.ntmps60
  go_wp2_with fail
  go_ret
  exact ⟨none, rfl, KT.nil _, Below.refl _ _⟩
set_option maxRecDepth 100000 in
theorem wo_last (q : Pc) (g : Nat) (p1 : Option Addr) (l1 : List Pc) (d f e0 : Nat) (wd : Int) (w : World) (hg : w.heap[g]? = some (.cells (knv q p1 none d f e0 wd) 118 (0, 0))) (hk : KT w p1 l1) :
    Calls Tryd.prog 60 #[.pointer (some ⟨g, 0, none⟩), .int .i64 (q.at' : Int)] w (KPost w l1) := by
  obtain ⟨c0, c1, c2, c3, c4, c5, c6, _⟩ := kn_cells hg
  have HK := hid_mk hk
  clear hk hg
  go_enter Tryd.func60, Tryd.ntmps60
  go_wp2_with fail
  go_ret
  exact ⟨p1, rfl, HK.out, Below.refl _ _⟩
set_option maxRecDepth 100000 in
set_option maxHeartbeats 4000000 in
theorem wo_mid (q y : Pc) (g h r : Nat) (p1 : Option Addr) (l1 L : List Pc) (F : Int) (d f e0 : Nat) (wd : Int) (w : World) (hg : w.heap[g]? = some (.cells (knv q p1 (some ⟨h, 0, none⟩) d f e0 wd) 118 (0, 0))) (hh : w.cell? ⟨h, 8, none⟩ = some (.int .i64 F)) (hhl : h < w.heap.size)
    (hr : ∃ pl pr d f e wd, w.heap[r]? = some (.cells (knv y pl pr d f e wd) 118 (0, 0))) (HF : Hid (∀ W, Below w.heap.size w W → Calls Tryd.prog 72 #[.pointer (some ⟨h, 0, none⟩), .int .i64 F] W fun e w' => e = .returned (.pointer (some ⟨r, 0, none⟩)) ∧ w' = W))
    (HW : Hid (∀ W, Below w.heap.size w W → Calls Tryd.prog 60 #[.pointer (some ⟨h, 0, none⟩), .int .i64 (y.at' : Int)] W (KPost W l1))) (HQ : Hid (∀ W t, Below w.heap.size w W → KT W t l1 → Calls Tryd.prog 70 #[.pointer p1, .agg (pcv y), .pointer t] W (KPost W L))) :
    Calls Tryd.prog 60 #[.pointer (some ⟨g, 0, none⟩), .int .i64 (q.at' : Int)] w (KPost w L) := by
  have HC : Hid (∀ W, Below w.heap.size w W → W.cell? ⟨g, 5, none⟩ = some (.pointer p1) ∧ W.cell? ⟨g, 6, none⟩ = some (.pointer (some ⟨h, 0, none⟩)) ∧ W.cell? ⟨h, 8, none⟩ = some (.int .i64 F) ∧ W.cell? ⟨r, 0, none⟩ = some (.int .i64 (y.at' : Int)) ∧ W.cell? ⟨r, 1, none⟩ = some (.int .i64 (y.n : Int)) ∧ W.cell? ⟨r, 2, none⟩ = some (.int .i64 (y.count : Int)) ∧ W.cell? ⟨r, 3, none⟩ = some (.int .u64 (y.tag : Int)) ∧ W.cell? ⟨r, 4, none⟩ = some (.int .u8 (y.st : Int))) := fun W hW => by
    obtain ⟨c0, c1, c2, c3, c4, c5, c6, _⟩ := kn_cells hg
    have hgl := (Array.getElem?_eq_some_iff.1 hg).1
    have key : ∀ i, W.cell? ⟨g, i, none⟩ = w.cell? ⟨g, i, none⟩ := fun i => hW.cell (p := ⟨g, i, none⟩) hgl
    obtain ⟨_, _, _, _, _, _, hr'⟩ := hr
    obtain ⟨k0, k1, k2, k3, k4, _⟩ := kn_cells hr'
    have hrl := (Array.getElem?_eq_some_iff.1 hr').1
    have kez : ∀ i, W.cell? ⟨r, i, none⟩ = w.cell? ⟨r, i, none⟩ := fun i => hW.cell (p := ⟨r, i, none⟩) hrl
    exact ⟨(key 5).trans c5, (key 6).trans c6, (hW.cell (p := ⟨h, 8, none⟩) hhl).trans hh, (kez 0).trans k0, (kez 1).trans k1, (kez 2).trans k2, (kez 3).trans k3, (kez 4).trans k4⟩
  have c0 := (kn_cells hg).1
  have HAL : Hid (∀ A, Below w.heap.size w (w.alloc A)) := fun A => Below.alloc (Below.refl _ _) (Nat.le_refl _) _
  have hgl := (Array.getElem?_eq_some_iff.1 hg).1
  have hrl : r < w.heap.size := by obtain ⟨_, _, _, _, _, _, hr'⟩ := hr; exact (Array.getElem?_eq_some_iff.1 hr').1
  obtain ⟨V, hV⟩ : ∃ V, V = w.alloc (.cells #[.int .i64 (y.at' : Int), .int .i64 (y.n : Int), .int .i64 (y.count : Int), .int .u64 (y.tag : Int), .int .u8 (y.st : Int)] 103) := ⟨_, rfl⟩
  have HV : Hid (Below w.heap.size w V) := by show Below _ _ _; rw [hV]; exact HAL.out _
  have HVS : Hid (V.heap.size = w.heap.size + 1) := by show _ = _; rw [hV]; simp
  have HBX : Hid (∀ W, Below V.heap.size V W → W.cell? ⟨w.heap.size, 0, none⟩ = some (.int .i64 (y.at' : Int)) ∧ W.cell? ⟨w.heap.size, 1, none⟩ = some (.int .i64 (y.n : Int)) ∧ W.cell? ⟨w.heap.size, 2, none⟩ = some (.int .i64 (y.count : Int)) ∧ W.cell? ⟨w.heap.size, 3, none⟩ = some (.int .u64 (y.tag : Int)) ∧ W.cell? ⟨w.heap.size, 4, none⟩ = some (.int .u8 (y.st : Int))) := fun W hW => by
    have hb : W.heap[w.heap.size]? = some (.cells #[.int .i64 (y.at' : Int), .int .i64 (y.n : Int), .int .i64 (y.count : Int), .int .u64 (y.tag : Int), .int .u8 (y.st : Int)] 103 (0, 0)) := (hW.block _ (by rw [HVS.out]; omega)).trans (by rw [hV]; exact heap_newT _ _ _ rfl)
    exact ⟨by simp [World.cell?, hb], by simp [World.cell?, hb], by simp [World.cell?, hb], by simp [World.cell?, hb], by simp [World.cell?, hb]⟩
  clear hg hr hh
  unfold pcv at HQ
  obtain ⟨v0, v1, v2, v3, v4, v5, v6, v7⟩ := HC.out w (Below.refl _ _)
  go_enter Tryd.func60, Tryd.ntmps60
  go_wp2_with fail
  go_region_held3 (fun w' => w'.cell? ⟨g, 5, none⟩ = some (.pointer p1) ∧ w'.cell? ⟨g, 6, none⟩ = some (.pointer (some ⟨h, 0, none⟩)) ∧ w'.cell? ⟨h, 8, none⟩ = some (.int .i64 F) ∧ w'.cell? ⟨r, 0, none⟩ = some (.int .i64 (y.at' : Int)) ∧ w'.cell? ⟨r, 1, none⟩ = some (.int .i64 (y.n : Int)) ∧ w'.cell? ⟨r, 2, none⟩ = some (.int .i64 (y.count : Int)) ∧ w'.cell? ⟨r, 3, none⟩ = some (.int .u64 (y.tag : Int)) ∧ w'.cell? ⟨r, 4, none⟩ = some (.int .u8 (y.st : Int))) (simp [*, World.cell?_alloc_at, World.cell?_alloc_past, World.cell?_alloc_some, World.cell?_setCell_far]) (first
    | (go_at_call 72; refine (HF.out _ (Below.drew (Below.refl _ _))).mono ?_; clear HF; rintro e w3 ⟨rfl, hw3⟩; rw [hw3]; clear hw3)
    | (go_at_call 72; refine (HF.out _ (Below.drew (HAL.out _))).mono ?_; clear HF; rintro e w3 ⟨rfl, hw3⟩; rw [hw3]; clear hw3))
  all_goals
    rw [← hV]
    clear hV v0 v1 v2 v3 v4 v5 v6 v7 c0
    obtain ⟨u0, u1, u2, u3, u4⟩ := HBX.out V (Below.refl _ _)
    obtain ⟨s5, s6, _⟩ := HC.out V HV.out
    go_wp2_with fail
    go_region_held3 (fun w' => w'.cell? ⟨g, 5, none⟩ = some (.pointer p1) ∧ w'.cell? ⟨g, 6, none⟩ = some (.pointer (some ⟨h, 0, none⟩)) ∧ w'.cell? ⟨w.heap.size, 0, none⟩ = some (.int .i64 (y.at' : Int)) ∧ w'.cell? ⟨w.heap.size, 1, none⟩ = some (.int .i64 (y.n : Int)) ∧ w'.cell? ⟨w.heap.size, 2, none⟩ = some (.int .i64 (y.count : Int)) ∧ w'.cell? ⟨w.heap.size, 3, none⟩ = some (.int .u64 (y.tag : Int)) ∧ w'.cell? ⟨w.heap.size, 4, none⟩ = some (.int .u8 (y.st : Int))) (simp [*]) (first
      | (go_at_call 60; refine (HW.out _ (Below.drew (Below.drew HV.out))).mono ?_; clear HW; rintro e w3 ⟨t1, rfl, hk1, hb3⟩; have HB3V : Hid (Below V.heap.size V w3) := (Below.drew (Below.drew (Below.refl _ _))).trans hb3; have HB3 : Hid (Below w.heap.size w w3) := HV.out.trans (HB3V.out.mono HV.out.size); have HK1 := hid_mk hk1; obtain ⟨y0, y1, y2, y3, y4⟩ := HBX.out w3 HB3V.out; obtain ⟨y5, y6, _⟩ := HC.out w3 HB3.out; clear hk1 hb3)
      | (go_at_call 70; refine (HQ.out _ _ HB3.out HK1.out).mono ?_; clear HQ; rintro e w4 ⟨t2, rfl, hk2, hb4⟩; have HB4V : Hid (Below V.heap.size V w4) := HB3V.out.trans (hb4.mono HB3V.out.size); have HB4 : Hid (Below w.heap.size w w4) := HB3.out.trans (hb4.mono HB3.out.size); have HK2 := hid_mk hk2; obtain ⟨z0, z1, z2, z3, z4⟩ := HBX.out w4 HB4V.out; obtain ⟨z5, z6, _⟩ := HC.out w4 HB4.out; clear hk2 hb4))
    go_wp2_with fail
    go_ret
    exact ⟨_, rfl, HK2.out, HB4.out⟩
end Go.Proofs.YtcpdnalmoaojlaaDoor
