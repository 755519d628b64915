import Derived.Test.YtcpdnalmoaojlaaDoorHSp1
import Derived.Deep.RegionHeld3
import Derived.Laws.Cover1

/-
  tie.
-/
namespace Go.Proofs.YtcpdnalmoaojlaaDoor
open Go.ChangeShapes Go.WideShapes Go.ChangeAt Go.RowKit
set_option linter.unusedVariables false
set_option linter.unusedSimpArgs false

/-- What tie leaves: a new knot. -/
def TieW (w : World) (x : Pc) (pl pr : Option Addr) (d f e : Nat) (wd : Int) (ev : Ending) (w' : World) : Prop := ∃ g, ev = .returned (.pointer (some ⟨g, 0, none⟩)) ∧ w.heap.size ≤ g ∧ w'.heap[g]? = some (.cells (knv x pl pr d f e wd) 118 (0, 0)) ∧ Below w.heap.size w w'
theorem heap_oldT (W : World) (o : Obj) (n : Nat) (hn : n < W.heap.size) : (W.alloc o).heap[n]? = W.heap[n]? := by
  show (W.heap.push o)[n]? = _
  rw [Array.getElem?_push, if_neg (Nat.ne_of_lt hn)]
theorem heap_newT (W : World) (o : Obj) (n : Nat) (hn : n = W.heap.size) : (W.alloc o).heap[n]? = some o := by
  subst hn
  show (W.heap.push o)[W.heap.size]? = _
  simp
set_option maxRecDepth 100000 in
set_option maxHeartbeats 4000000 in
theorem tie_nn (x : Pc) (w : World) (h : x.stop ≤ 1073741824) : Calls Tryd.prog 69 #[.pointer none, .agg (pcv x), .pointer none] w (TieW w x none none 1 x.at' x.stop 0) := by
  have HE : Hid (∀ W : World, Calls Tryd.prog 64 #[.agg (pcv x)] W fun e w' => e = .returned (.int .i64 (x.stop : Int)) ∧ w' = W.alloc (.cells (pcv x) 103)) := fun W => end_any x W h
  have HDL : Hid (∀ W : World, Calls Tryd.prog 73 #[.pointer none] W fun e w' => e = .returned (.int .i64 (0 : Int)) ∧ w' = W) := fun W => depth_any none 0 W (.inl ⟨rfl, rfl⟩)
  have HDR : Hid (∀ W : World, Calls Tryd.prog 73 #[.pointer none] W fun e w' => e = .returned (.int .i64 (0 : Int)) ∧ w' = W) := fun W => depth_any none 0 W (.inl ⟨rfl, rfl⟩)
  unfold pcv at HE
  unfold pcv
  obtain ⟨st, hst⟩ : ∃ st, st = x.stop := ⟨_, rfl⟩
  rw [← hst] at HE h
  have hat : x.at' ≤ 1073741824 := by have : x.stop = x.at' + x.n := rfl; omega
  rw [← hst]
  clear hst
  go_enter Tryd.func69, Tryd.ntmps69
  go_wp2
  go_region_held3 (fun w' => w'.cell? ⟨w.heap.size, 0, none⟩ = some (.int .i64 (x.at' : Int)) ∧ w'.cell? ⟨w.heap.size, 1, none⟩ = some (.int .i64 (x.n : Int)) ∧ w'.cell? ⟨w.heap.size, 2, none⟩ = some (.int .i64 (x.count : Int)) ∧ w'.cell? ⟨w.heap.size, 3, none⟩ = some (.int .u64 (x.tag : Int)) ∧ w'.cell? ⟨w.heap.size, 4, none⟩ = some (.int .u8 (x.st : Int))) (simp [*, World.cell?_alloc_at, World.cell?_alloc_past, World.cell?_alloc_some, World.cell?_setCell_far]) (first | (go_at_call 64; refine (HE.out _).mono ?_; rintro e w3 ⟨rfl, rfl⟩))
  all_goals go_wp2_with (first | (go_at_call_of 73 (Value.pointer none); refine (HDL.out _).mono ?_; rintro e w4 ⟨rfl, rfl⟩) | (go_at_call_of 73 (Value.pointer none); refine (HDR.out _).mono ?_; rintro e w4 ⟨rfl, rfl⟩))
  all_goals go_ret
  all_goals
    refine ⟨w.heap.size + 1 + 1, rfl, by omega, (heap_newT _ _ _ (by simp)).trans ?_, (by repeat (first | exact Below.refl _ _ | apply Below.drew | (refine Below.alloc ?_ (by simp <;> omega) _)))⟩
    unfold knv
    simp only [Option.some.injEq, Obj.cells.injEq, Array.mk.injEq, List.cons.injEq, Value.int.injEq, Value.pointer.injEq, true_and, and_true]
    first | rfl | (refine ⟨?_, ?_⟩ <;> omega) | omega
set_option maxRecDepth 100000 in
set_option maxHeartbeats 4000000 in
theorem tie_kn (x : Pc) (w : World) (h : x.stop ≤ 1073741824) (b1 : Nat) (lf le ld : Nat) (lv : Int) (c7l : w.cell? ⟨b1, 7, none⟩ = some (.int .i64 (ld : Int))) (c8l : w.cell? ⟨b1, 8, none⟩ = some (.int .i64 (lf : Int))) (c9l : w.cell? ⟨b1, 9, none⟩ = some (.int .i64 (le : Int))) (c10l : w.cell? ⟨b1, 10, none⟩ = some (.int .i64 lv)) (hbl : b1 < w.heap.size) (h1l : lf ≤ 1073741824) (h2l : le ≤ 1073741824) (h3l : 0 ≤ lv) (h4l : lv ≤ 1073741824) (h5l : 1 ≤ ld) (h6l : ld ≤ 1073741824) : Calls Tryd.prog 69 #[.pointer (some ⟨b1, 0, none⟩), .agg (pcv x), .pointer none] w (TieW w x (some ⟨b1, 0, none⟩) none (1 + ld) lf x.stop (max lv ((x.at' : Int) - (le : Int)))) := by
  have HE : Hid (∀ W : World, Calls Tryd.prog 64 #[.agg (pcv x)] W fun e w' => e = .returned (.int .i64 (x.stop : Int)) ∧ w' = W.alloc (.cells (pcv x) 103)) := fun W => end_any x W h
  have HDL : Hid (∀ W : World, Below w.heap.size w W → Calls Tryd.prog 73 #[.pointer (some ⟨b1, 0, none⟩)] W fun e w' => e = .returned (.int .i64 (ld : Int)) ∧ w' = W) := fun W hW => depth_any _ ld W ((show Dep w (some ⟨b1, 0, none⟩) ld from .inr ⟨b1, rfl, h5l, c7l, hbl⟩).below hW)
  have n1L : b1 < w.heap.size + 1 := by omega
  have n2L : b1 < w.heap.size + 1 + 1 := by omega
  have n3L : b1 < w.heap.size + 1 + 1 + 1 := by omega
  have n4L : w.heap.size + 1 + 1 ≠ b1 := by omega
  have HDR : Hid (∀ W : World, Calls Tryd.prog 73 #[.pointer none] W fun e w' => e = .returned (.int .i64 (0 : Int)) ∧ w' = W) := fun W => depth_any none 0 W (.inl ⟨rfl, rfl⟩)
  unfold pcv at HE
  unfold pcv
  obtain ⟨st, hst⟩ : ∃ st, st = x.stop := ⟨_, rfl⟩
  rw [← hst] at HE h
  have hat : x.at' ≤ 1073741824 := by have : x.stop = x.at' + x.n := rfl; omega
  rw [← hst]
  clear hst
  go_enter Tryd.func69, Tryd.ntmps69
  go_wp2
  go_region_held3 (fun w' => w'.cell? ⟨w.heap.size, 0, none⟩ = some (.int .i64 (x.at' : Int)) ∧ w'.cell? ⟨w.heap.size, 1, none⟩ = some (.int .i64 (x.n : Int)) ∧ w'.cell? ⟨w.heap.size, 2, none⟩ = some (.int .i64 (x.count : Int)) ∧ w'.cell? ⟨w.heap.size, 3, none⟩ = some (.int .u64 (x.tag : Int)) ∧ w'.cell? ⟨w.heap.size, 4, none⟩ = some (.int .u8 (x.st : Int))) (simp [*, World.cell?_alloc_at, World.cell?_alloc_past, World.cell?_alloc_some, World.cell?_setCell_far]) (first | (go_at_call 64; refine (HE.out _).mono ?_; rintro e w3 ⟨rfl, rfl⟩))
  go_wp2
  go_region_held3 (fun w' => w'.cell? ⟨w.heap.size, 0, none⟩ = some (.int .i64 (x.at' : Int)) ∧ w'.cell? ⟨w.heap.size, 1, none⟩ = some (.int .i64 (x.n : Int)) ∧ w'.cell? ⟨w.heap.size, 2, none⟩ = some (.int .i64 (x.count : Int)) ∧ w'.cell? ⟨w.heap.size, 3, none⟩ = some (.int .u64 (x.tag : Int)) ∧ w'.cell? ⟨w.heap.size, 4, none⟩ = some (.int .u8 (x.st : Int)) ∧ w'.cell? ⟨b1, 8, none⟩ = some (.int .i64 (lf : Int)) ∧ w'.cell? ⟨b1, 9, none⟩ = some (.int .i64 (le : Int)) ∧ w'.cell? ⟨b1, 10, none⟩ = some (.int .i64 lv)) (simp [*, World.cell?_alloc_at, World.cell?_alloc_past, World.cell?_alloc_some, World.cell?_setCell_far]) (fail)
  all_goals go_wp2_with (first | (go_at_call_of 73 (Value.pointer (some ⟨b1, 0, none⟩)); refine (HDL.out _ (by repeat (first | exact Below.refl _ _ | apply Below.drew | (refine Below.alloc ?_ (by simp <;> omega) _)))).mono ?_; rintro e w4 ⟨rfl, rfl⟩) | (go_at_call_of 73 (Value.pointer none); refine (HDR.out _).mono ?_; rintro e w4 ⟨rfl, rfl⟩))
  all_goals go_ret
  all_goals
    refine ⟨w.heap.size + 1 + 1, rfl, by omega, (heap_newT _ _ _ (by simp)).trans ?_, (by repeat (first | exact Below.refl _ _ | apply Below.drew | (refine Below.alloc ?_ (by simp <;> omega) _)))⟩
    unfold knv
    simp only [Option.some.injEq, Obj.cells.injEq, Array.mk.injEq, List.cons.injEq, Value.int.injEq, Value.pointer.injEq, true_and, and_true]
    first | rfl | (refine ⟨?_, ?_⟩ <;> omega) | omega
set_option maxRecDepth 100000 in
set_option maxHeartbeats 4000000 in
theorem tie_nk (x : Pc) (w : World) (h : x.stop ≤ 1073741824) (b2 : Nat) (rf re rd : Nat) (rv : Int) (c7r : w.cell? ⟨b2, 7, none⟩ = some (.int .i64 (rd : Int))) (c8r : w.cell? ⟨b2, 8, none⟩ = some (.int .i64 (rf : Int))) (c9r : w.cell? ⟨b2, 9, none⟩ = some (.int .i64 (re : Int))) (c10r : w.cell? ⟨b2, 10, none⟩ = some (.int .i64 rv)) (hbr : b2 < w.heap.size) (h1r : rf ≤ 1073741824) (h2r : re ≤ 1073741824) (h3r : 0 ≤ rv) (h4r : rv ≤ 1073741824) (h5r : 1 ≤ rd) (h6r : rd ≤ 1073741824) : Calls Tryd.prog 69 #[.pointer none, .agg (pcv x), .pointer (some ⟨b2, 0, none⟩)] w (TieW w x none (some ⟨b2, 0, none⟩) (1 + rd) x.at' re (max (max 0 rv) ((rf : Int) - (x.stop : Int)))) := by
  have HE : Hid (∀ W : World, Calls Tryd.prog 64 #[.agg (pcv x)] W fun e w' => e = .returned (.int .i64 (x.stop : Int)) ∧ w' = W.alloc (.cells (pcv x) 103)) := fun W => end_any x W h
  have HDL : Hid (∀ W : World, Calls Tryd.prog 73 #[.pointer none] W fun e w' => e = .returned (.int .i64 (0 : Int)) ∧ w' = W) := fun W => depth_any none 0 W (.inl ⟨rfl, rfl⟩)
  have HDR : Hid (∀ W : World, Below w.heap.size w W → Calls Tryd.prog 73 #[.pointer (some ⟨b2, 0, none⟩)] W fun e w' => e = .returned (.int .i64 (rd : Int)) ∧ w' = W) := fun W hW => depth_any _ rd W ((show Dep w (some ⟨b2, 0, none⟩) rd from .inr ⟨b2, rfl, h5r, c7r, hbr⟩).below hW)
  have n1R : b2 < w.heap.size + 1 := by omega
  have n2R : b2 < w.heap.size + 1 + 1 := by omega
  have n3R : b2 < w.heap.size + 1 + 1 + 1 := by omega
  have n4R : w.heap.size + 1 + 1 ≠ b2 := by omega
  unfold pcv at HE
  unfold pcv
  obtain ⟨st, hst⟩ : ∃ st, st = x.stop := ⟨_, rfl⟩
  rw [← hst] at HE h
  have hat : x.at' ≤ 1073741824 := by have : x.stop = x.at' + x.n := rfl; omega
  rw [← hst]
  clear hst
  go_enter Tryd.func69, Tryd.ntmps69
  go_wp2
  go_region_held3 (fun w' => w'.cell? ⟨w.heap.size, 0, none⟩ = some (.int .i64 (x.at' : Int)) ∧ w'.cell? ⟨w.heap.size, 1, none⟩ = some (.int .i64 (x.n : Int)) ∧ w'.cell? ⟨w.heap.size, 2, none⟩ = some (.int .i64 (x.count : Int)) ∧ w'.cell? ⟨w.heap.size, 3, none⟩ = some (.int .u64 (x.tag : Int)) ∧ w'.cell? ⟨w.heap.size, 4, none⟩ = some (.int .u8 (x.st : Int))) (simp [*, World.cell?_alloc_at, World.cell?_alloc_past, World.cell?_alloc_some, World.cell?_setCell_far]) (first | (go_at_call 64; refine (HE.out _).mono ?_; rintro e w3 ⟨rfl, rfl⟩))
  all_goals go_wp2
  refine wp_region_held_drew (S := fun w' => w'.cell? ⟨w.heap.size, 0, none⟩ = some (.int .i64 (x.at' : Int)) ∧ w'.cell? ⟨w.heap.size, 1, none⟩ = some (.int .i64 (x.n : Int)) ∧ w'.cell? ⟨w.heap.size, 2, none⟩ = some (.int .i64 (x.count : Int)) ∧ w'.cell? ⟨w.heap.size, 3, none⟩ = some (.int .u64 (x.tag : Int)) ∧ w'.cell? ⟨w.heap.size, 4, none⟩ = some (.int .u8 (x.st : Int)) ∧ w'.cell? ⟨b2, 8, none⟩ = some (.int .i64 (rf : Int)) ∧ w'.cell? ⟨b2, 9, none⟩ = some (.int .i64 (re : Int)) ∧ w'.cell? ⟨b2, 10, none⟩ = some (.int .i64 rv)) (by kernel_rfl) (by (try dsimp only); simp [*, World.cell?_alloc_at, World.cell?_alloc_past, World.cell?_alloc_some, World.cell?_setCell_far]) (fun hHeld => ?_)
  refine wpAnyH_take (i := 0) (v := ?_) rfl (by kernel_rfl) (by kernel_rfl) (by kernel_rfl) (fun _ _ _ h => h) (Or.inl ⟨by rfl, ?_⟩) (by assumption) ?_
  rotate_left
  · (intro w0 hSw; (try dsimp only at hSw); go_simp; (try with_reducible rfl))
  try simp only [Act.put, List.setIfInBounds_toArray, List.set_cons_zero, List.set_cons_succ]
  refine wpAnyH_take (i := 1) (v := ?_) rfl (by kernel_rfl) (by kernel_rfl) (by kernel_rfl) (fun _ _ _ h => h) (Or.inl ⟨by rfl, ?_⟩) (by assumption) ?_
  rotate_left
  · (intro w0 hSw; (try dsimp only at hSw); go_simp; (try with_reducible rfl))
  try simp only [Act.put, List.setIfInBounds_toArray, List.set_cons_zero, List.set_cons_succ]
  refine wpAnyH_take (i := 2) (v := ?_) rfl (by kernel_rfl) (by kernel_rfl) (by kernel_rfl) (fun _ _ _ h => h) (Or.inl ⟨by rfl, ?_⟩) (by assumption) ?_
  rotate_left
  · (intro w0 hSw; (try dsimp only at hSw); go_simp; (try with_reducible rfl))
  try simp only [Act.put, List.setIfInBounds_toArray, List.set_cons_zero, List.set_cons_succ]
  refine wpAnyH_take (i := 3) (v := ?_) rfl (by kernel_rfl) (by kernel_rfl) (by kernel_rfl) (fun _ _ _ h => h) (Or.inl ⟨by rfl, ?_⟩) (by assumption) ?_
  rotate_left
  · (intro w0 hSw; (try dsimp only at hSw); go_simp; (try with_reducible rfl))
  try simp only [Act.put, List.setIfInBounds_toArray, List.set_cons_zero, List.set_cons_succ]
  refine wpAnyH_take (i := 5) (v := ?_) rfl (by kernel_rfl) (by kernel_rfl) (by kernel_rfl) (fun _ _ _ h => h) (Or.inl ⟨by rfl, ?_⟩) (by assumption) ?_
  rotate_left
  · (intro w0 hSw; (try dsimp only at hSw); go_simp; (try with_reducible rfl))
  try simp only [Act.put, List.setIfInBounds_toArray, List.set_cons_zero, List.set_cons_succ]
  refine wpAnyH_take (i := 6) (v := ?_) rfl (by kernel_rfl) (by kernel_rfl) (by kernel_rfl) (fun _ _ _ h => h) (Or.inl ⟨by rfl, ?_⟩) (by assumption) ?_
  rotate_left
  · (intro w0 hSw; (try dsimp only at hSw); go_simp; (try with_reducible rfl))
  try simp only [Act.put, List.setIfInBounds_toArray, List.set_cons_zero, List.set_cons_succ]
  refine wpAnyH_take (i := 7) (v := ?_) rfl (by kernel_rfl) (by kernel_rfl) (by kernel_rfl) (fun _ _ _ h => h) (Or.inl ⟨by rfl, ?_⟩) (by assumption) ?_
  rotate_left
  · (intro w0 hSw; (try dsimp only at hSw); go_simp; (try with_reducible rfl))
  try simp only [Act.put, List.setIfInBounds_toArray, List.set_cons_zero, List.set_cons_succ]
  refine wpAnyH_take (i := 8) (v := ?_) rfl (by kernel_rfl) (by kernel_rfl) (by kernel_rfl) (fun _ _ _ h => h) (Or.inl ⟨by rfl, ?_⟩) (by assumption) ?_
  rotate_left
  · (intro w0 hSw; (try dsimp only at hSw); go_simp; (try with_reducible rfl))
  try simp only [Act.put, List.setIfInBounds_toArray, List.set_cons_zero, List.set_cons_succ]
  refine wpAnyH_take (i := 9) (v := ?_) rfl (by kernel_rfl) (by kernel_rfl) (by kernel_rfl) (fun _ _ _ h => h) (Or.inl ⟨by rfl, ?_⟩) (by assumption) ?_
  rotate_left
  · (intro w0 hSw; (try dsimp only at hSw); go_simp; (try with_reducible rfl))
  try simp only [Act.put, List.setIfInBounds_toArray, List.set_cons_zero, List.set_cons_succ]
  refine wpAnyH_take (i := 10) (v := ?_) rfl (by kernel_rfl) (by kernel_rfl) (by kernel_rfl) (fun _ _ _ h => h) (Or.inl ⟨by rfl, ?_⟩) (by assumption) ?_
  rotate_left
  · (intro w0 hSw; (try dsimp only at hSw); go_simp; (try with_reducible rfl))
  try simp only [Act.put, List.setIfInBounds_toArray, List.set_cons_zero, List.set_cons_succ]
  refine wpAnyH_take (i := 11) (v := ?_) rfl (by kernel_rfl) (by kernel_rfl) (by kernel_rfl) (fun _ _ _ h => h) (Or.inl ⟨by rfl, ?_⟩) (by assumption) ?_
  rotate_left
  · (intro w0 hSw; (try dsimp only at hSw); go_simp; (try with_reducible rfl))
  try simp only [Act.put, List.setIfInBounds_toArray, List.set_cons_zero, List.set_cons_succ]
  refine wpAnyH_take (i := 12) (v := ?_) rfl (by kernel_rfl) (by kernel_rfl) (by kernel_rfl) (fun _ _ _ h => h) (Or.inl ⟨by rfl, ?_⟩) (by assumption) ?_
  rotate_left
  · (intro w0 hSw; (try dsimp only at hSw); go_simp; (try with_reducible rfl))
  try simp only [Act.put, List.setIfInBounds_toArray, List.set_cons_zero, List.set_cons_succ]
  refine wpAnyH_take (i := 13) (v := ?_) rfl (by kernel_rfl) (by kernel_rfl) (by kernel_rfl) (fun _ _ _ h => h) (Or.inl ⟨by rfl, ?_⟩) (by assumption) ?_
  rotate_left
  · (intro w0 hSw; (try dsimp only at hSw); go_simp; (try with_reducible rfl))
  try simp only [Act.put, List.setIfInBounds_toArray, List.set_cons_zero, List.set_cons_succ]
  refine wpAnyH_ready (rs := [4, 14]) (by kernel_rfl) (by simp) ?_
  refine AllReadyH.cons rfl (fun K hK => ?_) (AllReadyH.cons rfl (fun K hK => ?_) AllReadyH.nil)
  · go_simp
    refine hK.out _ _ (by (try dsimp only); simp [*, World.cell?_alloc_at, World.cell?_alloc_past, World.cell?_alloc_some, World.cell?_setCell_far]) (fun hHeld => ?_)
    clear hK K
    try simp only [Act.put, List.setIfInBounds_toArray, List.set_cons_zero, List.set_cons_succ]
    refine wpAnyH_ready (rs := [14]) (by kernel_rfl) (by simp) ?_
    refine AllReadyH.cons rfl (fun K hK => ?_) AllReadyH.nil
    (go_simp; go_at_call 64; refine (HE.out _).mono ?_; rintro e w3 ⟨rfl, rfl⟩; go_wp2_with fail)
    refine hK.out _ _ (by (try dsimp only); simp [*, World.cell?_alloc_at, World.cell?_alloc_past, World.cell?_alloc_some, World.cell?_setCell_far]) (fun hHeld => ?_)
    clear hK K
    try simp only [Act.put, List.setIfInBounds_toArray, List.set_cons_zero, List.set_cons_succ]
    refine wpAnyH_take (i := 15) (v := ?_) rfl (by kernel_rfl) (by kernel_rfl) (by kernel_rfl) (fun _ _ _ h => h) (Or.inl ⟨by rfl, ?_⟩) (by assumption) ?_
    rotate_left
    · (intro w0 hSw; (try dsimp only at hSw); go_simp; (try with_reducible rfl))
    try simp only [Act.put, List.setIfInBounds_toArray, List.set_cons_zero, List.set_cons_succ]
    refine wpAnyH_ready (rs := [16]) (by kernel_rfl) (by simp) ?_
    refine AllReadyH.cons rfl (fun K hK => ?_) AllReadyH.nil
    go_simp
    refine hK.out _ _ (by (try dsimp only); simp [*, World.cell?_alloc_at, World.cell?_alloc_past, World.cell?_alloc_some, World.cell?_setCell_far]) (fun hHeld => ?_)
    clear hK K
    try simp only [Act.put, List.setIfInBounds_toArray, List.set_cons_zero, List.set_cons_succ]
    refine wpAnyH_take (i := 17) (v := ?_) rfl (by kernel_rfl) (by kernel_rfl) (by kernel_rfl) (fun _ _ _ h => h) (Or.inl ⟨by rfl, ?_⟩) (by assumption) ?_
    rotate_left
    · (intro w0 hSw; (try dsimp only at hSw); go_simp; (try with_reducible rfl))
    try simp only [Act.put, List.setIfInBounds_toArray, List.set_cons_zero, List.set_cons_succ]
    refine wpAnyH_take (i := 18) (v := ?_) rfl (by kernel_rfl) (by kernel_rfl) (by kernel_rfl) (fun _ _ _ h => h) (Or.inl ⟨by rfl, ?_⟩) (by assumption) ?_
    rotate_left
    · (intro w0 hSw; (try dsimp only at hSw); go_simp; (try with_reducible rfl))
    try simp only [Act.put, List.setIfInBounds_toArray, List.set_cons_zero, List.set_cons_succ]
    refine wpAnyH_ready (rs := [19]) (by kernel_rfl) (by simp) ?_
    refine AllReadyH.cons rfl (fun K hK => ?_) AllReadyH.nil
    go_simp
    refine hK.out _ _ (by (try dsimp only); simp [*, World.cell?_alloc_at, World.cell?_alloc_past, World.cell?_alloc_some, World.cell?_setCell_far]) (fun hHeld => ?_)
    clear hK K
    try simp only [Act.put, List.setIfInBounds_toArray, List.set_cons_zero, List.set_cons_succ]
    refine wpAnyH_done (by kernel_rfl) ?_ _
    all_goals go_wp2_with (first | (go_at_call_of 73 (Value.pointer none); refine (HDL.out _).mono ?_; rintro e w4 ⟨rfl, rfl⟩) | (go_at_call_of 73 (Value.pointer (some ⟨b2, 0, none⟩)); refine (HDR.out _ (by repeat (first | exact Below.refl _ _ | apply Below.drew | (refine Below.alloc ?_ (by simp <;> omega) _)))).mono ?_; rintro e w4 ⟨rfl, rfl⟩))
    all_goals go_ret
    all_goals
      refine ⟨w.heap.size + 1 + 1, rfl, by omega, ((heap_oldT _ _ _ (by simp)).trans (heap_newT _ _ _ (by simp))).trans ?_, (by repeat (first | exact Below.refl _ _ | apply Below.drew | (refine Below.alloc ?_ (by simp <;> omega) _)))⟩
      unfold knv
      simp only [Option.some.injEq, Obj.cells.injEq, Array.mk.injEq, List.cons.injEq, Value.int.injEq, Value.pointer.injEq, true_and, and_true]
      first | rfl | (refine ⟨?_, ?_⟩ <;> omega) | omega
  · (go_simp; go_at_call 64; refine (HE.out _).mono ?_; rintro e w3 ⟨rfl, rfl⟩; go_wp2_with fail)
    refine hK.out _ _ (by (try dsimp only); simp [*, World.cell?_alloc_at, World.cell?_alloc_past, World.cell?_alloc_some, World.cell?_setCell_far]) (fun hHeld => ?_)
    clear hK K
    try simp only [Act.put, List.setIfInBounds_toArray, List.set_cons_zero, List.set_cons_succ]
    refine wpAnyH_take (i := 15) (v := ?_) rfl (by kernel_rfl) (by kernel_rfl) (by kernel_rfl) (fun _ _ _ h => h) (Or.inl ⟨by rfl, ?_⟩) (by assumption) ?_
    rotate_left
    · (intro w0 hSw; (try dsimp only at hSw); go_simp; (try with_reducible rfl))
    try simp only [Act.put, List.setIfInBounds_toArray, List.set_cons_zero, List.set_cons_succ]
    refine wpAnyH_ready (rs := [4]) (by kernel_rfl) (by simp) ?_
    refine AllReadyH.cons rfl (fun K hK => ?_) AllReadyH.nil
    go_simp
    refine hK.out _ _ (by (try dsimp only); simp [*, World.cell?_alloc_at, World.cell?_alloc_past, World.cell?_alloc_some, World.cell?_setCell_far]) (fun hHeld => ?_)
    clear hK K
    try simp only [Act.put, List.setIfInBounds_toArray, List.set_cons_zero, List.set_cons_succ]
    refine wpAnyH_ready (rs := [16]) (by kernel_rfl) (by simp) ?_
    refine AllReadyH.cons rfl (fun K hK => ?_) AllReadyH.nil
    go_simp
    refine hK.out _ _ (by (try dsimp only); simp [*, World.cell?_alloc_at, World.cell?_alloc_past, World.cell?_alloc_some, World.cell?_setCell_far]) (fun hHeld => ?_)
    clear hK K
    try simp only [Act.put, List.setIfInBounds_toArray, List.set_cons_zero, List.set_cons_succ]
    refine wpAnyH_take (i := 17) (v := ?_) rfl (by kernel_rfl) (by kernel_rfl) (by kernel_rfl) (fun _ _ _ h => h) (Or.inl ⟨by rfl, ?_⟩) (by assumption) ?_
    rotate_left
    · (intro w0 hSw; (try dsimp only at hSw); go_simp; (try with_reducible rfl))
    try simp only [Act.put, List.setIfInBounds_toArray, List.set_cons_zero, List.set_cons_succ]
    refine wpAnyH_take (i := 18) (v := ?_) rfl (by kernel_rfl) (by kernel_rfl) (by kernel_rfl) (fun _ _ _ h => h) (Or.inl ⟨by rfl, ?_⟩) (by assumption) ?_
    rotate_left
    · (intro w0 hSw; (try dsimp only at hSw); go_simp; (try with_reducible rfl))
    try simp only [Act.put, List.setIfInBounds_toArray, List.set_cons_zero, List.set_cons_succ]
    refine wpAnyH_ready (rs := [19]) (by kernel_rfl) (by simp) ?_
    refine AllReadyH.cons rfl (fun K hK => ?_) AllReadyH.nil
    go_simp
    refine hK.out _ _ (by (try dsimp only); simp [*, World.cell?_alloc_at, World.cell?_alloc_past, World.cell?_alloc_some, World.cell?_setCell_far]) (fun hHeld => ?_)
    clear hK K
    try simp only [Act.put, List.setIfInBounds_toArray, List.set_cons_zero, List.set_cons_succ]
    refine wpAnyH_done (by kernel_rfl) ?_ _
    all_goals go_wp2_with (first | (go_at_call_of 73 (Value.pointer none); refine (HDL.out _).mono ?_; rintro e w4 ⟨rfl, rfl⟩) | (go_at_call_of 73 (Value.pointer (some ⟨b2, 0, none⟩)); refine (HDR.out _ (by repeat (first | exact Below.refl _ _ | apply Below.drew | (refine Below.alloc ?_ (by simp <;> omega) _)))).mono ?_; rintro e w4 ⟨rfl, rfl⟩))
    all_goals go_ret
    all_goals
      refine ⟨w.heap.size + 1 + 1, rfl, by omega, ((heap_oldT _ _ _ (by simp)).trans (heap_newT _ _ _ (by simp))).trans ?_, (by repeat (first | exact Below.refl _ _ | apply Below.drew | (refine Below.alloc ?_ (by simp <;> omega) _)))⟩
      unfold knv
      simp only [Option.some.injEq, Obj.cells.injEq, Array.mk.injEq, List.cons.injEq, Value.int.injEq, Value.pointer.injEq, true_and, and_true]
      first | rfl | (refine ⟨?_, ?_⟩ <;> omega) | omega
set_option maxRecDepth 100000 in
set_option maxHeartbeats 4000000 in
theorem tie_kk (x : Pc) (w : World) (h : x.stop ≤ 1073741824) (b1 : Nat) (lf le ld : Nat) (lv : Int) (c7l : w.cell? ⟨b1, 7, none⟩ = some (.int .i64 (ld : Int))) (c8l : w.cell? ⟨b1, 8, none⟩ = some (.int .i64 (lf : Int))) (c9l : w.cell? ⟨b1, 9, none⟩ = some (.int .i64 (le : Int))) (c10l : w.cell? ⟨b1, 10, none⟩ = some (.int .i64 lv)) (hbl : b1 < w.heap.size) (h1l : lf ≤ 1073741824) (h2l : le ≤ 1073741824) (h3l : 0 ≤ lv) (h4l : lv ≤ 1073741824) (h5l : 1 ≤ ld) (h6l : ld ≤ 1073741824) (b2 : Nat) (rf re rd : Nat) (rv : Int) (c7r : w.cell? ⟨b2, 7, none⟩ = some (.int .i64 (rd : Int))) (c8r : w.cell? ⟨b2, 8, none⟩ = some (.int .i64 (rf : Int))) (c9r : w.cell? ⟨b2, 9, none⟩ = some (.int .i64 (re : Int))) (c10r : w.cell? ⟨b2, 10, none⟩ = some (.int .i64 rv)) (hbr : b2 < w.heap.size) (h1r : rf ≤ 1073741824) (h2r : re ≤ 1073741824) (h3r : 0 ≤ rv) (h4r : rv ≤ 1073741824) (h5r : 1 ≤ rd) (h6r : rd ≤ 1073741824) : Calls Tryd.prog 69 #[.pointer (some ⟨b1, 0, none⟩), .agg (pcv x), .pointer (some ⟨b2, 0, none⟩)] w (TieW w x (some ⟨b1, 0, none⟩) (some ⟨b2, 0, none⟩) (1 + max ld rd) lf re (max (max (max lv ((x.at' : Int) - (le : Int))) rv) ((rf : Int) - (x.stop : Int)))) := by
  have HE : Hid (∀ W : World, Calls Tryd.prog 64 #[.agg (pcv x)] W fun e w' => e = .returned (.int .i64 (x.stop : Int)) ∧ w' = W.alloc (.cells (pcv x) 103)) := fun W => end_any x W h
  have HDL : Hid (∀ W : World, Below w.heap.size w W → Calls Tryd.prog 73 #[.pointer (some ⟨b1, 0, none⟩)] W fun e w' => e = .returned (.int .i64 (ld : Int)) ∧ w' = W) := fun W hW => depth_any _ ld W ((show Dep w (some ⟨b1, 0, none⟩) ld from .inr ⟨b1, rfl, h5l, c7l, hbl⟩).below hW)
  have n1L : b1 < w.heap.size + 1 := by omega
  have n2L : b1 < w.heap.size + 1 + 1 := by omega
  have n3L : b1 < w.heap.size + 1 + 1 + 1 := by omega
  have n4L : w.heap.size + 1 + 1 ≠ b1 := by omega
  have HDR : Hid (∀ W : World, Below w.heap.size w W → Calls Tryd.prog 73 #[.pointer (some ⟨b2, 0, none⟩)] W fun e w' => e = .returned (.int .i64 (rd : Int)) ∧ w' = W) := fun W hW => depth_any _ rd W ((show Dep w (some ⟨b2, 0, none⟩) rd from .inr ⟨b2, rfl, h5r, c7r, hbr⟩).below hW)
  have n1R : b2 < w.heap.size + 1 := by omega
  have n2R : b2 < w.heap.size + 1 + 1 := by omega
  have n3R : b2 < w.heap.size + 1 + 1 + 1 := by omega
  have n4R : w.heap.size + 1 + 1 ≠ b2 := by omega
  unfold pcv at HE
  unfold pcv
  obtain ⟨st, hst⟩ : ∃ st, st = x.stop := ⟨_, rfl⟩
  rw [← hst] at HE h
  have hat : x.at' ≤ 1073741824 := by have : x.stop = x.at' + x.n := rfl; omega
  rw [← hst]
  clear hst
  go_enter Tryd.func69, Tryd.ntmps69
  go_wp2
  go_region_held3 (fun w' => w'.cell? ⟨w.heap.size, 0, none⟩ = some (.int .i64 (x.at' : Int)) ∧ w'.cell? ⟨w.heap.size, 1, none⟩ = some (.int .i64 (x.n : Int)) ∧ w'.cell? ⟨w.heap.size, 2, none⟩ = some (.int .i64 (x.count : Int)) ∧ w'.cell? ⟨w.heap.size, 3, none⟩ = some (.int .u64 (x.tag : Int)) ∧ w'.cell? ⟨w.heap.size, 4, none⟩ = some (.int .u8 (x.st : Int))) (simp [*, World.cell?_alloc_at, World.cell?_alloc_past, World.cell?_alloc_some, World.cell?_setCell_far]) (first | (go_at_call 64; refine (HE.out _).mono ?_; rintro e w3 ⟨rfl, rfl⟩))
  go_wp2
  go_region_held3 (fun w' => w'.cell? ⟨w.heap.size, 0, none⟩ = some (.int .i64 (x.at' : Int)) ∧ w'.cell? ⟨w.heap.size, 1, none⟩ = some (.int .i64 (x.n : Int)) ∧ w'.cell? ⟨w.heap.size, 2, none⟩ = some (.int .i64 (x.count : Int)) ∧ w'.cell? ⟨w.heap.size, 3, none⟩ = some (.int .u64 (x.tag : Int)) ∧ w'.cell? ⟨w.heap.size, 4, none⟩ = some (.int .u8 (x.st : Int)) ∧ w'.cell? ⟨b1, 8, none⟩ = some (.int .i64 (lf : Int)) ∧ w'.cell? ⟨b1, 9, none⟩ = some (.int .i64 (le : Int)) ∧ w'.cell? ⟨b1, 10, none⟩ = some (.int .i64 lv)) (simp [*, World.cell?_alloc_at, World.cell?_alloc_past, World.cell?_alloc_some, World.cell?_setCell_far]) (fail)
  all_goals go_wp2
  all_goals
    refine wp_region_held_drew (S := fun w' => w'.cell? ⟨w.heap.size, 0, none⟩ = some (.int .i64 (x.at' : Int)) ∧ w'.cell? ⟨w.heap.size, 1, none⟩ = some (.int .i64 (x.n : Int)) ∧ w'.cell? ⟨w.heap.size, 2, none⟩ = some (.int .i64 (x.count : Int)) ∧ w'.cell? ⟨w.heap.size, 3, none⟩ = some (.int .u64 (x.tag : Int)) ∧ w'.cell? ⟨w.heap.size, 4, none⟩ = some (.int .u8 (x.st : Int)) ∧ w'.cell? ⟨b2, 8, none⟩ = some (.int .i64 (rf : Int)) ∧ w'.cell? ⟨b2, 9, none⟩ = some (.int .i64 (re : Int)) ∧ w'.cell? ⟨b2, 10, none⟩ = some (.int .i64 rv)) (by kernel_rfl) (by (try dsimp only); simp [*, World.cell?_alloc_at, World.cell?_alloc_past, World.cell?_alloc_some, World.cell?_setCell_far]) (fun hHeld => ?_)
    refine wpAnyH_take (i := 0) (v := ?_) rfl (by kernel_rfl) (by kernel_rfl) (by kernel_rfl) (fun _ _ _ h => h) (Or.inl ⟨by rfl, ?_⟩) (by assumption) ?_
    rotate_left
    · (intro w0 hSw; (try dsimp only at hSw); go_simp; (try with_reducible rfl))
    try simp only [Act.put, List.setIfInBounds_toArray, List.set_cons_zero, List.set_cons_succ]
    refine wpAnyH_take (i := 1) (v := ?_) rfl (by kernel_rfl) (by kernel_rfl) (by kernel_rfl) (fun _ _ _ h => h) (Or.inl ⟨by rfl, ?_⟩) (by assumption) ?_
    rotate_left
    · (intro w0 hSw; (try dsimp only at hSw); go_simp; (try with_reducible rfl))
    try simp only [Act.put, List.setIfInBounds_toArray, List.set_cons_zero, List.set_cons_succ]
    refine wpAnyH_take (i := 2) (v := ?_) rfl (by kernel_rfl) (by kernel_rfl) (by kernel_rfl) (fun _ _ _ h => h) (Or.inl ⟨by rfl, ?_⟩) (by assumption) ?_
    rotate_left
    · (intro w0 hSw; (try dsimp only at hSw); go_simp; (try with_reducible rfl))
    try simp only [Act.put, List.setIfInBounds_toArray, List.set_cons_zero, List.set_cons_succ]
    refine wpAnyH_take (i := 3) (v := ?_) rfl (by kernel_rfl) (by kernel_rfl) (by kernel_rfl) (fun _ _ _ h => h) (Or.inl ⟨by rfl, ?_⟩) (by assumption) ?_
    rotate_left
    · (intro w0 hSw; (try dsimp only at hSw); go_simp; (try with_reducible rfl))
    try simp only [Act.put, List.setIfInBounds_toArray, List.set_cons_zero, List.set_cons_succ]
    refine wpAnyH_take (i := 5) (v := ?_) rfl (by kernel_rfl) (by kernel_rfl) (by kernel_rfl) (fun _ _ _ h => h) (Or.inl ⟨by rfl, ?_⟩) (by assumption) ?_
    rotate_left
    · (intro w0 hSw; (try dsimp only at hSw); go_simp; (try with_reducible rfl))
    try simp only [Act.put, List.setIfInBounds_toArray, List.set_cons_zero, List.set_cons_succ]
    refine wpAnyH_take (i := 6) (v := ?_) rfl (by kernel_rfl) (by kernel_rfl) (by kernel_rfl) (fun _ _ _ h => h) (Or.inl ⟨by rfl, ?_⟩) (by assumption) ?_
    rotate_left
    · (intro w0 hSw; (try dsimp only at hSw); go_simp; (try with_reducible rfl))
    try simp only [Act.put, List.setIfInBounds_toArray, List.set_cons_zero, List.set_cons_succ]
    refine wpAnyH_take (i := 7) (v := ?_) rfl (by kernel_rfl) (by kernel_rfl) (by kernel_rfl) (fun _ _ _ h => h) (Or.inl ⟨by rfl, ?_⟩) (by assumption) ?_
    rotate_left
    · (intro w0 hSw; (try dsimp only at hSw); go_simp; (try with_reducible rfl))
    try simp only [Act.put, List.setIfInBounds_toArray, List.set_cons_zero, List.set_cons_succ]
    refine wpAnyH_take (i := 8) (v := ?_) rfl (by kernel_rfl) (by kernel_rfl) (by kernel_rfl) (fun _ _ _ h => h) (Or.inl ⟨by rfl, ?_⟩) (by assumption) ?_
    rotate_left
    · (intro w0 hSw; (try dsimp only at hSw); go_simp; (try with_reducible rfl))
    try simp only [Act.put, List.setIfInBounds_toArray, List.set_cons_zero, List.set_cons_succ]
    refine wpAnyH_take (i := 9) (v := ?_) rfl (by kernel_rfl) (by kernel_rfl) (by kernel_rfl) (fun _ _ _ h => h) (Or.inl ⟨by rfl, ?_⟩) (by assumption) ?_
    rotate_left
    · (intro w0 hSw; (try dsimp only at hSw); go_simp; (try with_reducible rfl))
    try simp only [Act.put, List.setIfInBounds_toArray, List.set_cons_zero, List.set_cons_succ]
    refine wpAnyH_take (i := 10) (v := ?_) rfl (by kernel_rfl) (by kernel_rfl) (by kernel_rfl) (fun _ _ _ h => h) (Or.inl ⟨by rfl, ?_⟩) (by assumption) ?_
    rotate_left
    · (intro w0 hSw; (try dsimp only at hSw); go_simp; (try with_reducible rfl))
    try simp only [Act.put, List.setIfInBounds_toArray, List.set_cons_zero, List.set_cons_succ]
    refine wpAnyH_take (i := 11) (v := ?_) rfl (by kernel_rfl) (by kernel_rfl) (by kernel_rfl) (fun _ _ _ h => h) (Or.inl ⟨by rfl, ?_⟩) (by assumption) ?_
    rotate_left
    · (intro w0 hSw; (try dsimp only at hSw); go_simp; (try with_reducible rfl))
    try simp only [Act.put, List.setIfInBounds_toArray, List.set_cons_zero, List.set_cons_succ]
    refine wpAnyH_take (i := 12) (v := ?_) rfl (by kernel_rfl) (by kernel_rfl) (by kernel_rfl) (fun _ _ _ h => h) (Or.inl ⟨by rfl, ?_⟩) (by assumption) ?_
    rotate_left
    · (intro w0 hSw; (try dsimp only at hSw); go_simp; (try with_reducible rfl))
    try simp only [Act.put, List.setIfInBounds_toArray, List.set_cons_zero, List.set_cons_succ]
    refine wpAnyH_take (i := 13) (v := ?_) rfl (by kernel_rfl) (by kernel_rfl) (by kernel_rfl) (fun _ _ _ h => h) (Or.inl ⟨by rfl, ?_⟩) (by assumption) ?_
    rotate_left
    · (intro w0 hSw; (try dsimp only at hSw); go_simp; (try with_reducible rfl))
    try simp only [Act.put, List.setIfInBounds_toArray, List.set_cons_zero, List.set_cons_succ]
    refine wpAnyH_ready (rs := [4, 14]) (by kernel_rfl) (by simp) ?_
    refine AllReadyH.cons rfl (fun K hK => ?_) (AllReadyH.cons rfl (fun K hK => ?_) AllReadyH.nil)
    · go_simp
      refine hK.out _ _ (by (try dsimp only); simp [*, World.cell?_alloc_at, World.cell?_alloc_past, World.cell?_alloc_some, World.cell?_setCell_far]) (fun hHeld => ?_)
      clear hK K
      try simp only [Act.put, List.setIfInBounds_toArray, List.set_cons_zero, List.set_cons_succ]
      refine wpAnyH_ready (rs := [14]) (by kernel_rfl) (by simp) ?_
      refine AllReadyH.cons rfl (fun K hK => ?_) AllReadyH.nil
      (go_simp; go_at_call 64; refine (HE.out _).mono ?_; rintro e w3 ⟨rfl, rfl⟩; go_wp2_with fail)
      refine hK.out _ _ (by (try dsimp only); simp [*, World.cell?_alloc_at, World.cell?_alloc_past, World.cell?_alloc_some, World.cell?_setCell_far]) (fun hHeld => ?_)
      clear hK K
      try simp only [Act.put, List.setIfInBounds_toArray, List.set_cons_zero, List.set_cons_succ]
      refine wpAnyH_take (i := 15) (v := ?_) rfl (by kernel_rfl) (by kernel_rfl) (by kernel_rfl) (fun _ _ _ h => h) (Or.inl ⟨by rfl, ?_⟩) (by assumption) ?_
      rotate_left
      · (intro w0 hSw; (try dsimp only at hSw); go_simp; (try with_reducible rfl))
      try simp only [Act.put, List.setIfInBounds_toArray, List.set_cons_zero, List.set_cons_succ]
      refine wpAnyH_ready (rs := [16]) (by kernel_rfl) (by simp) ?_
      refine AllReadyH.cons rfl (fun K hK => ?_) AllReadyH.nil
      go_simp
      refine hK.out _ _ (by (try dsimp only); simp [*, World.cell?_alloc_at, World.cell?_alloc_past, World.cell?_alloc_some, World.cell?_setCell_far]) (fun hHeld => ?_)
      clear hK K
      try simp only [Act.put, List.setIfInBounds_toArray, List.set_cons_zero, List.set_cons_succ]
      refine wpAnyH_take (i := 17) (v := ?_) rfl (by kernel_rfl) (by kernel_rfl) (by kernel_rfl) (fun _ _ _ h => h) (Or.inl ⟨by rfl, ?_⟩) (by assumption) ?_
      rotate_left
      · (intro w0 hSw; (try dsimp only at hSw); go_simp; (try with_reducible rfl))
      try simp only [Act.put, List.setIfInBounds_toArray, List.set_cons_zero, List.set_cons_succ]
      refine wpAnyH_take (i := 18) (v := ?_) rfl (by kernel_rfl) (by kernel_rfl) (by kernel_rfl) (fun _ _ _ h => h) (Or.inl ⟨by rfl, ?_⟩) (by assumption) ?_
      rotate_left
      · (intro w0 hSw; (try dsimp only at hSw); go_simp; (try with_reducible rfl))
      try simp only [Act.put, List.setIfInBounds_toArray, List.set_cons_zero, List.set_cons_succ]
      refine wpAnyH_ready (rs := [19]) (by kernel_rfl) (by simp) ?_
      refine AllReadyH.cons rfl (fun K hK => ?_) AllReadyH.nil
      go_simp
      refine hK.out _ _ (by (try dsimp only); simp [*, World.cell?_alloc_at, World.cell?_alloc_past, World.cell?_alloc_some, World.cell?_setCell_far]) (fun hHeld => ?_)
      clear hK K
      try simp only [Act.put, List.setIfInBounds_toArray, List.set_cons_zero, List.set_cons_succ]
      refine wpAnyH_done (by kernel_rfl) ?_ _
      all_goals go_wp2_with (first | (go_at_call_of 73 (Value.pointer (some ⟨b1, 0, none⟩)); refine (HDL.out _ (by repeat (first | exact Below.refl _ _ | apply Below.drew | (refine Below.alloc ?_ (by simp <;> omega) _)))).mono ?_; rintro e w4 ⟨rfl, rfl⟩) | (go_at_call_of 73 (Value.pointer (some ⟨b2, 0, none⟩)); refine (HDR.out _ (by repeat (first | exact Below.refl _ _ | apply Below.drew | (refine Below.alloc ?_ (by simp <;> omega) _)))).mono ?_; rintro e w4 ⟨rfl, rfl⟩))
      all_goals go_ret
      all_goals
        refine ⟨w.heap.size + 1 + 1, rfl, by omega, ((heap_oldT _ _ _ (by simp)).trans (heap_newT _ _ _ (by simp))).trans ?_, (by repeat (first | exact Below.refl _ _ | apply Below.drew | (refine Below.alloc ?_ (by simp <;> omega) _)))⟩
        unfold knv
        simp only [Option.some.injEq, Obj.cells.injEq, Array.mk.injEq, List.cons.injEq, Value.int.injEq, Value.pointer.injEq, true_and, and_true]
        first | rfl | (refine ⟨?_, ?_⟩ <;> omega) | omega
    · (go_simp; go_at_call 64; refine (HE.out _).mono ?_; rintro e w3 ⟨rfl, rfl⟩; go_wp2_with fail)
      refine hK.out _ _ (by (try dsimp only); simp [*, World.cell?_alloc_at, World.cell?_alloc_past, World.cell?_alloc_some, World.cell?_setCell_far]) (fun hHeld => ?_)
      clear hK K
      try simp only [Act.put, List.setIfInBounds_toArray, List.set_cons_zero, List.set_cons_succ]
      refine wpAnyH_take (i := 15) (v := ?_) rfl (by kernel_rfl) (by kernel_rfl) (by kernel_rfl) (fun _ _ _ h => h) (Or.inl ⟨by rfl, ?_⟩) (by assumption) ?_
      rotate_left
      · (intro w0 hSw; (try dsimp only at hSw); go_simp; (try with_reducible rfl))
      try simp only [Act.put, List.setIfInBounds_toArray, List.set_cons_zero, List.set_cons_succ]
      refine wpAnyH_ready (rs := [4]) (by kernel_rfl) (by simp) ?_
      refine AllReadyH.cons rfl (fun K hK => ?_) AllReadyH.nil
      go_simp
      refine hK.out _ _ (by (try dsimp only); simp [*, World.cell?_alloc_at, World.cell?_alloc_past, World.cell?_alloc_some, World.cell?_setCell_far]) (fun hHeld => ?_)
      clear hK K
      try simp only [Act.put, List.setIfInBounds_toArray, List.set_cons_zero, List.set_cons_succ]
      refine wpAnyH_ready (rs := [16]) (by kernel_rfl) (by simp) ?_
      refine AllReadyH.cons rfl (fun K hK => ?_) AllReadyH.nil
      go_simp
      refine hK.out _ _ (by (try dsimp only); simp [*, World.cell?_alloc_at, World.cell?_alloc_past, World.cell?_alloc_some, World.cell?_setCell_far]) (fun hHeld => ?_)
      clear hK K
      try simp only [Act.put, List.setIfInBounds_toArray, List.set_cons_zero, List.set_cons_succ]
      refine wpAnyH_take (i := 17) (v := ?_) rfl (by kernel_rfl) (by kernel_rfl) (by kernel_rfl) (fun _ _ _ h => h) (Or.inl ⟨by rfl, ?_⟩) (by assumption) ?_
      rotate_left
      · (intro w0 hSw; (try dsimp only at hSw); go_simp; (try with_reducible rfl))
      try simp only [Act.put, List.setIfInBounds_toArray, List.set_cons_zero, List.set_cons_succ]
      refine wpAnyH_take (i := 18) (v := ?_) rfl (by kernel_rfl) (by kernel_rfl) (by kernel_rfl) (fun _ _ _ h => h) (Or.inl ⟨by rfl, ?_⟩) (by assumption) ?_
      rotate_left
      · (intro w0 hSw; (try dsimp only at hSw); go_simp; (try with_reducible rfl))
      try simp only [Act.put, List.setIfInBounds_toArray, List.set_cons_zero, List.set_cons_succ]
      refine wpAnyH_ready (rs := [19]) (by kernel_rfl) (by simp) ?_
      refine AllReadyH.cons rfl (fun K hK => ?_) AllReadyH.nil
      go_simp
      refine hK.out _ _ (by (try dsimp only); simp [*, World.cell?_alloc_at, World.cell?_alloc_past, World.cell?_alloc_some, World.cell?_setCell_far]) (fun hHeld => ?_)
      clear hK K
      try simp only [Act.put, List.setIfInBounds_toArray, List.set_cons_zero, List.set_cons_succ]
      refine wpAnyH_done (by kernel_rfl) ?_ _
      all_goals go_wp2_with (first | (go_at_call_of 73 (Value.pointer (some ⟨b1, 0, none⟩)); refine (HDL.out _ (by repeat (first | exact Below.refl _ _ | apply Below.drew | (refine Below.alloc ?_ (by simp <;> omega) _)))).mono ?_; rintro e w4 ⟨rfl, rfl⟩) | (go_at_call_of 73 (Value.pointer (some ⟨b2, 0, none⟩)); refine (HDR.out _ (by repeat (first | exact Below.refl _ _ | apply Below.drew | (refine Below.alloc ?_ (by simp <;> omega) _)))).mono ?_; rintro e w4 ⟨rfl, rfl⟩))
      all_goals go_ret
      all_goals
        refine ⟨w.heap.size + 1 + 1, rfl, by omega, ((heap_oldT _ _ _ (by simp)).trans (heap_newT _ _ _ (by simp))).trans ?_, (by repeat (first | exact Below.refl _ _ | apply Below.drew | (refine Below.alloc ?_ (by simp <;> omega) _)))⟩
        unfold knv
        simp only [Option.some.injEq, Obj.cells.injEq, Array.mk.injEq, List.cons.injEq, Value.int.injEq, Value.pointer.injEq, true_and, and_true]
        first | rfl | (refine ⟨?_, ?_⟩ <;> omega) | omega
end Go.Proofs.YtcpdnalmoaojlaaDoor
