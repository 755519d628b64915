/-
  The weighted sum of pieces.
-/
import Derived.Test.YtigaabhicjcbjabDoorW1
namespace Go.Proofs.YtigaabhicjcbjabDoor
open Go.RowKit Go.Shelf
set_option linter.unusedVariables false
attribute [local go_sem] Oper.semAt_some

theorem heap_alloc_old (w : World) (o : Obj) (k : Nat) (hk : k < w.heap.size) : (w.alloc o).heap[k]? = w.heap[k]? := by
  show (w.heap.push o)[k]? = _
  rw [Array.getElem?_push, if_neg (Nat.ne_of_lt hk)]
theorem heap_alloc_new (w : World) (o : Obj) : (w.alloc o).heap[w.heap.size]? = some o := by
  show (w.heap.push o)[w.heap.size]? = _
  rw [Array.getElem?_push, if_pos rfl]
/-- Doubled and added, one behind the other. -/
def hor (M : List (List UInt8)) (i : Nat) : UInt8 := M.foldl (fun r b => dbl r ^^^ at0 b i) 0
theorem hor_snoc (M : List (List UInt8)) (b : List UInt8) (i : Nat) : hor (M ++ [b]) i = dbl (hor M i) ^^^ at0 b i := by simp [hor]
theorem hor_rev (L : List (List UInt8)) (i : Nat) : hor L.reverse i = colQ 0 L i := by
  induction L with
  | nil => simp [hor, colQ]
  | cons a L ih =>
    rw [List.reverse_cons, hor_snoc, ih, colQ_dbl]
    simp only [colQ, dbln]
    rw [UInt8.xor_comm]
theorem come_rev {n₀ sz : Nat} {w : World} (L : List (List UInt8)) (f : Nat → El n₀ sz w) (hf : ∀ k (h : k < L.length), (f k).l = L[L.length - 1 - k]) : (come f L.length).map El.l = L.reverse := by
  apply List.ext_getElem
  · simp [come]
  · intro i h1 h2
    have hi : i < L.length := by simpa [come] using h1
    simp only [come, List.getElem_map, List.getElem_range, List.getElem_reverse]
    rw [hf i hi]
theorem backward_stops (n Bs n₀ n₁ B sz : Nat) (sv : Value) (L : List (List UInt8)) (hn : 1 ≤ n) (hl : L.length ≤ 1000000) (w0 w : World) (hBs : Bs < w.heap.size) (hBs1 : Bs < n₁) (hBB : Bs ≠ B) (hn₀ : n₀ ≤ w.heap.size) (hn1 : n₀ ≤ n₁) (hB : n₀ ≤ B)
    (hc : w.cell? ⟨Bs, 0, none⟩ = some sv) (hb0 : Below n₀ w0 w) (hV : Pcs n₀ w0 sv L) (hp : ∀ b ∈ L, b.length = 0 ∨ b.length = sz) :
    SeqStopsK Fence.wide n Tryd.prog 79 #[.pointer (some ⟨Bs, 0, none⟩)] (fun x : El n₀ sz w0 => #[Value.int .i64 (x.i : Int), x.v]) (KB n₁ B) (fun ys => ys.map El.l = L.reverse)
      (fun _ => True) L.length w := fun l J Jx W hW _ _ hY h0 => by
  have hc' := (hW.cell (p := ⟨Bs, 0, none⟩) hBs).trans hc
  have hV' : Pcs n₀ W sv L := (hV.below hb0 (Nat.le_refl _)).below hW hn₀
  rcases hV with ⟨rfl, rfl⟩ | ⟨b, off, cap, rfl, hb, hcap, hcs⟩
  · exact (back1_nil n l Bs J W hc' h0).mono fun e W' ⟨he, hj⟩ => ⟨he, .inl ⟨_, by simp, hj⟩⟩
  · have hinh : Inhabited Value := ⟨undef⟩
    obtain ⟨vs, hvs⟩ : ∃ vs : Nat → Value, ∀ i (hi : i < L.length), w0.cell? ⟨b, off + i, none⟩ = some (vs i) ∧ Rd n₀ w0 (vs i) L[i] := by
      refine ⟨fun i => if h : i < L.length then (hcs i h).choose else undef, fun i hi => ?_⟩
      simp only [hi, dite_true]
      exact (hcs i hi).choose_spec
    let f : Nat → El n₀ sz w0 := fun k => if h : k < L.length then ⟨L.length - 1 - k, vs (L.length - 1 - k), L[L.length - 1 - k]'(by omega), (hvs _ (by omega)).2, hp _ (List.getElem_mem _)⟩ else El.none n₀ sz w0
    have hf : ∀ k, k < L.length → (f k).i = L.length - 1 - k ∧ (f k).v = vs (L.length - 1 - k) := fun k hk => by simp [f, hk]
    have hf' : ∀ k (h : k < L.length), (f k).l = L[L.length - 1 - k] := fun k hk => by simp only [f, hk, dite_true]
    have hcW : ∀ j, j < L.length → W.cell? ⟨b, off + j, none⟩ = some (vs j) := fun j hj => by
      have h1 := (hb0.cell (p := ⟨b, off + j, none⟩) hb).trans (hvs j hj).1
      exact (hW.cell (p := ⟨b, off + j, none⟩) (show b < w.heap.size by omega)).trans h1
    refine (back1_in n l Bs n₀ n₁ B sz b off L.length cap w0 f vs hn hl (by omega) (by omega) hf J Jx hY W hc' hBs1 hBB hcW h0).mono ?_
    rintro e W' ⟨he, ⟨ys, rfl, hj⟩ | ⟨pre, _, hj⟩⟩
    · exact ⟨he, .inl ⟨_, come_rev L f hf', hj⟩⟩
    · exact ⟨he, .inr ⟨_, trivial, hj⟩⟩

theorem mk_tally (sz : Nat) (w : World) (hsz : sz ≤ 4096) : ∃ w0, (Instr.makeSlice 82 (.int .i64 (sz : Int)) (.int .i64 (sz : Int))).run Tryd.prog w = .ok (.slice (some ⟨w.heap.size, 0, none⟩) sz sz) w0 ∧ Part w0 w.heap.size sz sz (vec sz (fun _ => 0)) ∧ Below w.heap.size w w0 ∧ w0.heap.size = w.heap.size + 1 := by
  obtain ⟨i0, hi, hz0, hz1, hz2⟩ := info_parts Tryd.info5
  have h := run_make (P := Tryd.prog) w 82 5 i0 (.int .u8 0) Tryd.underlying82 hi hz0 .i64 .i64 (sz : Int) (sz : Int) (by omega) (by omega) (by rw [hz2]; omega) (by omega)
  rw [hz1] at h
  simp only [Int.toNat_natCast] at h
  refine ⟨_, h, ?_, (Below.refl _ _).alloc (Nat.le_refl _) _, by simp⟩
  refine ⟨_, heap_alloc_new _ _, by rw [size_madeCells, Nat.mul_one], ?_⟩
  rw [Nat.mul_one]
  refine (congrArg (List.take sz) (toList_madeCells_one (Value.int .u8 0) sz)).trans ?_
  apply List.ext_getElem
  · simp [vec]
  · intro i h1 h2
    simp [vec, by8]
/-- What the loop keeps. -/
structure WI (w : World) (sz X : Nat) (f : Nat → UInt8) (W : World) : Prop where
  box : W.heap[X]? = some (.cells #[.slice (some ⟨w.heap.size, 0, none⟩) sz sz] 82 (0, 0))
  part : Part W w.heap.size sz sz (vec sz f)
  below : Below w.heap.size w W
theorem WI.cell {w : World} {sz X : Nat} {f : Nat → UInt8} {W : World} (h : WI w sz X f W) : W.cell? ⟨X, 0, none⟩ = some (.slice (some ⟨w.heap.size, 0, none⟩) sz sz) := by simp [World.cell?, h.box]
theorem WI.boxLt {w : World} {sz X : Nat} {f : Nat → UInt8} {W : World} (h : WI w sz X f W) : X < W.heap.size := (Array.getElem?_eq_some_iff.1 h.box).1
theorem WI.own {w : World} {sz X B : Nat} {α : Type} {f : α → Nat → UInt8} (hX : X < B) (hB : w.heap.size < B) : OwnFrom B (fun (pre : α) W => WI w sz X (f pre) W) := fun s W W' row hs hg hr =>
  ⟨(hg.block X hs.boxLt (fun e => by have := (hr X e.symm).1; omega)).trans hs.box, hs.part.keep (hg.block _ hs.part.lt (fun e => by have := (hr _ e.symm).1; omega)), hs.below.grown hg hs.below.size (fun k e => by have := (hr k e).1; omega)⟩
theorem WI.step {w : World} {sz X : Nat} {f g : Nat → UInt8} {W W' : World} (h : WI w sz X f W) (hX : X ≠ w.heap.size) (hg : W.grownBy W' (some w.heap.size)) (hp : Part W' w.heap.size sz sz (vec sz g)) : WI w sz X g W' :=
  ⟨(hg.block X h.boxLt (by simpa using hX)).trans h.box, hp, h.below.trans (grown_below hg (Nat.le_refl _) h.below.size)⟩
theorem keeps_part {W W' : World} {B cap n : Nat} {l : List UInt8} (hp : Part W B cap n l) (hg : W.grownBy W' (some B)) : KeepsOthers W W' :=
  KeepsOthers.of_grownBy hg (fun j o e ho => by
    cases e
    obtain ⟨cur, h1, _⟩ := hp
    rw [h1] at ho
    cases ho
    rfl)
set_option maxRecDepth 100000 in
set_option maxHeartbeats 2000000 in
theorem weighted_any (L : List (List UInt8)) (sz : Nat) (v : Value) (w : World) (hl : L.length ≤ 1000000) (hsz : sz ≤ 4096) (hv : Pcs w.heap.size w v L) (hp : ∀ b ∈ L, b.length = 0 ∨ b.length = sz) : Calls Tryd.prog 64 #[v, .int .i64 (sz : Int)] w (SumPost w sz (colQ 0 L)) := by
  obtain ⟨ao, cp, rfl⟩ := hv.shape
  have HV : Hid (Pcs w.heap.size w (.slice ao L.length cp) L) := hv
  have HPL := hid_mk hp
  clear hv hp
  obtain ⟨w0, hmk, hp0, hb0, hs0⟩ := mk_tally sz w hsz
  have HP0 := hid_mk hp0
  have HB0 := hid_mk hb0
  have HS0 := hid_mk hs0
  clear hp0 hb0 hs0
  refine (callsIn_wide (n := 3)).1 ?_
  refine callsIn_of_wp_marks Tryd.func64 rfl trivial ?_ rfl
  simp only [Tryd.ntmps64, List.size_toArray, List.length_cons, List.length_nil, Nat.reduceAdd, Nat.reduceSub, Array.replicate_succ, Array.replicate_zero, List.push_toArray, List.append_toArray, List.nil_append, List.cons_append]
  gi_wp2_with (refine ⟨trivial, ?_⟩; gi_at_call 75; refine (backward_in _ _ _ _ _).mono ?_; rintro e w' ⟨rfl, rfl⟩)
  clear hmk
  obtain ⟨X, hX⟩ : ∃ X, X = w0.heap.size := ⟨_, rfl⟩
  obtain ⟨W0, hW0⟩ : ∃ W0, W0 = (w0.alloc (Obj.cells #[Value.slice (some ⟨w.heap.size, 0, none⟩) sz sz] 82)).alloc (Obj.cells #[Value.slice ao L.length cp] 68) := ⟨_, rfl⟩
  have HX : X = w.heap.size + 1 := hX.trans HS0.out
  have hs1 : (w0.alloc (Obj.cells #[Value.slice (some ⟨w.heap.size, 0, none⟩) sz sz] 82)).heap.size = X + 1 := by rw [hX]; simp
  have hsW : W0.heap.size = X + 2 := by rw [hW0, hX]; simp
  have hbW : Below w.heap.size w W0 := by rw [hW0]; exact (HB0.out.alloc HB0.out.size _).alloc (by rw [hs1]; omega) _
  have hcW : W0.cell? ⟨X + 1, 0, none⟩ = some (.slice ao L.length cp) := by
    have h := heap_alloc_new (w0.alloc (Obj.cells #[Value.slice (some ⟨w.heap.size, 0, none⟩) sz sz] 82)) (Obj.cells #[Value.slice ao L.length cp] 68)
    rw [hs1, ← hW0] at h
    simp [World.cell?, h]
  have hI0 : WI w sz X (hor []) W0 := by
    refine ⟨?_, ?_, hbW⟩
    · rw [hW0, heap_alloc_old _ _ _ (by rw [hs1]; omega), hX, heap_alloc_new]
    · have h0 := HP0.out.lt
      refine (HP0.out.keep (w' := W0) ?_)
      rw [hW0, heap_alloc_old _ _ _ (by rw [hs1]; omega), heap_alloc_old _ _ _ h0]
  rw [← hW0, ← hX]
  clear hW0 hX HB0 HS0 HP0 hs1
  refine wpIn_rangeFunc_ownF rfl (by omega) (gf := 79) (lb := #[.pointer (some ⟨X + 1, 0, none⟩)]) rfl trivial (enters_of Tryd.func79 (by kernel_rfl) rfl)
    (backward_stops (3 - 1) (X + 1) w.heap.size W0.heap.size w.heap.size sz _ L (by omega) hl w W0 (by omega) (by omega) (by omega) (by omega) (by omega) (Nat.le_refl _) hcW hbW HV.out HPL.out) (fun h k => KB.trans h k) (fun W l o o' h1 h2 h3 h4 => KB.put W l o o' h1 h2 h3 h4) (Below.refl _ _) (fun _ => rfl)
    (fun pre W => WI w sz X (hor (pre.map El.l)) W) (fun _ _ _ => False) (WI.own (by omega) (by omega)) (fun _ _ _ _ _ hs _ _ => hs) hI0
    (fun x => { tmps := #[.slice ao L.length cp, .int .i64 (sz : Int), undef, undef, .slice none 0 0, .pointer (some ⟨X, 0, none⟩), undef, x.v, .int .i64 (sz : Int), .slice (some ⟨w.heap.size, 0, none⟩) sz sz, .slice ao L.length cp, .func (.func 79) #[] #[.pointer (some ⟨X + 1, 0, none⟩)], .int .i64 (x.i : Int), x.v, undef, undef, undef, undef, undef, undef], defers := [] }) ?assign ?body ?done ?stop
  case assign =>
    intro l x W K hK
    clear HX hsW
    gi_wp2
    exact hK
  case body =>
    rintro l pre x W hI _
    have hc := hI.cell
    have HI := hid_mk hI
    have HXX := hid_mk HX
    have HT := hid_mk (tdouble_any (hor (pre.map El.l)) sz sz w.heap.size sz W rfl (by omega) hI.part)
    clear hI HX hsW hI0 hcW
    gi_wp2_with fail
    refine ⟨trivial, (CallsIn.inRound l (callsIn_wide.2 HT.out)).mono ?_⟩
    rintro e w1 ⟨⟨u, rfl⟩, hp1, hg1⟩
    have HI1 := hid_mk (HI.out.step (by have := HXX.out; omega) hg1 hp1)
    have HG1 := hid_mk hg1
    have hc1 := HI1.out.cell
    have HA := hid_mk (add_any x.l (fun i => dbl (hor (pre.map El.l) i)) sz sz w.heap.size sz x.v w1 rfl (by omega) hp1 x.len ((x.rd.below HI1.out.below (Nat.le_refl _)).to_ne (Nat.le_refl _) HI1.out.below.size))
    clear hp1 hg1 HT hc
    gi_wp2_with fail
    refine ⟨trivial, (CallsIn.inRound l (callsIn_wide.2 HA.out)).mono ?_⟩
    rintro e w2 ⟨⟨u, rfl⟩, hp2, hg2⟩
    have HI2 := hid_mk (HI1.out.step (by have := HXX.out; omega) hg2 hp2)
    have HG2 := hid_mk (grown_trans HG1.out hg2)
    clear hp2 hg2 HA hc1
    gi_wp2
    refine ⟨keeps_part HI.out.part HG2.out, KB.grown HG2.out, ?_⟩
    have h := HI2.out
    show WI w sz X (hor ((pre ++ [x]).map El.l)) w2
    rw [List.map_append]
    have e : hor (pre.map El.l ++ [x].map El.l) = fun i => dbl (hor (pre.map El.l) i) ^^^ at0 x.l i := by funext i; exact hor_snoc _ _ i
    rw [e]; exact h
  case done =>
    rintro D ys W hD hS hI hK
    have hc := hI.cell
    have HI := hid_mk hI
    have HXX := hid_mk HX
    have HSW := hid_mk hsW
    have HSS := hid_mk hS
    have HDD : Hid (w.heap.size < D) := by show _ < _; omega
    clear hI HX hsW hS hD hI0 hcW
    gi_wp2
    refine ⟨by simp, .inl ⟨_, _, rfl, run_takeDeferred hK, ?_⟩⟩
    have hg := grownBy_putObj' W D (.deferred none)
    refine ⟨_, results_tmp rfl _ _ _, w.heap.size, rfl, Nat.le_refl _, ?_, ?_⟩
    · have h := HI.out.part.keep (hg.block _ HI.out.part.lt (fun e => by cases e; exact absurd HDD.out (Nat.lt_irrefl _)))
      rw [HSS.out, vec_congr (fun i _ => hor_rev L i)] at h
      exact h
    · exact HI.out.below.grown hg HI.out.below.size (fun k e => by cases e; exact Nat.le_of_lt HDD.out)
  case stop =>
    rintro D c pre W _ _ h _
    exact h.elim
end Go.Proofs.YtigaabhicjcbjabDoor
