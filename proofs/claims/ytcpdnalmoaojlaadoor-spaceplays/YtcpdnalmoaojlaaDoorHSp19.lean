import Derived.Test.YtcpdnalmoaojlaaDoorHSp17

/-
  Bytes.
-/
namespace Go.Proofs.YtcpdnalmoaojlaaDoor
open Go.RowKit Go.Shelf
set_option linter.unusedVariables false
set_option linter.unusedSimpArgs false
attribute [local go_sem] Oper.semAt_some

theorem alloc_old_sp (w : World) (o : Obj) (i : Nat) (h : i < w.heap.size) : (w.alloc o).heap[i]? = w.heap[i]? := by
  show (w.heap.push o)[i]? = w.heap[i]?
  rw [Array.getElem?_push, if_neg (Nat.ne_of_lt h)]

set_option maxRecDepth 100000 in
set_option maxHeartbeats 4000000 in
theorem bytes_any (s rows : Nat) (l : List Pc) (w : World) (hs : SpAt w s rows l) (hok : SpOk rows l) :
    Calls Tryd.prog 45 #[.pointer (some ⟨s, 0, none⟩)] w fun e w' => ∃ v, e = .returned v ∧ Owns w' w.heap.size v (spB rows (fil l)) ∧ Below w.heap.size w w' := by
  have hlt := hs.lt
  obtain ⟨p0, hc, hk⟩ := hs
  obtain ⟨c0, _, _, c3⟩ := sp_cells hc
  have h30 := hok.rows30
  have hlen := fits_len hok.fits
  have hw64 : IntKind.u64.wrap (rows : Int) = (rows : Int) := by simp only [IntKind.wrap, IntKind.bits, IntKind.signed]; simp; omega
  have H0 := hid_mk (append_any [] w.heap.size rows 4 (.slice none 0 0) w (by omega) (by omega) (by simp) (Nat.le_refl _) (owns_nil _ _))
  refine (callsIn_wide (n := 3)).1 ?_
  refine callsIn_of_wp_marks Tryd.func45 rfl trivial ?_ rfl
  simp only [Tryd.ntmps45, List.size_toArray, List.length_cons, List.length_nil, Nat.reduceAdd, Nat.reduceSub, Array.replicate_succ, Array.replicate_zero, List.push_toArray, List.append_toArray, List.nil_append, List.cons_append]
  gi_wp2_with (first
    | (refine ⟨trivial, ?_⟩; (try refine ⟨fun h => (by cases h), ?_⟩); gi_at_call 65; refine (callsIn_wide.2 H0.out).mono ?_; clear H0; rintro e w1 ⟨v0, rfl, ho1, hg1⟩; obtain ⟨az, nz, cz, rfl⟩ := ho1.form; have HO1 := hid_mk ho1; have HG1 := hid_mk hg1; clear ho1 hg1)
    | (refine ⟨trivial, ?_⟩; (try refine ⟨fun h => (by cases h), ?_⟩); gi_at_call 38; refine (runs_in _ _ _).mono ?_; rintro e w' ⟨rfl, rfl⟩))
  obtain ⟨Bb, hBb⟩ : ∃ Bb, Bb = w1.heap.size := ⟨_, rfl⟩
  obtain ⟨W0, hW0⟩ : ∃ W0, W0 = (w1.alloc (.cells #[.slice az nz cz] 53)).alloc (.cells #[.pointer (some ⟨s, 0, none⟩)] 24) := ⟨_, rfl⟩
  have hs1 : (w1.alloc (.cells #[.slice az nz cz] 53)).heap.size = Bb + 1 := by rw [hBb]; simp
  have hsW : W0.heap.size = Bb + 2 := by rw [hW0, hBb]; simp
  have hww1 := HG1.out.kept.size
  have b1 : Below w1.heap.size w1 W0 := by rw [hW0]; exact ((Below.refl _ w1).alloc (Nat.le_refl _) _).alloc (by simp) _
  have own0 : ∀ k, own (.slice az nz cz) k → w.heap.size ≤ k ∧ k < w1.heap.size := fun k hk => by
    obtain ⟨h1, h2⟩ := HG1.out.sub k hk
    refine ⟨?_, h2⟩
    rcases h1 with h | h
    · simp [own, Value.ownBlock] at h
    · exact h
  have bw : Below w.heap.size w W0 := (HG1.out.kept.below (Nat.le_refl _) (fun k hk h => by simp [own, Value.ownBlock] at h)).trans (b1.mono hww1)
  have box0 : W0.heap[Bb]? = some (.cells #[.slice az nz cz] 53 (0, 0)) := by
    rw [hW0, alloc_old_sp _ _ _ (by rw [hs1]; omega), hBb]
    exact heap_alloc_new _ _
  have cT : W0.cell? ⟨Bb + 1, 0, none⟩ = some (.pointer (some ⟨s, 0, none⟩)) := by
    have h := heap_alloc_new (w1.alloc (.cells #[.slice az nz cz] 53)) (.cells #[.pointer (some ⟨s, 0, none⟩)] 24)
    rw [hs1, ← hW0] at h
    simp [World.cell?, h]
  rw [← hW0, ← hBb]
  refine range_own (n := 3) (gf := 54) (lb := #[.pointer (some ⟨Bb + 1, 0, none⟩)]) rfl (enters_of Tryd.func54 (by kernel_rfl) rfl)
    (runs_seq (Bb + 1) s p0 l Small hok.small w W0 hk c3 hlt bw (by omega) cT) (Kept.refl _ _) (Nat.le_refl _) (fun k hk => by rcases hk with h | h <;> omega) (fun _ => rfl)
    (ByI w.heap.size Bb rows) (fun _ _ _ _ => False) (ByA w.heap.size s rows Bb (Bb + 1) (.slice az nz cz)) (ByI.foot _ _ _) (fun _ _ _ _ _ h _ => h) (ByA.foot _ _ _ _ _ _) (fun k => own (.slice az nz cz) k ∨ k = Bb) ?_ ?_ ?_ ?_ ?_ ?_
  · rintro k (hk | rfl)
    · have := own0 k hk
      exact ⟨by rintro (h | h) <;> omega, by omega⟩
    · exact ⟨by rintro (h | h) <;> omega, by omega⟩
  · refine ⟨_, box0, ?_, fun h => by have := own0 _ h; omega, fun k => Iff.rfl⟩
    have h := HO1.out.below b1
    simpa [spB] using h
  · clear hok hk c3 c0 hlen hBb hW0 hs1 hsW hww1 b1 own0 bw box0 cT hc hlt HO1 HG1
    intro l' m pre x V X hG hI hV
    obtain ⟨v, h1, h2, h3, h4⟩ := hI
    have HX : Hid (∃ V'', Grow V X V'' (X.alloc (.cells (runv x) 48)) ∧ ByA w.heap.size s rows Bb (Bb + 1) (.slice az nz cz) pre x (ByAct s rows Bb (Bb + 1) X.heap.size (.slice az nz cz) x) V'' (X.alloc (.cells (runv x) 48))) := by
      have hbe : Below X.heap.size X (X.alloc (.cells (runv x) 48)) := (Below.refl _ X).alloc (Nat.le_refl _) _
      have hB := (Array.getElem?_eq_some_iff.1 h1).1
      have ho := owns_lt h2
      refine ⟨fun k => V k ∨ k = X.heap.size, ⟨Kept.of_below hbe, ?_⟩, v, X.heap.size, rfl, ⟨(hbe.block _ hB).trans h1, heap_alloc_new _ _, h2.below hbe, h3, fun h => by have := ho _ h; omega, by omega⟩, ?_⟩
      · rintro k (hk | rfl)
        · exact ⟨.inl hk, by have := hV k hk; simp; omega⟩
        · exact ⟨.inr (Nat.le_refl _), by simp⟩
      · intro k
        show (V k ∨ k = X.heap.size) ↔ _
        rw [h4 k]
        exact or_assoc
    clear h1 h2 h3 h4 hV hG
    unfold ByAct at HX
    unfold runv at HX ⊢
    gi_wp2
    exact HX.out
  · rintro l' m pre x a' V X0 hG ⟨v, b, rfl, hbs, hVV⟩ hV hlen'
    obtain ⟨g1, g2, g3, g4⟩ := hG
    obtain ⟨ao0, n0, cp0, rfl⟩ := hbs.owns.form
    have HS0 := hid_mk hbs
    have HVV := hid_mk hVV
    have HLN : Hid ((spB rows pre).length ≤ 4 + 18 * 1073741824) := by show _ ≤ _; rw [spB_length]; omega
    have HBZ0 : Hid (w.heap.size ≤ X0.heap.size) := by
      have := (Array.getElem?_eq_some_iff.1 hbs.box).1
      show _ ≤ _
      omega
    have HBT : Hid (Bb < X0.heap.size) := (Array.getElem?_eq_some_iff.1 hbs.box).1
    have x1 : IntKind.u64.wrap (x.at' : Int) = (x.at' : Int) := by simp only [IntKind.wrap, IntKind.bits, IntKind.signed]; simp; omega
    have x2 : IntKind.u64.wrap (x.n : Int) = (x.n : Int) := by simp only [IntKind.wrap, IntKind.bits, IntKind.signed]; simp; omega
    have x3 : IntKind.u64.wrap (x.count : Int) = (x.count : Int) := by simp only [IntKind.wrap, IntKind.bits, IntKind.signed]; simp; omega
    obtain ⟨q0, qf, q1, q2, q3, q4⟩ := hbs.cells
    clear hok hk c3 c0 hlen hBb hW0 hs1 hsW hww1 b1 own0 bw box0 cT hc hlt HO1 HG1 hbs hVV hV hlen'
    unfold ByAct
    gi_wp2_with fail
    refine ⟨trivial, ?_⟩
    try refine ⟨fun h => (by cases h), ?_⟩
    gi_at_call 65
    refine (CallsIn.inRound l' (callsIn_wide.2 (append_any (spB rows pre) w.heap.size x.at' 4 _ X0 (by omega) (by omega) (by have := HLN.out; (try simp only [List.length_append, toLe_length]); omega) HBZ0.out HS0.out.owns))).mono ?_
    rintro e Y1 ⟨v1, rfl, ho, hg⟩
    obtain ⟨ao1, n1, cp1, rfl⟩ := ho.form
    have HSG1 := hid_mk (bs_step HS0.out ho hg)
    have y0 : Y1.cell? ⟨Bb, 0, none⟩ = some (.slice ao0 n0 cp0) := (World.cell?_of_block (w := X0) (hg.kept.block Bb (Array.getElem?_eq_some_iff.1 HS0.out.box).1 HS0.out.n1)).trans HS0.out.cells.1
    have yf : Y1.frozen? ⟨Bb, 0, none⟩ = false := unfrozen ((hg.kept.block Bb (Array.getElem?_eq_some_iff.1 HS0.out.box).1 HS0.out.n1).trans HS0.out.box) 0
    have yr := fun i => World.cell?_of_block (w := X0) (w' := Y1) (a := ⟨b, i, none⟩) (hg.kept.block b (Array.getElem?_eq_some_iff.1 HS0.out.run).1 HS0.out.n2)
    have y1 := (yr 0).trans HS0.out.cells.2.2.1
    have y2 := (yr 1).trans HS0.out.cells.2.2.2.1
    have y3 := (yr 2).trans HS0.out.cells.2.2.2.2.1
    have y4 := (yr 3).trans HS0.out.cells.2.2.2.2.2
    clear ho hg yr q0 qf q1 q2 q3 q4
    obtain ⟨X1, hX1⟩ : ∃ X1, X1 = Y1.setCell ⟨Bb, 0, none⟩ (.slice ao1 n1 cp1) := ⟨_, rfl⟩
    rw [← hX1] at HSG1
    have HS1 := hid_mk HSG1.out.1
    have HGG1 : Hid (Grow (fun k => own (.slice ao0 n0 cp0) k ∨ k = Bb) X0 (fun k => own (.slice ao1 n1 cp1) k ∨ k = Bb) X1) := HSG1.out.2
    have HBZ1 : Hid (w.heap.size ≤ X1.heap.size) := Nat.le_trans HBZ0.out HGG1.out.kept.size
    gi_wp2_with fail
    rw [← hX1]
    clear hX1 y0 yf y1 y2 y3 y4
    obtain ⟨q0, qf, q1, q2, q3, q4⟩ := HS1.out.cells
    refine ⟨trivial, ?_⟩
    try refine ⟨fun h => (by cases h), ?_⟩
    gi_at_call 65
    refine (CallsIn.inRound l' (callsIn_wide.2 (append_any (spB rows pre ++ toLe x.at' 4) w.heap.size x.n 4 _ X1 (by omega) (by omega) (by have := HLN.out; (try simp only [List.length_append, toLe_length]); omega) HBZ1.out HS1.out.owns))).mono ?_
    rintro e Y2 ⟨v2, rfl, ho, hg⟩
    obtain ⟨ao2, n2, cp2, rfl⟩ := ho.form
    have HSG2 := hid_mk (bs_step HS1.out ho hg)
    have y0 : Y2.cell? ⟨Bb, 0, none⟩ = some (.slice ao1 n1 cp1) := (World.cell?_of_block (w := X1) (hg.kept.block Bb (Array.getElem?_eq_some_iff.1 HS1.out.box).1 HS1.out.n1)).trans HS1.out.cells.1
    have yf : Y2.frozen? ⟨Bb, 0, none⟩ = false := unfrozen ((hg.kept.block Bb (Array.getElem?_eq_some_iff.1 HS1.out.box).1 HS1.out.n1).trans HS1.out.box) 0
    have yr := fun i => World.cell?_of_block (w := X1) (w' := Y2) (a := ⟨b, i, none⟩) (hg.kept.block b (Array.getElem?_eq_some_iff.1 HS1.out.run).1 HS1.out.n2)
    have y1 := (yr 0).trans HS1.out.cells.2.2.1
    have y2 := (yr 1).trans HS1.out.cells.2.2.2.1
    have y3 := (yr 2).trans HS1.out.cells.2.2.2.2.1
    have y4 := (yr 3).trans HS1.out.cells.2.2.2.2.2
    clear ho hg yr q0 qf q1 q2 q3 q4
    obtain ⟨X2, hX2⟩ : ∃ X2, X2 = Y2.setCell ⟨Bb, 0, none⟩ (.slice ao2 n2 cp2) := ⟨_, rfl⟩
    rw [← hX2] at HSG2
    have HS2 := hid_mk HSG2.out.1
    have HGG2 : Hid (Grow (fun k => own (.slice ao0 n0 cp0) k ∨ k = Bb) X0 (fun k => own (.slice ao2 n2 cp2) k ∨ k = Bb) X2) := HGG1.out.trans HSG2.out.2
    have HBZ2 : Hid (w.heap.size ≤ X2.heap.size) := Nat.le_trans HBZ0.out HGG2.out.kept.size
    gi_wp2_with fail
    rw [← hX2]
    clear hX2 y0 yf y1 y2 y3 y4
    obtain ⟨q0, qf, q1, q2, q3, q4⟩ := HS2.out.cells
    refine ⟨trivial, ?_⟩
    try refine ⟨fun h => (by cases h), ?_⟩
    gi_at_call 65
    refine (CallsIn.inRound l' (callsIn_wide.2 (append_any ((spB rows pre ++ toLe x.at' 4) ++ toLe x.n 4) w.heap.size x.count 2 _ X2 (by omega) (by omega) (by have := HLN.out; (try simp only [List.length_append, toLe_length]); omega) HBZ2.out HS2.out.owns))).mono ?_
    rintro e Y3 ⟨v3, rfl, ho, hg⟩
    obtain ⟨ao3, n3, cp3, rfl⟩ := ho.form
    have HSG3 := hid_mk (bs_step HS2.out ho hg)
    have y0 : Y3.cell? ⟨Bb, 0, none⟩ = some (.slice ao2 n2 cp2) := (World.cell?_of_block (w := X2) (hg.kept.block Bb (Array.getElem?_eq_some_iff.1 HS2.out.box).1 HS2.out.n1)).trans HS2.out.cells.1
    have yf : Y3.frozen? ⟨Bb, 0, none⟩ = false := unfrozen ((hg.kept.block Bb (Array.getElem?_eq_some_iff.1 HS2.out.box).1 HS2.out.n1).trans HS2.out.box) 0
    have yr := fun i => World.cell?_of_block (w := X2) (w' := Y3) (a := ⟨b, i, none⟩) (hg.kept.block b (Array.getElem?_eq_some_iff.1 HS2.out.run).1 HS2.out.n2)
    have y1 := (yr 0).trans HS2.out.cells.2.2.1
    have y2 := (yr 1).trans HS2.out.cells.2.2.2.1
    have y3 := (yr 2).trans HS2.out.cells.2.2.2.2.1
    have y4 := (yr 3).trans HS2.out.cells.2.2.2.2.2
    clear ho hg yr q0 qf q1 q2 q3 q4
    obtain ⟨X3, hX3⟩ : ∃ X3, X3 = Y3.setCell ⟨Bb, 0, none⟩ (.slice ao3 n3 cp3) := ⟨_, rfl⟩
    rw [← hX3] at HSG3
    have HS3 := hid_mk HSG3.out.1
    have HGG3 : Hid (Grow (fun k => own (.slice ao0 n0 cp0) k ∨ k = Bb) X0 (fun k => own (.slice ao3 n3 cp3) k ∨ k = Bb) X3) := HGG2.out.trans HSG3.out.2
    have HBZ3 : Hid (w.heap.size ≤ X3.heap.size) := Nat.le_trans HBZ0.out HGG3.out.kept.size
    gi_wp2_with fail
    rw [← hX3]
    clear hX3 y0 yf y1 y2 y3 y4
    obtain ⟨q0, qf, q1, q2, q3, q4⟩ := HS3.out.cells
    refine ⟨trivial, ?_⟩
    try refine ⟨fun h => (by cases h), ?_⟩
    gi_at_call 65
    refine (CallsIn.inRound l' (callsIn_wide.2 (append_any (((spB rows pre ++ toLe x.at' 4) ++ toLe x.n 4) ++ toLe x.count 2) w.heap.size x.tag 8 _ X3 (by omega) (by omega) (by have := HLN.out; (try simp only [List.length_append, toLe_length]); omega) HBZ3.out HS3.out.owns))).mono ?_
    rintro e Y4 ⟨v4, rfl, ho, hg⟩
    obtain ⟨ao4, n4, cp4, rfl⟩ := ho.form
    have HSG4 := hid_mk (bs_step HS3.out ho hg)
    have y0 : Y4.cell? ⟨Bb, 0, none⟩ = some (.slice ao3 n3 cp3) := (World.cell?_of_block (w := X3) (hg.kept.block Bb (Array.getElem?_eq_some_iff.1 HS3.out.box).1 HS3.out.n1)).trans HS3.out.cells.1
    have yf : Y4.frozen? ⟨Bb, 0, none⟩ = false := unfrozen ((hg.kept.block Bb (Array.getElem?_eq_some_iff.1 HS3.out.box).1 HS3.out.n1).trans HS3.out.box) 0
    have yr := fun i => World.cell?_of_block (w := X3) (w' := Y4) (a := ⟨b, i, none⟩) (hg.kept.block b (Array.getElem?_eq_some_iff.1 HS3.out.run).1 HS3.out.n2)
    have y1 := (yr 0).trans HS3.out.cells.2.2.1
    have y2 := (yr 1).trans HS3.out.cells.2.2.2.1
    have y3 := (yr 2).trans HS3.out.cells.2.2.2.2.1
    have y4 := (yr 3).trans HS3.out.cells.2.2.2.2.2
    clear ho hg yr q0 qf q1 q2 q3 q4
    obtain ⟨X4, hX4⟩ : ∃ X4, X4 = Y4.setCell ⟨Bb, 0, none⟩ (.slice ao4 n4 cp4) := ⟨_, rfl⟩
    rw [← hX4] at HSG4
    have HS4 := hid_mk HSG4.out.1
    have HGG4 : Hid (Grow (fun k => own (.slice ao0 n0 cp0) k ∨ k = Bb) X0 (fun k => own (.slice ao4 n4 cp4) k ∨ k = Bb) X4) := HGG3.out.trans HSG4.out.2
    have HBZ4 : Hid (w.heap.size ≤ X4.heap.size) := Nat.le_trans HBZ0.out HGG4.out.kept.size
    gi_wp2
    rw [← hX4]
    clear hX4 y0 yf y1 y2 y3 y4
    refine ⟨fun k => own (.slice ao4 n4 cp4) k ∨ k = Bb, ?_, _, HS4.out.box, ?_, HS4.out.n1, fun k => Iff.rfl⟩
    · have hg := HGG4.out
      refine ⟨hg.kept.sub (fun k _ h h' => h ((HVV.out k).2 (h'.imp id .inl))), fun k hk => ?_⟩
      obtain ⟨h1, h2⟩ := hg.sub k hk
      exact ⟨h1.imp (fun h => (HVV.out k).2 (h.imp id .inl)) id, h2⟩
    · rw [spB_snoc]
      exact HS4.out.owns
  · rintro D xs V X hD hS ⟨v, h1, h2, h3, h4⟩ hgr hnD hd
    obtain ⟨ao, n0, cp, rfl⟩ := h2.form
    have hcell : X.cell? ⟨Bb, 0, none⟩ = some (.slice ao n0 cp) := by simp [World.cell?, h1]
    have hp : Owns (X.putObj D (.deferred none)) w.heap.size (.slice ao n0 cp) (spB rows (fil l)) ∧ Below w.heap.size w (X.putObj D (.deferred none)) := by
      refine ⟨?_, ?_⟩
      · rw [← hS]
        exact h2.kept (Kept.put (U := own (.slice ao n0 cp)) D _ (fun h => hnD ((h4 D).2 (.inl h)))) (fun k hk => hk)
      · refine bw.trans ((hgr.kept.below (by omega) (fun k hk h => ?_)).trans ⟨rfl, rfl, rfl, by simp, fun k hk => World.putObj_heap_other (by omega)⟩)
        rcases h with h | h
        · have := own0 k h; omega
        · omega
    have HP := hid_mk hp
    clear hok hk c3 c0 hlen hBb hW0 hs1 hsW hww1 b1 own0 bw box0 cT hc hlt HO1 HG1 hp hS hgr hnD h1 h2 h3 h4 hD
    gi_wp2
    refine ⟨by simp, .inl ⟨_, _, rfl, run_takeDeferred hd, ?_⟩⟩
    refine ⟨_, results_tmp (t := 2) rfl _ _ _, _, rfl, ?_, HP.out.2⟩
    exact HP.out.1
  · rintro D c pre V W _ _ h
    exact h.elim
end Go.Proofs.YtcpdnalmoaojlaaDoor
