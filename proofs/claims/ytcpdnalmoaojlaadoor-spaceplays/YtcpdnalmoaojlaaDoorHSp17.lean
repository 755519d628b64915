import Derived.Test.YtcpdnalmoaojlaaDoorHRg
import Derived.Test.YtcpdnalmoaojlaaDoorHSp3
import Derived.Test.YtcpdnalmoaojlaaDoorHSp15
import Derived.Test.YtcpdnalmoaojlaaDoorHSp8

/-
  What the pieces of a space, and its runs, hand on.
-/
namespace Go.Proofs.YtcpdnalmoaojlaaDoor
open Go.RowKit Go.Shelf
set_option linter.unusedVariables false
attribute [local go_sem] Oper.semAt_some

theorem pieces_seq (Bt bs : Nat) (p0 : Option Addr) (ls : List Pc) (G : Pc → Prop) (hG : ∀ x ∈ ls, G x) (w0 w : World) (hT : KT w0 p0 ls) (hs : w0.cell? ⟨bs, 3, none⟩ = some (.pointer p0)) (hbs : bs < w0.heap.size) (hb : Below w0.heap.size w0 w) (hBt : Bt < w.heap.size) (hc : w.cell? ⟨Bt, 0, none⟩ = some (.pointer (some ⟨bs, 0, none⟩))) :
    SeqU Tryd.prog 67 #[.pointer (some ⟨Bt, 0, none⟩)] (fun x : Pc => #[Value.agg (pcv x)]) G (fun k => k < w0.heap.size ∨ k = Bt) (fun ys => ys = ls) (fun pre => pre <+: ls) ls.length w := by
  intro n l J Jx U W hK hU fJ fJx hY h0
  have hw : w0.heap.size ≤ W.heap.size := Nat.le_trans hb.size hK.size
  have hbW : Below w0.heap.size w0 W := hb.trans (hK.below hb.size (fun k hk => .inl hk))
  have hcW : W.cell? ⟨Bt, 0, none⟩ = some (.pointer (some ⟨bs, 0, none⟩)) := (World.cell?_of_block (w := w) (hK.block Bt hBt (.inr rfl))).trans hc
  have hsW : W.cell? ⟨bs, 3, none⟩ = some (.pointer p0) := (hbW.cell (p := ⟨bs, 3, none⟩) hbs).trans hs
  refine (pieces1_in n l Bt bs p0 ls w0 G hG (fun pre X => ∃ V, Grow U W V X ∧ J pre V X) (fun pre X => ∃ V, Grow U W V X ∧ Jx pre V X) ?_ W hcW hsW hT hbW ⟨U, Grow.refl (fun k hk => (hU k hk).2), h0⟩).mono ?_
  · rintro pre x X hGx ⟨V, hg, hj⟩ hlen
    refine YieldAt.mono (hY (n - 1) pre V x X hGx hj (fun k hk => (hg.sub k hk).2) hlen) ?_
    rintro e X' ⟨V', hg', (⟨rfl, hj'⟩ | ⟨rfl, hj'⟩)⟩
    · refine .inl ⟨rfl, ⟨V', hg.trans hg', hj'⟩, hg'.kept.below (Nat.le_trans hw hg.kept.size) ?_⟩
      intro k hk hv
      rcases (hg.sub k hv).1 with h | h
      · exact (hU k h).1 (.inl hk)
      · omega
    · exact .inr ⟨rfl, V', hg.trans hg', hj'⟩
  · rintro e W' ⟨he, (⟨ys, hys, V, hg, hj⟩ | ⟨pre, hp, V, hg, hj⟩)⟩
    · exact ⟨he, V, hg, .inl ⟨ys, hys, hj⟩⟩
    · exact ⟨he, V, hg, .inr ⟨pre, hp, hj⟩⟩
def fil (l : List Pc) : List Pc := l.filter isUsed
theorem fil_snoc (l : List Pc) (x : Pc) : fil (l ++ [x]) = if isUsed x then fil l ++ [x] else fil l := by
  unfold fil
  rw [List.filter_append]
  by_cases h : isUsed x = true
  · simp [h]
  · simp [h]
theorem fil_le (l : List Pc) : (fil l).length ≤ l.length := List.length_filter_le _ _
/-- What the runs' loop keeps: that of the loop that asks, and the box of its function. -/
def RunI (l0 B2 : Nat) (J : List Pc → (Nat → Prop) → World → Prop) (pre : List Pc) (V : Nat → Prop) (X : World) : Prop :=
  ∃ V' : Nat → Prop, J (fil pre) V' X ∧ (∀ k, V' k → k < X.heap.size ∧ k ≠ B2) ∧ (∀ k, V k ↔ (V' k ∨ k = B2)) ∧ X.heap[B2]? = some (.cells #[.func (.yield l0) #[] #[]] 97 (0, 0))
theorem RunI.foot {l0 B2 : Nat} {J : List Pc → (Nat → Prop) → World → Prop} (hJ : Foot J) : Foot (RunI l0 B2 J) := by
  rintro pre V W W' ⟨V', hj, hb, hV, hc⟩ hK
  exact ⟨V', hJ _ _ _ _ hj (hK.sub (fun k _ h => (hV k).2 (.inl h))), fun k hk => ⟨Nat.lt_of_lt_of_le (hb k hk).1 hK.size, (hb k hk).2⟩, hV, (hK.block _ (Array.getElem?_eq_some_iff.1 hc).1 ((hV _).2 (.inr rfl))).trans hc⟩
def RunAct (l0 Bt B2 B3 bs b : Nat) (x : Pc) : Act :=
  { tmps := #[.func (.yield l0) #[] #[], .pointer (some ⟨Bt, 0, none⟩), .pointer (some ⟨B2, 0, none⟩), .pointer (some ⟨b, 0, none⟩), .pointer (some ⟨bs, 0, none⟩), .func (.func 67) #[] #[.pointer (some ⟨B3, 0, none⟩)], .agg #[.int .i64 (x.at' : Int), .int .i64 (x.n : Int), .int .i64 (x.count : Int), .int .u64 (x.tag : Int), .int .u8 (x.st : Int)], undef, undef, undef, undef, undef, undef, undef, undef, undef, undef], defers := [] }
def RunA (l0 Bt B2 B3 bs : Nat) (J : List Pc → (Nat → Prop) → World → Prop) (pre : List Pc) (x : Pc) (a' : Act) (V : Nat → Prop) (X : World) : Prop :=
  ∃ (V' : Nat → Prop) (b : Nat), a' = RunAct l0 Bt B2 B3 bs b x ∧ J (fil pre) V' X ∧ (∀ k, V' k → k < X.heap.size ∧ k ≠ B2 ∧ k ≠ b) ∧ b ≠ B2 ∧ (∀ k, V k ↔ (V' k ∨ k = B2 ∨ k = b)) ∧ X.heap[B2]? = some (.cells #[.func (.yield l0) #[] #[]] 97 (0, 0)) ∧ X.heap[b]? = some (.cells (pcv x) 103 (0, 0))
theorem RunA.foot {l0 Bt B2 B3 bs : Nat} {J : List Pc → (Nat → Prop) → World → Prop} (hJ : Foot J) (pre : List Pc) (x : Pc) (a' : Act) : Foot1 (RunA l0 Bt B2 B3 bs J pre x a') := by
  rintro V W W' ⟨V', b, ha, hj, hb, hne, hV, hc, hd⟩ hK
  exact ⟨V', b, ha, hJ _ _ _ _ hj (hK.sub (fun k _ h => (hV k).2 (.inl h))), fun k hk => ⟨Nat.lt_of_lt_of_le (hb k hk).1 hK.size, (hb k hk).2⟩, hne, hV, (hK.block _ (Array.getElem?_eq_some_iff.1 hc).1 ((hV _).2 (.inr (.inl rfl)))).trans hc, (hK.block _ (Array.getElem?_eq_some_iff.1 hd).1 ((hV _).2 (.inr (.inr rfl)))).trans hd⟩
set_option maxRecDepth 100000 in
set_option maxHeartbeats 2000000 in
theorem runs_seq (Bt bs : Nat) (p0 : Option Addr) (ls : List Pc) (G : Pc → Prop) (hG : ∀ x ∈ ls, G x) (w0 w : World) (hT : KT w0 p0 ls) (hs : w0.cell? ⟨bs, 3, none⟩ = some (.pointer p0)) (hbs : bs < w0.heap.size) (hb : Below w0.heap.size w0 w) (hBt : Bt < w.heap.size) (hc : w.cell? ⟨Bt, 0, none⟩ = some (.pointer (some ⟨bs, 0, none⟩))) :
    SeqU Tryd.prog 54 #[.pointer (some ⟨Bt, 0, none⟩)] (fun x : Pc => #[Value.agg (runv x)]) G (fun k => k < w0.heap.size ∨ k = Bt) (fun ys => ys = fil ls) (fun pre => pre <+: fil ls) ls.length w := by
  intro n l0 J Jx U W hK hU fJ fJx hY h0
  have hw : w0.heap.size ≤ W.heap.size := Nat.le_trans hb.size hK.size
  have hbW : Below w0.heap.size w0 W := hb.trans (hK.below hb.size (fun k hk => .inl hk))
  have hcW : W.cell? ⟨Bt, 0, none⟩ = some (.pointer (some ⟨bs, 0, none⟩)) := (World.cell?_of_block (w := w) (hK.block Bt hBt (.inr rfl))).trans hc
  have hBtW : Bt < W.heap.size := Nat.lt_of_lt_of_le hBt hK.size
  obtain ⟨B2, hB2⟩ : ∃ B2, B2 = W.heap.size := ⟨_, rfl⟩
  obtain ⟨W1, hW1⟩ : ∃ W1, W1 = W.alloc (.cells #[.func (.yield l0) #[] #[]] 97) := ⟨_, rfl⟩
  have s1 : W1.heap.size = B2 + 1 := by rw [hW1, hB2]; simp
  have b1 : Below W.heap.size W W1 := by rw [hW1]; exact (Below.refl _ W).alloc (Nat.le_refl _) _
  have c1 : W1.cell? ⟨Bt, 0, none⟩ = some (.pointer (some ⟨bs, 0, none⟩)) := (b1.cell (p := ⟨Bt, 0, none⟩) hBtW).trans hcW
  have e1 : W1.heap[B2]? = some (.cells #[.func (.yield l0) #[] #[]] 97 (0, 0)) := by rw [hW1, hB2]; exact World.alloc_heap_new _ _
  obtain ⟨W2, hW2⟩ : ∃ W2, W2 = W1.alloc (.cells #[.pointer (some ⟨bs, 0, none⟩)] 24) := ⟨_, rfl⟩
  have s2 : W2.heap.size = B2 + 2 := by rw [hW2]; simp [s1]
  have b2 : Below W1.heap.size W1 W2 := by rw [hW2]; exact (Below.refl _ W1).alloc (Nat.le_refl _) _
  have e2 : W2.heap[B2]? = some (.cells #[.func (.yield l0) #[] #[]] 97 (0, 0)) := (b2.block B2 (by omega)).trans e1
  have c2 : W2.cell? ⟨B2 + 1, 0, none⟩ = some (.pointer (some ⟨bs, 0, none⟩)) := by
    have h := World.alloc_heap_new W1 (.cells #[.pointer (some ⟨bs, 0, none⟩)] 24)
    rw [← hW2, s1] at h
    simp [World.cell?, h]
  have b12 : Below W.heap.size W W2 := b1.trans (b2.mono b1.size)
  have bw2 : Below w0.heap.size w0 W2 := hbW.trans (b12.mono hw)
  have GR : ∀ (V V' : Nat → Prop) (X : World) (D : Nat), W2.heap.size ≤ D → (∀ k, V' k → V k) → ¬ V' B2 → Grow (fun k => U k ∨ k = B2) W2 V X → Grow U W V' (X.putObj D (.deferred none)) := by
    intro V V' X D hD hsub hnB hgr
    refine ⟨⟨hgr.kept.os.trans b12.os, hgr.kept.tape.trans b12.tape, hgr.kept.output.trans b12.output, by have := hgr.kept.size; rw [World.putObj_size]; omega, fun k hk hu => ?_⟩, fun k hk => ?_⟩
    · rw [World.putObj_heap_other (by omega)]
      refine (hgr.kept.block k (by omega) ?_).trans (b12.block k hk)
      rintro (h | h)
      · exact hu h
      · omega
    · obtain ⟨h1, h2⟩ := hgr.sub k (hsub k hk)
      refine ⟨?_, by rw [World.putObj_size]; exact h2⟩
      rcases h1 with (h | rfl) | h
      · exact .inl h
      · exact absurd hk hnB
      · exact .inr (by omega)
  refine callsIn_of_wp_marks Tryd.func54 rfl trivial ?_ rfl
  simp only [Tryd.ntmps54, List.size_toArray, List.length_cons, List.length_nil, Nat.reduceAdd, Nat.reduceSub, Array.replicate_succ, Array.replicate_zero, List.push_toArray, List.append_toArray, List.nil_append, List.cons_append]
  gi_wp2_with (refine ⟨trivial, ?_⟩; (try refine ⟨fun h => (by cases h), ?_⟩); gi_at_call 55; refine (pieces_in _ _ _).mono ?_; rintro e w' ⟨rfl, rfl⟩)
  rw [← hW1, ← hW2, ← hB2]
  refine range_own (n := n) (gf := 67) (lb := #[.pointer (some ⟨B2 + 1, 0, none⟩)]) rfl (enters_of Tryd.func67 (by kernel_rfl) rfl)
    (pieces_seq (B2 + 1) bs p0 ls G hG w0 W2 hT hs hbs bw2 (by omega) c2) (Kept.refl _ _) (Nat.le_refl _) (fun k hk => by rcases hk with h | h <;> omega) (fun _ => rfl)
    (RunI l0 B2 J) (fun c pre V X => c = Code.ret ∧ ∃ V' : Nat → Prop, Jx (fil pre) V' X ∧ ¬ V' B2 ∧ (∀ k, V' k → V k)) (RunA l0 Bt B2 (B2 + 1) bs J) (RunI.foot fJ) ?_ (RunA.foot fJ) (fun k => U k ∨ k = B2) ?_ ?_ ?_ ?_ ?_ ?_
  · rintro c pre V W W' ⟨hc', V', hj, hn, hs'⟩ hK'
    exact ⟨hc', V', fJx _ _ _ _ hj (hK'.sub (fun k _ h => hs' k h)), hn, hs'⟩
  · rintro k (hk | rfl)
    · refine ⟨?_, by have := (hU k hk).2; omega⟩
      rintro (h | h)
      · exact (hU k hk).1 (.inl h)
      · have := (hU k hk).2; omega
    · exact ⟨by rintro (h | h) <;> omega, by omega⟩
  · exact ⟨U, fJ _ _ _ _ h0 (Kept.of_below b12), fun k hk => by have := (hU k hk).2; omega, fun k => Iff.rfl, e2⟩
  · clear hT hs hbs hb hBt hc hK hU h0 hY hw hbW hcW hBtW hB2 hW1 s1 b1 c1 e1 hW2 s2 b2 e2 c2 b12 bw2 GR
    intro l m pre x V X hGx hI hV
    obtain ⟨V', hj, hbb, hVV, hcc⟩ := hI
    have HX : Hid (∃ V'', Grow V X V'' (X.alloc (.cells (pcv x) 103)) ∧ RunA l0 Bt B2 (B2 + 1) bs J pre x (RunAct l0 Bt B2 (B2 + 1) bs X.heap.size x) V'' (X.alloc (.cells (pcv x) 103))) := by
      have hbe : Below X.heap.size X (X.alloc (.cells (pcv x) 103)) := (Below.refl _ X).alloc (Nat.le_refl _) _
      have hlt : B2 < X.heap.size := (Array.getElem?_eq_some_iff.1 hcc).1
      refine ⟨fun k => V k ∨ k = X.heap.size, ⟨Kept.of_below hbe, ?_⟩, V', X.heap.size, rfl, fJ _ _ _ _ hj (Kept.of_below hbe), ?_, by omega, ?_, (hbe.block _ hlt).trans hcc, World.alloc_heap_new _ _⟩
      · rintro k (hk | rfl)
        · exact ⟨.inl hk, by have := hV k hk; simp; omega⟩
        · exact ⟨.inr (Nat.le_refl _), by simp⟩
      · intro k hk
        obtain ⟨h1, h2⟩ := hbb k hk
        exact ⟨by simp; omega, h2, by omega⟩
      · intro k
        show (V k ∨ k = X.heap.size) ↔ _
        rw [hVV k]
        exact or_assoc
    clear hj hbb hVV hcc hV fJ fJx
    unfold RunAct at HX
    unfold pcv at HX ⊢
    gi_wp2
    exact HX.out
  · rintro l m pre x a' V X hGx ⟨V', b, rfl, hj, hbb, hne, hVV, hcc, hdd⟩ hV hlen
    have q0 : X.cell? ⟨b, 0, none⟩ = some (.int .i64 (x.at' : Int)) := by simp [World.cell?, hdd, pcv]
    have q1 : X.cell? ⟨b, 1, none⟩ = some (.int .i64 (x.n : Int)) := by simp [World.cell?, hdd, pcv]
    have q2 : X.cell? ⟨b, 2, none⟩ = some (.int .i64 (x.count : Int)) := by simp [World.cell?, hdd, pcv]
    have q3 : X.cell? ⟨b, 3, none⟩ = some (.int .u64 (x.tag : Int)) := by simp [World.cell?, hdd, pcv]
    have q4 : X.cell? ⟨b, 4, none⟩ = some (.int .u8 (x.st : Int)) := by simp [World.cell?, hdd, pcv]
    have q5 : X.cell? ⟨B2, 0, none⟩ = some (.func (.yield l0) #[] #[]) := by simp [World.cell?, hcc]
    by_cases hu : isUsed x = true
    · obtain ⟨fn, tmps, assign, body, hy, hR⟩ := hY m (fil pre) V' x X hGx hj (fun k hk => (hbb k hk).1) (Nat.lt_of_le_of_lt (fil_le pre) hlen)
      have hst : ¬ (x.st : Int) = 2 := by simp [isUsed] at hu; omega
      have hst' : ¬ x.st = 2 := by omega
      unfold runv at hy
      have HRR := hid_mk hR
      clear hT hs hbs hb hBt hc hK hU h0 hY hw hbW hcW hBtW hB2 hW1 s1 b1 c1 e1 hW2 s2 b2 e2 c2 b12 bw2 fJ fJx hj hR GR
      unfold RunAct
      gi_wp2
      refine ⟨fun h => (by cases h), (show RoundIn (Fence.wide.inRound l) (m - 1) Tryd.prog l0 fn tmps assign body X _ from roundAny HRR.out).mono ?_⟩
      clear HRR hy
      rintro e X' ⟨V'', g', hor⟩
      have HG : Hid (Grow V X (fun k => V'' k ∨ k = B2) X') := by
        refine ⟨g'.kept.sub (fun k _ h h' => h ((hVV k).2 (.inl h'))), ?_⟩
        rintro k (hk | rfl)
        · obtain ⟨h1, h2⟩ := g'.sub k hk
          exact ⟨h1.imp (fun h => (hVV k).2 (.inl h)) id, h2⟩
        · exact ⟨.inl ((hVV _).2 (.inr (.inl rfl))), Nat.lt_of_lt_of_le (Array.getElem?_eq_some_iff.1 hcc).1 g'.kept.size⟩
      have HB : Hid (∀ k, V'' k → k < X'.heap.size ∧ k ≠ B2) := fun k hk => by
        obtain ⟨h1, h2⟩ := g'.sub k hk
        refine ⟨h2, ?_⟩
        rintro rfl
        rcases h1 with h | h
        · exact (hbb _ h).2.1 rfl
        · have := (Array.getElem?_eq_some_iff.1 hcc).1; omega
      have HE : Hid (X'.heap[B2]? = some (.cells #[.func (.yield l0) #[] #[]] 97 (0, 0))) := (g'.kept.block _ (Array.getElem?_eq_some_iff.1 hcc).1 (fun h => (hbb _ h).2.1 rfl)).trans hcc
      have HF : Hid (fil (pre ++ [x]) = fil pre ++ [x]) := by show _ = _; rw [fil_snoc, if_pos hu]
      clear g' hbb hVV hcc hdd
      rcases hor with ⟨rfl, hj'⟩ | ⟨rfl, hj'⟩
      · have HJ := hid_mk hj'
        clear hj'
        gi_wp2
        exact ⟨_, HG.out, V'', by rw [HF.out]; exact HJ.out, HB.out, fun k => Iff.rfl, HE.out⟩
      · have HJ := hid_mk hj'
        clear hj'
        gi_wp2
        exact ⟨_, HG.out, rfl, V'', by rw [HF.out]; exact HJ.out, fun h => (HB.out _ h).2 rfl, fun k h => .inl h⟩
    · have hst : (x.st : Int) = 2 := by simp [isUsed] at hu; omega
      have HI : Hid (RunI l0 B2 J (pre ++ [x]) (fun k => V' k ∨ k = B2) X) := ⟨V', by rw [fil_snoc, if_neg hu]; exact hj, fun k hk => ⟨(hbb k hk).1, (hbb k hk).2.1⟩, fun k => Iff.rfl, hcc⟩
      have HG : Hid (Grow V X (fun k => V' k ∨ k = B2) X) := by
        refine ⟨Kept.refl _ _, ?_⟩
        rintro k (hk | rfl)
        · exact ⟨.inl ((hVV k).2 (.inl hk)), (hbb k hk).1⟩
        · exact ⟨.inl ((hVV _).2 (.inr (.inl rfl))), (Array.getElem?_eq_some_iff.1 hcc).1⟩
      clear hT hs hbs hb hBt hc hK hU h0 hY hw hbW hcW hBtW hB2 hW1 s1 b1 c1 e1 hW2 s2 b2 e2 c2 b12 bw2 fJ fJx hj GR
      unfold RunAct
      gi_wp2
      refine ⟨fun _ h => (by cases h), ?_⟩
      gi_wp2
      all_goals try (exfalso; have hh := ‹some undef = some (Value.bool _)›; simp [undef] at hh; done)
      exact ⟨_, HG.out, HI.out⟩
  · rintro D xs V X hD hS ⟨V', hj, hbb, hVV, hcc⟩ hgr hnD hd
    have hp0 : ∀ v, (fun (e : Ending) (W' : World) => (∃ v, e = .returned v) ∧ ∃ U', Grow U W U' W' ∧ ((∃ xs, xs = fil ls ∧ J xs U' W') ∨ ∃ pre, pre <+: fil ls ∧ Jx pre U' W')) (.returned v) (X.putObj D (.deferred none)) := fun v =>
      ⟨⟨_, rfl⟩, V', GR V V' X D hD (fun k hk => (hVV k).2 (.inl hk)) (fun h => (hbb _ h).2 rfl) hgr, .inl ⟨_, by rw [hS], fJ _ _ _ _ hj (Kept.put _ _ (fun h => hnD ((hVV _).2 (.inl h))))⟩⟩
    have HP := hid_mk hp0
    clear hT hs hbs hb hBt hc hK hU h0 hY hw hbW hcW hBtW hB2 hW1 s1 b1 c1 e1 hW2 s2 b2 e2 c2 b12 bw2 fJ fJx hj hbb hVV hcc hgr hnD hS hD hp0 GR
    gi_wp2
    refine ⟨by simp, .inl ⟨_, _, rfl, run_takeDeferred hd, ?_⟩⟩
    refine ⟨_, results_none rfl _ _ _, ?_⟩
    simpa using HP.out (.tuple #[])
  · rintro D c pre V X hD hSp ⟨rfl, V', hj, hnB, hsub⟩ hgr hnD hd
    have hp0 : ∀ v, (fun (e : Ending) (W' : World) => (∃ v, e = .returned v) ∧ ∃ U', Grow U W U' W' ∧ ((∃ xs, xs = fil ls ∧ J xs U' W') ∨ ∃ pre, pre <+: fil ls ∧ Jx pre U' W')) (.returned v) (X.putObj D (.deferred none)) := fun v =>
      ⟨⟨_, rfl⟩, V', GR V V' X D hD hsub hnB hgr, .inr ⟨_, hSp.filter _, fJx _ _ _ _ hj (Kept.put _ _ (fun h => hnD (hsub _ h)))⟩⟩
    have HP := hid_mk hp0
    clear hT hs hbs hb hBt hc hK hU h0 hY hw hbW hcW hBtW hB2 hW1 s1 b1 c1 e1 hW2 s2 b2 e2 c2 b12 bw2 fJ fJx hj hnB hsub hgr hnD hSp hD hp0 GR
    gi_wp2
    refine ⟨by simp, .inl ⟨_, _, rfl, run_takeDeferred hd, ?_⟩⟩
    refine ⟨_, results_none rfl _ _ _, ?_⟩
    simpa using HP.out (.tuple #[])
end Go.Proofs.YtcpdnalmoaojlaaDoor

/-
  Runs, Bytes.
-/
namespace Go.Proofs.YtcpdnalmoaojlaaDoor
open Go.RowKit Go.Shelf
set_option linter.unusedVariables false
set_option linter.unusedSimpArgs false
attribute [local go_sem] Oper.semAt_some

set_option maxHeartbeats 1000000 in
theorem runs_in (n : Nat) (s : Option Addr) (w : World) :
    CallsIn Fence.wide n Tryd.prog 38 #[.pointer s] w fun e w' => e = .returned (.func (.func 54) #[] #[.pointer (some ⟨w.heap.size, 0, none⟩)]) ∧ w' = w.alloc (.cells #[.pointer s] 24) := by
  refine callsIn_of_wp Tryd.func38 rfl trivial ?_ rfl
  simp only [Tryd.ntmps38, List.size_toArray, List.length_cons, List.length_nil, Nat.reduceAdd, Nat.reduceSub, Array.replicate_succ, Array.replicate_zero, List.push_toArray, List.append_toArray, List.nil_append, List.cons_append]
  gi_wp2
  go_ret
  exact ⟨rfl, rfl⟩
/-- A piece whose numbers are small. -/
def Small (x : Pc) : Prop := x.at' ≤ 1073741824 ∧ x.n ≤ 1073741824 ∧ x.count ≤ 65535 ∧ x.tag < 18446744073709551616
theorem SpOk.small {rows : Nat} {l : List Pc} (h : SpOk rows l) : ∀ x ∈ l, Small x := fun x hx => by
  obtain ⟨h1, h2, h3⟩ := fits_mem h.fits x hx
  obtain ⟨_, h5, h6, _⟩ := h.ok x hx
  have h4 := h.rows30
  have e : x.stop = x.at' + x.n := rfl
  exact ⟨by omega, by omega, h5, h6⟩
/-- The box of a slice, and a run's box. -/
structure BS (B Bb b : Nat) (v : Value) (l : List UInt8) (x : Pc) (X : World) : Prop where
  box : X.heap[Bb]? = some (.cells #[v] 53 (0, 0))
  run : X.heap[b]? = some (.cells (runv x) 48 (0, 0))
  owns : Owns X B v l
  n1 : ¬ own v Bb
  n2 : ¬ own v b
  ne : Bb ≠ b
theorem bs_step {B Bb b : Nat} {v v' : Value} {l l' : List UInt8} {x : Pc} {X X1 : World} (h : BS B Bb b v l x X) (h1 : Owns X1 B v' l') (g : Grow (own v) X (own v') X1) :
    BS B Bb b v' l' x (X1.setCell ⟨Bb, 0, none⟩ v') ∧ Grow (fun k => own v k ∨ k = Bb) X (fun k => own v' k ∨ k = Bb) (X1.setCell ⟨Bb, 0, none⟩ v') := by
  have hB := (Array.getElem?_eq_some_iff.1 h.box).1
  have hb := (Array.getElem?_eq_some_iff.1 h.run).1
  have hs := g.kept.size
  have n1 : ¬ own v' Bb := fun hk => (g.sub _ hk).1.elim h.n1 (fun hk => by omega)
  have n2 : ¬ own v' b := fun hk => (g.sub _ hk).1.elim h.n2 (fun hk => by omega)
  have e1 := (g.kept.block Bb hB h.n1).trans h.box
  have e2 := (g.kept.block b hb h.n2).trans h.run
  refine ⟨⟨?_, ?_, ?_, n1, n2, h.ne⟩, ⟨⟨g.kept.os, g.kept.tape, g.kept.output, by simp [World.setCell]; exact hs, fun k hk hu => ?_⟩, ?_⟩⟩
  · rw [heap_put e1]
    simp
  · rw [Below.heap_setCell _ _ _ _ (Ne.symm h.ne)]
    exact e2
  · refine World.ownsRow.kept h1 (w' := X1.setCell ⟨Bb, 0, none⟩ v') (row := some Bb) ⟨rfl, rfl, rfl, by simp [World.setCell], fun k _ hk => Below.heap_setCell _ _ _ _ (fun e => hk (by rw [e]))⟩ (.inr n1)
  · rw [Below.heap_setCell _ _ _ _ (fun e => hu (.inr e))]
    exact g.kept.block k hk (fun h => hu (.inl h))
  · rintro k (hk | rfl)
    · obtain ⟨h3, h4⟩ := g.sub k hk
      exact ⟨h3.imp .inl id, by simp [World.setCell]; exact h4⟩
    · exact ⟨.inl (.inr rfl), by simp [World.setCell]; omega⟩
theorem BS.cells {B Bb b : Nat} {v : Value} {l : List UInt8} {x : Pc} {X : World} (h : BS B Bb b v l x X) : X.cell? ⟨Bb, 0, none⟩ = some v ∧ X.frozen? ⟨Bb, 0, none⟩ = false ∧ X.cell? ⟨b, 0, none⟩ = some (.int .i64 (x.at' : Int)) ∧ X.cell? ⟨b, 1, none⟩ = some (.int .i64 (x.n : Int)) ∧ X.cell? ⟨b, 2, none⟩ = some (.int .i64 (x.count : Int)) ∧ X.cell? ⟨b, 3, none⟩ = some (.int .u64 (x.tag : Int)) :=
  ⟨by simp [World.cell?, h.box], unfrozen h.box 0, by simp [World.cell?, h.run, runv], by simp [World.cell?, h.run, runv], by simp [World.cell?, h.run, runv], by simp [World.cell?, h.run, runv]⟩
/-- What the loop of Bytes keeps. -/
def ByI (B Bb rows : Nat) (pre : List Pc) (V : Nat → Prop) (X : World) : Prop :=
  ∃ v, X.heap[Bb]? = some (.cells #[v] 53 (0, 0)) ∧ Owns X B v (spB rows pre) ∧ ¬ own v Bb ∧ ∀ k, V k ↔ (own v k ∨ k = Bb)
theorem Owns.kept {U : Nat → Prop} {W W' : World} {B : Nat} {v : Value} {l : List UInt8} (h : Owns W B v l) (hK : Kept U W W') (hu : ∀ k, own v k → U k) : Owns W' B v l := by
  refine ⟨h.1, ?_⟩
  rcases h.2 with hn | ⟨g, c, cur, rfl, h4, h5, h6⟩
  · exact .inl hn
  · exact .inr ⟨g, c, cur, rfl, h4, (hK.block g (Array.getElem?_eq_some_iff.1 h5).1 (hu g rfl)).trans h5, h6⟩
theorem ByI.foot (B Bb rows : Nat) : Foot (ByI B Bb rows) := by
  rintro pre V W W' ⟨v, h1, h2, h3, h4⟩ hK
  exact ⟨v, (hK.block _ (Array.getElem?_eq_some_iff.1 h1).1 ((h4 _).2 (.inr rfl))).trans h1, h2.kept hK (fun k hk => (h4 k).2 (.inl hk)), h3, h4⟩
def ByAct (s rows Bb Bt b : Nat) (v0 : Value) (x : Pc) : Act :=
  { tmps := #[.pointer (some ⟨s, 0, none⟩), undef, .slice none 0 0, .pointer (some ⟨Bb, 0, none⟩), .pointer (some ⟨b, 0, none⟩), .pointer (some ⟨s, 0, none⟩), .pointer (some ⟨s, 0, none⟩), .pointer (some ⟨s, 0, none⟩), .int .i64 (rows : Int), .int .u64 (rows : Int), v0, .pointer (some ⟨s, 0, none⟩), .func (.func 54) #[] #[.pointer (some ⟨Bt, 0, none⟩)], .agg #[.int .i64 (x.at' : Int), .int .i64 (x.n : Int), .int .i64 (x.count : Int), .int .u64 (x.tag : Int)], undef, undef, undef, undef, undef, undef, undef, undef, undef, undef, undef, undef, undef, undef, undef, undef, undef, undef, undef, undef], defers := [] }
def ByA (B s rows Bb Bt : Nat) (v0 : Value) (pre : List Pc) (x : Pc) (a' : Act) (V : Nat → Prop) (X : World) : Prop :=
  ∃ v b, a' = ByAct s rows Bb Bt b v0 x ∧ BS B Bb b v (spB rows pre) x X ∧ (∀ k, V k ↔ (own v k ∨ k = Bb ∨ k = b))
theorem ByA.foot (B s rows Bb Bt : Nat) (v0 : Value) (pre : List Pc) (x : Pc) (a' : Act) : Foot1 (ByA B s rows Bb Bt v0 pre x a') := by
  rintro V W W' ⟨v, b, h1, h2, h3⟩ hK
  exact ⟨v, b, h1, ⟨(hK.block _ (Array.getElem?_eq_some_iff.1 h2.box).1 ((h3 _).2 (.inr (.inl rfl)))).trans h2.box, (hK.block _ (Array.getElem?_eq_some_iff.1 h2.run).1 ((h3 _).2 (.inr (.inr rfl)))).trans h2.run, h2.owns.kept hK (fun k hk => (h3 k).2 (.inl hk)), h2.n1, h2.n2, h2.ne⟩, h3⟩
theorem Owns.form {w : World} {B : Nat} {v : Value} {l : List UInt8} (h : Owns w B v l) : ∃ ao n cp, v = .slice ao n cp := by
  obtain ⟨ao, cp, h⟩ := h.shape
  exact ⟨ao, _, cp, h⟩
theorem spB_snoc (rows : Nat) (pre : List Pc) (x : Pc) : spB rows (pre ++ [x]) = (((spB rows pre ++ toLe x.at' 4) ++ toLe x.n 4) ++ toLe x.count 2) ++ toLe x.tag 8 := by
  simp [spB, runB]
theorem spB_length (rows : Nat) (l : List Pc) : (spB rows l).length = 4 + 18 * l.length := by
  unfold spB
  rw [List.length_append, toLe_length, flat_length]
end Go.Proofs.YtcpdnalmoaojlaaDoor
