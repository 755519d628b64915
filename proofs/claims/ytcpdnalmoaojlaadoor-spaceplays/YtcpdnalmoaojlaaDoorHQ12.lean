import Derived.Test.YtcpdnalmoaojlaaDoorHSp20
import Derived.RegionIn

/-
  plain's list of runs, and the first ones of it.
-/
namespace Go.Proofs.YtcpdnalmoaojlaaDoor
open Go.RowKit Go.Shelf
set_option linter.unusedVariables false
set_option linter.unusedSimpArgs false
attribute [local go_sem] Oper.semAt_some

/-- A box that holds a slice of runs. -/
structure BoxR (n₀ b : Nat) (pre : List Pc) (v : Value) (X : World) : Prop where
  box : X.heap[b]? = some (.cells #[v] 43 (0, 0))
  row : ROwns X n₀ v pre
  no : ¬ own v b
theorem BoxR.kept {n₀ b : Nat} {pre : List Pc} {v : Value} {U : Nat → Prop} {W W' : World} (h : BoxR n₀ b pre v W) (hK : Kept U W W') (hb : U b) (hu : ∀ k, own v k → U k) : BoxR n₀ b pre v W' :=
  ⟨(hK.block _ (Array.getElem?_eq_some_iff.1 h.box).1 hb).trans h.box, h.row.kept hK hu, h.no⟩
theorem BoxR.step {n₀ b : Nat} {pre : List Pc} {v v' : Value} {x : Pc} {X X1 w2 : World} (h : BoxR n₀ b pre v X) (hX : Below X.heap.size X X1) (h1 : w2.ownsRow n₀ 48 4 v' (pre.length + 1) ((pre.flatMap fun x => (runv x).toList) ++ (runv x).toList)) (h2 : Grow (own v) X1 (own v') w2) :
    w2.heap[b]? = some (.cells #[v] 43 (0, 0)) ∧ BoxR n₀ b (pre ++ [x]) v' (w2.setCell ⟨b, 0, none⟩ v') ∧ Kept (fun k => ¬ own v k ∧ k ≠ b) X (w2.setCell ⟨b, 0, none⟩ v') ∧ ∀ k, own v' k → (own v k ∨ X.heap.size ≤ k) ∧ k < (w2.setCell ⟨b, 0, none⟩ v').heap.size := by
  have hbl := (Array.getElem?_eq_some_iff.1 h.box).1
  have hs : (w2.setCell ⟨b, 0, none⟩ v').heap.size = w2.heap.size := by simp [World.setCell]
  have e1 : w2.heap[b]? = some (.cells #[v] 43 (0, 0)) := (h2.kept.block b (Nat.lt_of_lt_of_le hbl hX.size) h.no).trans ((hX.block b hbl).trans h.box)
  have hr : ROwns w2 n₀ v' (pre ++ [x]) := by unfold ROwns; rw [List.length_append, List.flatMap_append]; simpa using h1
  have hno : ¬ own v' b := fun e => (h2.sub b e).1.elim h.no (fun e => by have := hX.size; omega)
  have hkk : Kept (fun k => k ≠ b) w2 (w2.setCell ⟨b, 0, none⟩ v') := ⟨rfl, rfl, rfl, by rw [hs]; exact Nat.le_refl _, fun k _ hk => Below.heap_setCell _ _ _ _ hk⟩
  refine ⟨e1, ⟨by rw [heap_put e1]; simp, hr.kept hkk (fun k hk e => hno (e ▸ hk)), hno⟩, ?_, fun k hk => ?_⟩
  · exact ((Kept.of_below hX).trans (h2.kept.sub fun k _ hk => hk.1)).trans (hkk.sub fun k _ hk => hk.2)
  · rw [hs]
    obtain ⟨q1, q2⟩ := h2.sub k hk
    refine ⟨q1.elim .inl fun q => .inr (Nat.le_trans hX.size q), q2⟩
/-- What the first loop keeps. -/
def M1I (n₀ B K : Nat) (pre : List Pc) (V : Nat → Prop) (X : World) : Prop :=
  ∃ v, pre.length ≤ K ∧ X.heap[B]? = some (.cells #[.int .i64 (K : Int)] 3 (0, 0)) ∧ BoxR n₀ (B + 1) pre v X ∧ ¬ own v B ∧ ¬ own v (B + 2) ∧ X.heap[B + 2]? = some (.cells #[.slice none 0 0] 43 (0, 0)) ∧ ∀ k, V k ↔ (own v k ∨ k = B ∨ k = B + 1 ∨ k = B + 2)
theorem M1I.foot (n₀ B K : Nat) : Foot (M1I n₀ B K) := by
  rintro pre V W W' ⟨v, h0, h1, h2, h3, h4, h5, h6⟩ hK
  exact ⟨v, h0, (hK.block _ (Array.getElem?_eq_some_iff.1 h1).1 ((h6 _).2 (.inr (.inl rfl)))).trans h1, h2.kept hK ((h6 _).2 (.inr (.inr (.inl rfl)))) (fun k hk => (h6 k).2 (.inl hk)), h3, h4, (hK.block _ (Array.getElem?_eq_some_iff.1 h5).1 ((h6 _).2 (.inr (.inr (.inr rfl))))).trans h5, h6⟩
/-- What the second loop keeps. -/
def M2I (n₀ B : Nat) (part : List Pc) (pre : List Pc) (V : Nat → Prop) (X : World) : Prop :=
  ∃ v v1, BoxR n₀ (B + 2) pre v X ∧ BoxR n₀ (B + 1) part v1 X ∧ ¬ own v (B + 1) ∧ ¬ own v1 (B + 2) ∧ (∀ k, own v k → ¬ own v1 k) ∧ ∀ k, V k ↔ (own v k ∨ own v1 k ∨ k = B + 1 ∨ k = B + 2)
theorem M2I.foot (n₀ B : Nat) (part : List Pc) : Foot (M2I n₀ B part) := by
  rintro pre V W W' ⟨v, v1, h1, h2, h3, h4, h5, h6⟩ hK
  exact ⟨v, v1, h1.kept hK ((h6 _).2 (.inr (.inr (.inr rfl)))) (fun k hk => (h6 k).2 (.inl hk)), h2.kept hK ((h6 _).2 (.inr (.inr (.inl rfl)))) (fun k hk => (h6 k).2 (.inr (.inl hk))), h3, h4, h5, h6⟩
def M2T (gf K : Nat) (lb : Array Value) (B : Nat) (b x : Value) : Array Value :=
  #[.func (.func gf) #[] lb, .int .i64 (K : Int), undef, .pointer (some ⟨B, 0, none⟩), .slice none 0 0, .slice none 0 0, .pointer (some ⟨B + 1, 0, none⟩), .pointer (some ⟨B + 2, 0, none⟩), undef, b, .func (.func gf) #[] lb, .bool false, .func (.func gf) #[] lb, undef, undef, undef, undef, undef, undef, undef, undef, undef, .func (.func gf) #[] lb, x, undef, undef, undef, undef, undef, undef]
def M1T (gf K : Nat) (lb : Array Value) (B : Nat) (b x : Value) : Array Value :=
  #[.func (.func gf) #[] lb, .int .i64 (K : Int), undef, .pointer (some ⟨B, 0, none⟩), .slice none 0 0, .slice none 0 0, .pointer (some ⟨B + 1, 0, none⟩), .pointer (some ⟨B + 2, 0, none⟩), b, undef, .func (.func gf) #[] lb, .bool false, .func (.func gf) #[] lb, x, undef, undef, undef, undef, undef, undef, undef, undef, undef, undef, undef, undef, undef, undef, undef, undef]
/-- A round of either loop: what it keeps, and the box of the one that has come. -/
def MA (J : List Pc → (Nat → Prop) → World → Prop) (T : Value → Value → Array Value) (pre : List Pc) (x : Pc) (a' : Act) (V : Nat → Prop) (X : World) : Prop :=
  ∃ b V', a' = { tmps := T (.pointer (some ⟨b, 0, none⟩)) (.agg (runv x)), defers := [] } ∧ J pre V' X ∧ (∀ k, V k ↔ (V' k ∨ k = b)) ∧ X.heap[b]? = some (.cells (runv x) 48 (0, 0))
theorem MA.foot {J : List Pc → (Nat → Prop) → World → Prop} (hJ : Foot J) (T : Value → Value → Array Value) (pre : List Pc) (x : Pc) (a' : Act) : Foot1 (MA J T pre x a') := by
  rintro V W W' ⟨b, V', h1, h2, h3, h5⟩ hK
  exact ⟨b, V', h1, hJ _ _ _ _ h2 (hK.sub (fun k _ h => (h3 k).2 (.inl h))), h3, (hK.block _ (Array.getElem?_eq_some_iff.1 h5).1 ((h3 _).2 (.inr rfl))).trans h5⟩
theorem MA.start {J : List Pc → (Nat → Prop) → World → Prop} (hJ : Foot J) (T : Value → Value → Array Value) (pre : List Pc) (x : Pc) (V : Nat → Prop) (X : World) (hI : J pre V X) (hV : ∀ k, V k → k < X.heap.size) :
    ∃ V'', Grow V X V'' (X.alloc (.cells (runv x) 48)) ∧ MA J T pre x { tmps := T (.pointer (some ⟨X.heap.size, 0, none⟩)) (.agg (runv x)), defers := [] } V'' (X.alloc (.cells (runv x) 48)) := by
  have hbe : Below X.heap.size X (X.alloc (.cells (runv x) 48)) := (Below.refl _ X).alloc (Nat.le_refl _) _
  refine ⟨fun k => V k ∨ k = X.heap.size, ⟨Kept.of_below hbe, ?_⟩, X.heap.size, V, rfl, hJ _ _ _ _ hI (Kept.of_below hbe), fun k => Iff.rfl, heap_alloc_new _ _⟩
  rintro k (hk | rfl)
  · exact ⟨.inl hk, by have := hV k hk; simp; omega⟩
  · exact ⟨.inr (Nat.le_refl _), by simp⟩
theorem new_cells (X : World) (x : Pc) : ∀ j u, (runv x).toList[j]? = some u → (X.alloc (.cells (runv x) 48)).cell? ((⟨X.heap.size, 0, none⟩ : Addr).add j) = some u := by
  intro j u hj
  have h := heap_alloc_new X (.cells (runv x) 48)
  have e : (⟨X.heap.size, 0, none⟩ : Addr).add j = ⟨X.heap.size, j, none⟩ := by
    unfold Addr.add
    by_cases h0 : j = 0
    · rw [if_pos h0, h0]
    · rw [if_neg h0, Nat.zero_add]
  rw [e]
  simp only [World.cell?, h]
  simpa using hj
theorem ROwns.frm {w : World} {B : Nat} {v : Value} {l : List Pc} (h : ROwns w B v l) : ∃ ao cp, v = .slice ao l.length cp := by
  rcases h.2 with ⟨rfl, hn⟩ | ⟨g, c, cur, rfl, _⟩
  · exact ⟨none, 0, by rw [hn]⟩
  · exact ⟨_, _, rfl⟩
theorem ROwns.bas {w : World} {B : Nat} {v : Value} {l : List Pc} (h : ROwns w B v l) : ∀ k, own v k → B ≤ k ∧ ∃ c, w.heap[k]? = some (.cells c 48 (0, 0)) := fun k hk => by
  rcases h.2 with ⟨rfl, _⟩ | ⟨g, c, cur, rfl, h4, h5, _⟩
  · simp [own, Value.ownBlock] at hk
  · have e : g = k := by simpa [own, Value.ownBlock] using hk
    subst e
    exact ⟨h4, _, h5⟩
end Go.Proofs.YtcpdnalmoaojlaaDoor

/-
  plain's list of runs, and the first ones of it, walked.
-/
namespace Go.Proofs.YtcpdnalmoaojlaaDoor
open Go.RowKit Go.Shelf
set_option linter.unusedVariables false
set_option linter.unusedSimpArgs false
attribute [local go_sem] Oper.semAt_some

theorem alloc_old_qm (w : World) (o : Obj) (i : Nat) (h : i < w.heap.size) : (w.alloc o).heap[i]? = w.heap[i]? := by
  show (w.heap.push o)[i]? = w.heap[i]?
  rw [Array.getElem?_push, if_neg (Nat.ne_of_lt h)]

set_option maxRecDepth 100000 in
set_option maxHeartbeats 8000000 in
theorem listed_most (gf K : Nat) (lb : Array Value) (G : Pc → Prop) (Own : Nat → Prop) (N : Nat) (ls : List Pc) (w : World) (eg : ∀ args w, (callFunc gf args).run Tryd.prog w = .ok (.enter gf args) w)
    (hseq : SeqU Tryd.prog gf lb (fun x : Pc => #[Value.agg (runv x)]) G Own (fun ys => ys = ls) (fun pre => pre <+: ls) N w) (hOwn : ∀ k, Own k → k < w.heap.size) (hN : N ≤ 1073741824) :
    Calls Tryd.prog 37 #[.func (.func gf) #[] lb, .int .i64 (K : Int)] w fun e w' => ∃ v1 v, e = .returned (.tuple #[v1, v]) ∧ ROwns w' w.heap.size v1 (ls.take K) ∧ ROwns w' w.heap.size v ls ∧ Below w.heap.size w w' := by
  have hbin : ∀ W, (binOp BinOp.eql 78 (.func (.func gf) #[] lb) .nilFunc).run Tryd.prog W = .ok (.bool false) W := fun W => by kernel_rfl
  refine (callsIn_wide (n := 3)).1 ?_
  refine callsIn_of_wp_marks Tryd.func37 rfl trivial ?_ rfl
  simp only [Tryd.ntmps37, List.size_toArray, List.length_cons, List.length_nil, Nat.reduceAdd, Nat.reduceSub, Array.replicate_succ, Array.replicate_zero, List.push_toArray, List.append_toArray, List.nil_append, List.cons_append]
  gi_wp2
  obtain ⟨B, hB⟩ : ∃ B, B = w.heap.size := ⟨_, rfl⟩
  obtain ⟨W0, hW0⟩ : ∃ W0, W0 = (((w.alloc (.cells #[.int .i64 (K : Int)] 3)).alloc (.cells #[.slice none 0 0] 43)).alloc (.cells #[.slice none 0 0] 43)) := ⟨_, rfl⟩
  have hsW : W0.heap.size = B + 3 := by rw [hW0, hB]; simp
  have bw : Below w.heap.size w W0 := by rw [hW0]; exact (((Below.refl _ w).alloc (Nat.le_refl _) _).alloc (by simp) _).alloc (by simp; omega) _
  have i0 : M1I w.heap.size B K [] (fun k => k = B ∨ k = B + 1 ∨ k = B + 2) W0 := by
    refine ⟨.slice none 0 0, Nat.zero_le _, ?_, ⟨?_, World.ownsRow_nil _ _ _ _, by simp [own, Value.ownBlock]⟩, by simp [own, Value.ownBlock], by simp [own, Value.ownBlock], ?_, fun k => by simp [own, Value.ownBlock]⟩
    · rw [hW0, alloc_old_qm _ _ _ (by simp; omega), alloc_old_qm _ _ _ (by simp; omega), hB]
      exact heap_alloc_new _ _
    · have h := heap_alloc_new (w.alloc (.cells #[.int .i64 (K : Int)] 3)) (.cells #[.slice none 0 0] 43)
      rw [hW0, alloc_old_qm _ _ _ (by simp; omega)]
      simpa [hB] using h
    · have h := heap_alloc_new ((w.alloc (.cells #[.int .i64 (K : Int)] 3)).alloc (.cells #[.slice none 0 0] 43)) (.cells #[.slice none 0 0] 43)
      rw [hW0]
      simpa [hB] using h
  rw [← hW0, ← hB, show B + 1 + 1 = B + 2 from rfl]
  rename_i Q' K' hK
  have REST : ∀ (D : Nat) (V : Nat → Prop) (X : World), B + 3 ≤ D → M1I w.heap.size B K (ls.take K) V X → Kept (fun k => ¬ (k = B ∨ k = B + 1 ∨ k = B + 2)) W0 X → X.heap[D]? = some (.deferred (some [])) →
      Exit.then K' Q' .normal { tmps := M1T gf K lb B undef undef, defers := [{ target := .collected D, args := #[] }] } X := by
    intro D V X hD hI hkp hd
    obtain ⟨part, hpart⟩ : ∃ part, part = ls.take K := ⟨_, rfl⟩
    rw [← hpart] at hI
    have HPT := hid_mk hpart
    clear hpart
    obtain ⟨v1, hl1, hx1, hx2, hx3, hx4, hx5, hx6⟩ := hI
    have hI2 : M2I w.heap.size B part [] (fun k => own v1 k ∨ k = B + 1 ∨ k = B + 2) X := ⟨.slice none 0 0, v1, ⟨hx5, World.ownsRow_nil _ _ _ _, by simp [own, Value.ownBlock]⟩, hx2, by simp [own, Value.ownBlock], hx4, by simp [own, Value.ownBlock], fun k => by simp [own, Value.ownBlock]⟩
    have hsX := hkp.size
    have hbX : Below w.heap.size w X := bw.trans (hkp.below (by omega) (fun k hk h => by omega))
    have hv1b := hx2.row.bas
    have hv1l := owns_lt hx2.row
    clear i0 hkp hx1 hx2 hx3 hx4 hx5 hx6 hl1
    unfold M1T
    gi_wp2
    refine range_own (n := 3) (gf := gf) (lb := lb) rfl eg hseq (Kept.of_below hbX) hbX.size hOwn (fun _ => rfl)
      (M2I w.heap.size B part) (fun c pre V X => False) (MA (M2I w.heap.size B part) (M2T gf K lb B)) (M2I.foot _ B part) (fun c pre V W W' h hK => h) (MA.foot (M2I.foot _ B part) _) (fun k => own v1 k ∨ k = B + 1 ∨ k = B + 2) ?_ hI2 ?_ ?_ ?_ ?_
    · rintro k (hk | hk)
      · exact ⟨fun h => by have := hOwn k h; have := (hv1b k hk).1; omega, hv1l k hk⟩
      · exact ⟨fun h => by have := hOwn k h; omega, by omega⟩
    · intro l' m pre x V X' hG hI hV
      have HX := hid_mk (MA.start (M2I.foot w.heap.size B part) (M2T gf K lb B) pre x V X' hI hV)
      clear hI hV hG hOwn hseq hN hB hW0 hsW bw hbin hI2 hsX hbX hd hv1b hv1l
      unfold M2T at HX
      unfold runv at HX ⊢
      gi_wp2
      exact HX.out
    · rintro l' m pre x a' V X' hG ⟨b, V', rfl, hI, hVV, hbx⟩ hV hlen'
      have HI := hid_mk hI
      obtain ⟨v, v2, h1, h2, h3, h4, h5, h6⟩ := hI
      obtain ⟨ao, cp, rfl⟩ := h1.row.frm
      have q1 : X'.cell? ⟨B + 2, 0, none⟩ = some (.slice ao pre.length cp) := by simp [World.cell?, h1.box]
      have qf : X'.frozen? ⟨B + 2, 0, none⟩ = false := unfrozen h1.box 0
      have r0 : X'.cell? ⟨b, 0, none⟩ = some (.int .i64 (x.at' : Int)) := by simp [World.cell?, hbx, runv]
      have r1 : X'.cell? ⟨b, 1, none⟩ = some (.int .i64 (x.n : Int)) := by simp [World.cell?, hbx, runv]
      have r2 : X'.cell? ⟨b, 2, none⟩ = some (.int .i64 (x.count : Int)) := by simp [World.cell?, hbx, runv]
      have r3 : X'.cell? ⟨b, 3, none⟩ = some (.int .u64 (x.tag : Int)) := by simp [World.cell?, hbx, runv]
      have HBW : Hid (w.heap.size ≤ X'.heap.size) := by have := (Array.getElem?_eq_some_iff.1 h1.box).1; show _ ≤ _; omega
      have HVV := hid_mk hVV
      have HH6 := hid_mk h6
      have HB1 := hid_mk h1
      have HB2 := hid_mk h2
      have HN3 := hid_mk h3
      have HN4 := hid_mk h4
      have HN5 := hid_mk h5
      have HV0 := hid_mk hV
      have HLN : Hid (pre.length ≤ 1073741824) := by show _ ≤ _; omega
      have HAL : Hid (Below X'.heap.size X' (X'.alloc (.cells (runv x) 48))) := (Below.refl _ X').alloc (Nat.le_refl _) _
      have HOW : Hid (ROwns (X'.alloc (.cells (runv x) 48)) w.heap.size (.slice ao pre.length cp) pre) := h1.row.kept (Kept.of_below (U := fun _ => True) HAL.out) (fun _ _ => trivial)
      obtain ⟨i0, hi, hz0, hz1, hz2⟩ := info_parts info_run
      have HI0 := hid_mk hi
      have HZ0 := hid_mk hz0
      have HZ1 := hid_mk hz1
      have HZ2 := hid_mk hz2
      have HNW := hid_mk (new_cells X' x)
      clear hi hz0 hz1 hz2 h1 h2 h3 h4 h5 h6 hVV hV hlen' hG hbx hOwn hseq hN hB hW0 hsW bw hbin hI2 hsX hbX hd HI hv1b hv1l
      obtain ⟨n0, hn0⟩ : ∃ n0, n0 = pre.length := ⟨_, rfl⟩
      rw [← hn0] at q1 HB1 HOW HLN HN3 HN5 HH6
      have HNN := hid_mk hn0
      clear hn0
      unfold M2T
      unfold runv at HNW HAL HOW ⊢
      gi_wp2_with (gi_at_builtin; go_loud (refine wpListIn_app rfl _ _ 43 rfl w.heap.size 48 i0 (.agg #[.int .i64 0, .int .i64 0, .int .i64 0, .int .u64 0]) 4 32 Tryd.underlying43 HI0.out HZ0.out HZ1.out HZ2.out rfl (by decide) _ pre.length (pre.flatMap fun x => (runv x).toList) rfl HOW.out ⟨X'.heap.size, 0, none⟩ 1 1 (runv x).toList rfl rfl HNW.out (by simp [runv, Value.oneCell']) (by decide) (by have := HLN.out; have := HNN.out; unfold maxLen; omega) (by have := HLN.out; have := HNN.out; omega) (Nat.le_trans HBW.out (by simp)) ?_); intro v' w2 h1 h2; go_loud (obtain ⟨k1, k2, k3, k4⟩ := HB1.out.step HAL.out h1 h2; obtain ⟨ao2, cp2, hv2⟩ := k2.row.frm; obtain ⟨n9, hn9⟩ : ∃ n9, n9 = (pre ++ [x]).length := ⟨_, rfl⟩; rw [← hn9] at hv2; clear hn9; subst hv2; have HK2 := hid_mk k2; have HK3 := hid_mk k3; have HK4 := hid_mk k4; have y1 : w2.cell? ⟨B + 2, 0, none⟩ = some (.slice ao n0 cp) := (by simp [World.cell?, k1]); have yf : w2.frozen? ⟨B + 2, 0, none⟩ = false := unfrozen k1 0; clear h1 h2 k1 k2 k3 k4))
      refine ⟨fun k => own (.slice ao2 n9 cp2) k ∨ own v2 k ∨ k = B + 1 ∨ k = B + 2, ⟨HK3.out.sub fun k hk hu => ?_, fun k hk => ?_⟩, _, v2, HK2.out, ?_, ?_, HN4.out, ?_, fun k => Iff.rfl⟩
      · have hu' : ¬ V' k := fun h => hu ((HVV.out k).2 (.inl h))
        exact ⟨fun h => hu' ((HH6.out k).2 (.inl h)), fun h => hu' ((HH6.out k).2 (.inr (.inr (.inr h))))⟩
      · have hsz := HK3.out.size
        rcases hk with hk | hk
        · obtain ⟨q1, q2⟩ := HK4.out k hk
          exact ⟨q1.elim (fun q => .inl ((HVV.out k).2 (.inl ((HH6.out k).2 (.inl q))))) .inr, q2⟩
        · have hvk : V k := (HVV.out k).2 (.inl ((HH6.out k).2 (.inr hk)))
          exact ⟨.inl hvk, Nat.lt_of_lt_of_le (HV0.out k hvk) hsz⟩
      · exact HB2.out.kept HK3.out ⟨HN3.out, by omega⟩ (fun k hk => ⟨fun h => HN5.out k h hk, fun e => HN4.out (e ▸ hk)⟩)
      · exact fun h => (HK4.out _ h).1.elim HN3.out (fun q => by have := (Array.getElem?_eq_some_iff.1 HB2.out.box).1; omega)
      · exact fun k hk hk1 => (HK4.out k hk).1.elim (fun q => HN5.out k q hk1) (fun q => by have := owns_lt HB2.out.row k hk1; omega)
    · rintro D2 xs V2 X2 hD2 hS ⟨v, v2, h1, h2, h3, h4, h5, h6⟩ hgr hnD2 hd2
      obtain ⟨ao, cp, rfl⟩ := h1.row.frm
      obtain ⟨ao1, cp1, rfl⟩ := h2.row.frm
      have c1 : X2.cell? ⟨B + 1, 0, none⟩ = some (.slice ao1 part.length cp1) := by simp [World.cell?, h2.box]
      have c2 : X2.cell? ⟨B + 2, 0, none⟩ = some (.slice ao xs.length cp) := by simp [World.cell?, h1.box]
      have hDlt := (Array.getElem?_eq_some_iff.1 hd).1
      have nU : ¬ (own v1 D ∨ D = B + 1 ∨ D = B + 2) := by
        rintro (h | h)
        · obtain ⟨_, c, hc⟩ := hv1b D h
          rw [hd] at hc
          cases hc
        · omega
      have hD2' : X2.heap[D]? = some (.deferred (some [])) := (hgr.kept.block D hDlt nU).trans hd
      have nD : ¬ V2 D := fun h => by
        rcases (hgr.sub _ h).1 with h | h
        · exact nU h
        · omega
      have HP : Hid (∀ Y, Kept (fun k => k ≠ D ∧ k ≠ D2) X2 Y → ROwns Y w.heap.size (.slice ao1 part.length cp1) (ls.take K) ∧ ROwns Y w.heap.size (.slice ao xs.length cp) ls ∧ Below w.heap.size w Y) := by
        intro Y hY
        refine ⟨?_, ?_, ?_⟩
        · rw [← HPT.out]
          exact h2.row.kept hY (fun k hk => ⟨fun e => nD (e ▸ (h6 k).2 (.inr (.inl hk))), fun e => hnD2 (e ▸ (h6 k).2 (.inr (.inl hk)))⟩)
        · rw [← hS]
          exact h1.row.kept hY (fun k hk => ⟨fun e => nD (e ▸ (h6 k).2 (.inl hk)), fun e => hnD2 (e ▸ (h6 k).2 (.inl hk))⟩)
        · refine hbX.trans ((hgr.kept.below (by omega) (fun k hk h => ?_)).trans (hY.below (by have := hgr.kept.size; omega) (fun k hk => by omega)))
          rcases h with h | h
          · have := (hv1b k h).1; omega
          · omega
      obtain ⟨n1, hn1⟩ : ∃ n1, n1 = part.length := ⟨_, rfl⟩
      obtain ⟨n2, hn2⟩ : ∃ n2, n2 = xs.length := ⟨_, rfl⟩
      rw [← hn1] at c1 HP
      rw [← hn2] at c2 HP
      clear hOwn hseq hN hB hW0 hsW bw hbin hI2 hsX hbX h1 h2 h3 h4 h5 h6 hS hgr hnD2 hn1 hn2 hv1b hv1l nU nD
      gi_wp2
      gi_region
      all_goals gi_wp2
      all_goals
        have hne : D ≠ D2 := fun e => by subst e; omega
        have hd3 : (X2.drew.putObj D2 (.deferred none)).heap[D]? = some (.deferred (some [])) := (World.putObj_heap_other hne).trans hD2'
        refine ⟨by simp, .inl ⟨_, _, rfl, run_takeDeferred (w := X2.drew) hd2, ?_⟩⟩
        refine ⟨by simp, .inl ⟨_, _, rfl, run_takeDeferred hd3, ?_⟩⟩
        have hp := HP.out ((X2.drew.putObj D2 (.deferred none)).putObj D (.deferred none)) ⟨rfl, rfl, rfl, by rw [World.putObj_size, World.putObj_size]; exact Nat.le_refl _, fun k hk hu => (World.putObj_heap_other hu.1).trans (World.putObj_heap_other hu.2)⟩
        refine ⟨_, results_tmp2 (t := 4) (u := 5) rfl _ _ _, _, _, rfl, hp.1, hp.2.1, hp.2.2⟩
    · rintro D c pre V W _ _ h
      exact h.elim
  refine range_own (n := 3) (gf := gf) (lb := lb) rfl eg hseq (Kept.of_below bw) bw.size hOwn (fun _ => rfl)
    (M1I w.heap.size B K) (fun c ys V X => c = .exit 0 ∧ ∃ pre x, ys = pre ++ [x] ∧ pre.length = K ∧ M1I w.heap.size B K pre V X) (MA (M1I w.heap.size B K) (M1T gf K lb B)) (M1I.foot _ B K) (fun c ys V W W' h hK => ⟨h.1, by obtain ⟨pre, x, h1, h2, h3⟩ := h.2; exact ⟨pre, x, h1, h2, M1I.foot _ B K _ _ _ _ h3 hK⟩⟩) (MA.foot (M1I.foot _ B K) _) (fun k => k = B ∨ k = B + 1 ∨ k = B + 2) ?_ i0 ?_ ?_ ?_ ?_
  · intro k hk
    exact ⟨fun h => by have := hOwn k h; omega, by omega⟩
  · clear hOwn hseq hN hB hW0 hsW bw i0 REST hbin
    intro l' m pre x V X hG hI hV
    have HX := hid_mk (MA.start (M1I.foot w.heap.size B K) (M1T gf K lb B) pre x V X hI hV)
    clear hI hV hG
    unfold M1T at HX
    unfold runv at HX ⊢
    gi_wp2
    exact HX.out
  · rintro l' m pre x a' V X' hG ⟨b, V', rfl, hI, hVV, hbx⟩ hV hlen'
    have HI := hid_mk hI
    obtain ⟨v, h0, hK0, h1, h3, h4, h5, h6⟩ := hI
    obtain ⟨ao, cp, rfl⟩ := h1.row.frm
    have qk : X'.cell? ⟨B, 0, none⟩ = some (.int .i64 (K : Int)) := by simp [World.cell?, hK0]
    have q1 : X'.cell? ⟨B + 1, 0, none⟩ = some (.slice ao pre.length cp) := by simp [World.cell?, h1.box]
    have qf : X'.frozen? ⟨B + 1, 0, none⟩ = false := unfrozen h1.box 0
    have r0 : X'.cell? ⟨b, 0, none⟩ = some (.int .i64 (x.at' : Int)) := by simp [World.cell?, hbx, runv]
    have r1 : X'.cell? ⟨b, 1, none⟩ = some (.int .i64 (x.n : Int)) := by simp [World.cell?, hbx, runv]
    have r2 : X'.cell? ⟨b, 2, none⟩ = some (.int .i64 (x.count : Int)) := by simp [World.cell?, hbx, runv]
    have r3 : X'.cell? ⟨b, 3, none⟩ = some (.int .u64 (x.tag : Int)) := by simp [World.cell?, hbx, runv]
    have HBW : Hid (w.heap.size ≤ X'.heap.size) := by have := (Array.getElem?_eq_some_iff.1 h1.box).1; show _ ≤ _; omega
    have HVV := hid_mk hVV
    have HV0 := hid_mk hV
    obtain ⟨n0, hn0⟩ : ∃ n0, n0 = pre.length := ⟨_, rfl⟩
    have HNN := hid_mk hn0
    by_cases hge : pre.length = K
    · have HG2 : Hid (Grow V X' V' X') := ⟨Kept.refl _ _, fun k hk => ⟨.inl ((hVV k).2 (.inl hk)), hV k ((hVV k).2 (.inl hk))⟩⟩
      have hni : (K : Int) ≤ (n0 : Int) := by omega
      have HGE := hid_mk hge
      rw [← hn0] at q1
      clear hOwn hseq hN hB hW0 hsW bw i0 REST hbin h0 hK0 h1 h3 h4 h5 h6 hVV hV hlen' hG hbx hn0 hge
      unfold M1T
      gi_wp2
      exact ⟨_, HG2.out, rfl, pre, x, rfl, HGE.out, HI.out⟩
    · have hni : ¬ (K : Int) ≤ (n0 : Int) := by omega
      have HPL : Hid (pre.length + 1 ≤ K) := by show _ ≤ _; omega
      have HH6 := hid_mk h6
      have HB1 := hid_mk h1
      have HN3 := hid_mk h3
      have HN4 := hid_mk h4
      have HE0 := hid_mk hK0
      have HE5 := hid_mk h5
      have HLN : Hid (pre.length ≤ 1073741824) := by show _ ≤ _; omega
      have HAL : Hid (Below X'.heap.size X' (X'.alloc (.cells (runv x) 48))) := (Below.refl _ X').alloc (Nat.le_refl _) _
      have HOW : Hid (ROwns (X'.alloc (.cells (runv x) 48)) w.heap.size (.slice ao pre.length cp) pre) := h1.row.kept (Kept.of_below (U := fun _ => True) HAL.out) (fun _ _ => trivial)
      obtain ⟨i0', hi, hz0, hz1, hz2⟩ := info_parts info_run
      have HI0 := hid_mk hi
      have HZ0 := hid_mk hz0
      have HZ1 := hid_mk hz1
      have HZ2 := hid_mk hz2
      have HNW := hid_mk (new_cells X' x)
      rw [← hn0] at q1 HB1 HOW HLN HN3 HN4 HH6
      clear hOwn hseq hN hB hW0 hsW bw i0 REST hbin hi hz0 hz1 hz2 h0 hK0 h1 h3 h4 h5 h6 hVV hV hlen' hG hbx hn0 hge HI
      unfold M1T
      unfold runv at HNW HAL HOW ⊢
      gi_wp2_with (gi_at_builtin; go_loud (refine wpListIn_app rfl _ _ 43 rfl w.heap.size 48 i0' (.agg #[.int .i64 0, .int .i64 0, .int .i64 0, .int .u64 0]) 4 32 Tryd.underlying43 HI0.out HZ0.out HZ1.out HZ2.out rfl (by decide) _ pre.length (pre.flatMap fun x => (runv x).toList) rfl HOW.out ⟨X'.heap.size, 0, none⟩ 1 1 (runv x).toList rfl rfl HNW.out (by simp [runv, Value.oneCell']) (by decide) (by have := HLN.out; have := HNN.out; unfold maxLen; omega) (by have := HLN.out; have := HNN.out; omega) (Nat.le_trans HBW.out (by simp)) ?_); intro v' w2 h1 h2; go_loud (obtain ⟨k1, k2, k3, k4⟩ := HB1.out.step HAL.out h1 h2; obtain ⟨ao2, cp2, hv2⟩ := k2.row.frm; obtain ⟨n9, hn9⟩ : ∃ n9, n9 = (pre ++ [x]).length := ⟨_, rfl⟩; rw [← hn9] at hv2; clear hn9; subst hv2; have HK2 := hid_mk k2; have HK3 := hid_mk k3; have HK4 := hid_mk k4; have y1 : w2.cell? ⟨B + 1, 0, none⟩ = some (.slice ao n0 cp) := (by simp [World.cell?, k1]); have yf : w2.frozen? ⟨B + 1, 0, none⟩ = false := unfrozen k1 0; clear h1 h2 k1 k2 k3 k4))
      have hB5 := (Array.getElem?_eq_some_iff.1 HE5.out).1
      refine ⟨fun k => own (.slice ao2 n9 cp2) k ∨ k = B ∨ k = B + 1 ∨ k = B + 2, ⟨HK3.out.sub fun k hk hu => ?_, fun k hk => ?_⟩, _, by simpa using HPL.out, ?_, HK2.out, ?_, ?_, ?_, fun k => Iff.rfl⟩
      · have hu' : ¬ V' k := fun h => hu ((HVV.out k).2 (.inl h))
        exact ⟨fun h => hu' ((HH6.out k).2 (.inl h)), fun h => hu' ((HH6.out k).2 (.inr (.inr (.inl h))))⟩
      · have hsz := HK3.out.size
        rcases hk with hk | hk
        · obtain ⟨q1, q2⟩ := HK4.out k hk
          exact ⟨q1.elim (fun q => .inl ((HVV.out k).2 (.inl ((HH6.out k).2 (.inl q))))) .inr, q2⟩
        · have hvk : V k := (HVV.out k).2 (.inl ((HH6.out k).2 (.inr hk)))
          exact ⟨.inl hvk, Nat.lt_of_lt_of_le (HV0.out k hvk) hsz⟩
      · exact (HK3.out.block B (by omega) ⟨HN3.out, by omega⟩).trans HE0.out
      · exact fun h => (HK4.out _ h).1.elim HN3.out (fun q => by omega)
      · exact fun h => (HK4.out _ h).1.elim HN4.out (fun q => by omega)
      · exact (HK3.out.block (B + 2) hB5 ⟨HN4.out, by omega⟩).trans HE5.out
  · rintro D xs V X hD hS hI hgr hnD hd
    have hI' : M1I w.heap.size B K (ls.take K) V X := by
      have hl : ls.length ≤ K := by rw [← hS]; exact hI.choose_spec.1
      rw [List.take_of_length_le hl, ← hS]
      exact hI
    exact REST D V X (by omega) hI' hgr.kept hd
  · rintro D c ys V X hD hSp ⟨rfl, pre, x, rfl, hlen, hI⟩ hgr hnD hd
    have hI' : M1I w.heap.size B K (ls.take K) V X := by
      have hp : pre <+: ls := (List.prefix_append pre [x]).trans hSp
      rw [← hlen, ← List.prefix_iff_eq_take.1 hp]
      rw [hlen]
      exact hI
    exact wpIn_exit (REST D V X (by omega) hI' hgr.kept hd)
end Go.Proofs.YtcpdnalmoaojlaaDoor
