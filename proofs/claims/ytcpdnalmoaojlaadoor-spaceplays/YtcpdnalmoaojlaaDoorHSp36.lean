import Derived.Test.YtcpdnalmoaojlaaDoorHSp17
import Derived.Test.YtcpdnalmoaojlaaDoorHSp21
import Derived.Test.YtcpdnalmoaojlaaDoorHSp35

/-
  Turn.
-/
namespace Go.Proofs.YtcpdnalmoaojlaaDoor
open Go.RowKit Go.Shelf
set_option linter.unusedVariables false
set_option linter.unusedSimpArgs false
attribute [local go_sem] Oper.semAt_some

/-- What a Turn leaves. -/
def turnL (l : List Pc) : List Pc := (fil l).map Pc.keep
theorem turnL_snoc (l : List Pc) (x : Pc) : turnL (l ++ [x]) = if isUsed x then turnL l ++ [x.keep] else turnL l := by
  unfold turnL
  rw [fil_snoc]
  by_cases h : isUsed x = true
  · simp [h]
  · simp [h]
theorem fits_keep {a b : Nat} {l : List Pc} (h : Fits a l b) : Fits a (l.map Pc.keep) b := by
  induction l generalizing a with
  | nil => simpa [Fits] using h
  | cons x l ih =>
    simp only [Fits, List.map_cons] at h ⊢
    exact ⟨h.1, h.2.1, ih h.2.2⟩
theorem turn_ok {rows : Nat} {l : List Pc} (h : SpOk rows l) : SpOk rows (turnL l) := by
  refine ⟨fits_keep (fits_filt _ h.fits), h.rows30, fun p hp => ?_⟩
  obtain ⟨q, hq, rfl⟩ := List.mem_map.1 hp
  obtain ⟨h1, h2⟩ := List.mem_filter.1 hq
  obtain ⟨o1, o2, o3, o4⟩ := h.ok q h1
  simp [isUsed] at h2
  exact ⟨fun _ => o1 h2, o2, o3, by show 1 ≤ 2; omega⟩
theorem turn_rows (l : List Pc) : rowsL isUsed (turnL l) = rowsL isUsed l ∧ rowsL isHeld (turnL l) = 0 := by
  induction l with
  | nil => exact ⟨rfl, rfl⟩
  | cons x l ih =>
    unfold turnL fil at ih ⊢
    by_cases hx : isUsed x = true
    · rw [List.filter_cons_of_pos hx, List.map_cons]
      have h1 : isUsed x.keep = true := by simp [isUsed, Pc.keep]
      have h2 : isHeld x.keep = false := by simp [isHeld, Pc.keep]
      simp only [rowsL, ih, h1, h2, hx]
      exact ⟨rfl, rfl⟩
    · rw [List.filter_cons_of_neg hx]
      simp only [rowsL, ih, hx]
      simp
theorem POwns.kept {U : Nat → Prop} {W W' : World} {B : Nat} {v : Value} {l : List Pc} (h : POwns W B v l) (hK : Kept U W W') (hu : ∀ k, own v k → U k) : POwns W' B v l := by
  refine ⟨h.1, ?_⟩
  rcases h.2 with hn | ⟨g, c, cur, rfl, h4, h5, h6⟩
  · exact .inl hn
  · exact .inr ⟨g, c, cur, rfl, h4, (hK.block g (Array.getElem?_eq_some_iff.1 h5).1 (hu g rfl)).trans h5, h6⟩
/-- What the loop keeps: those that are kept, in a slice. -/
def TI (n₀ B : Nat) (pre : List Pc) (V : Nat → Prop) (X : World) : Prop :=
  ∃ v, X.heap[B]? = some (.cells #[v] 109 (0, 0)) ∧ POwns X n₀ v (turnL pre) ∧ ¬ own v B ∧ (∀ k, V k ↔ (own v k ∨ k = B))
theorem TI.foot (n₀ B : Nat) : Foot (TI n₀ B) := by
  rintro pre V W W' ⟨v, h1, h2, h3, h6⟩ hK
  exact ⟨v, (hK.block _ (Array.getElem?_eq_some_iff.1 h1).1 ((h6 _).2 (.inr rfl))).trans h1, h2.kept hK (fun k hk => (h6 k).2 (.inl hk)), h3, h6⟩
def TT (s B Bt : Nat) (b x : Value) : Array Value :=
  #[.pointer (some ⟨s, 0, none⟩), undef, .pointer (some ⟨B, 0, none⟩), b, .pointer (some ⟨s, 0, none⟩), .func (.func 67) #[] #[.pointer (some ⟨Bt, 0, none⟩)], x, undef, undef, undef, undef, undef, undef, undef, undef, undef, undef, undef, undef, undef, undef, undef, undef]
def TA (s n₀ B Bt : Nat) (pre : List Pc) (x : Pc) (a' : Act) (V : Nat → Prop) (X : World) : Prop :=
  ∃ b V', a' = { tmps := TT s B Bt (.pointer (some ⟨b, 0, none⟩)) (.agg (pcv x)), defers := [] } ∧ TI n₀ B pre V' X ∧ (∀ k, V k ↔ (V' k ∨ k = b)) ∧ ¬ V' b ∧ X.heap[b]? = some (.cells (pcv x) 103 (0, 0))
theorem TA.foot (s n₀ B Bt : Nat) (pre : List Pc) (x : Pc) (a' : Act) : Foot1 (TA s n₀ B Bt pre x a') := by
  rintro V W W' ⟨b, V', h1, h2, h3, h4, h5⟩ hK
  exact ⟨b, V', h1, TI.foot n₀ B _ _ _ _ h2 (hK.sub (fun k _ h => (h3 k).2 (.inl h))), h3, h4, (hK.block _ (Array.getElem?_eq_some_iff.1 h5).1 ((h3 _).2 (.inr rfl))).trans h5⟩
set_option maxRecDepth 100000 in
set_option maxHeartbeats 4000000 in
theorem turn_any (s rows : Nat) (l : List Pc) (w : World) (hs : SpAt w s rows l) (hok : SpOk rows l) :
    Calls Tryd.prog 43 #[.pointer (some ⟨s, 0, none⟩)] w fun e w' => (∃ v, e = .returned v) ∧ Only s w w' ∧ SpAt w' s rows (turnL l) := by
  have hlt := hs.lt
  obtain ⟨p0, hc, hk⟩ := hs
  obtain ⟨_, _, _, c3⟩ := sp_cells hc
  have hlen := fits_len hok.fits
  have h30 := hok.rows30
  refine (callsIn_wide (n := 3)).1 ?_
  refine callsIn_of_wp_marks Tryd.func43 rfl trivial ?_ rfl
  simp only [Tryd.ntmps43, List.size_toArray, List.length_cons, List.length_nil, Nat.reduceAdd, Nat.reduceSub, Array.replicate_succ, Array.replicate_zero, List.push_toArray, List.append_toArray, List.nil_append, List.cons_append]
  gi_wp2_with (refine ⟨trivial, ?_⟩; (try refine ⟨fun h => (by cases h), ?_⟩); gi_at_call 55; refine (pieces_in _ _ _).mono ?_; rintro e w' ⟨rfl, rfl⟩)
  obtain ⟨B, hB⟩ : ∃ B, B = w.heap.size := ⟨_, rfl⟩
  obtain ⟨W0, hW0⟩ : ∃ W0, W0 = (w.alloc (.cells #[.slice none 0 0] 109)).alloc (.cells #[.pointer (some ⟨s, 0, none⟩)] 24) := ⟨_, rfl⟩
  have hs1 : (w.alloc (.cells #[.slice none 0 0] 109)).heap.size = B + 1 := by rw [hB]; simp
  have hsW : W0.heap.size = B + 2 := by rw [hW0, hB]; simp
  have bw : Below w.heap.size w W0 := by rw [hW0]; exact ((Below.refl _ w).alloc (Nat.le_refl _) _).alloc (by simp) _
  have i0 : TI w.heap.size B [] (fun k => k = B) W0 := by
    refine ⟨_, ?_, World.ownsRow_nil _ _ _ _, by simp [own, Value.ownBlock], fun k => by simp [own, Value.ownBlock]⟩
    rw [hW0, Below.heap_alloc _ _ _ (by rw [hs1]; omega), hB]
    exact heap_alloc_new _ _
  have cT : W0.cell? ⟨B + 1, 0, none⟩ = some (.pointer (some ⟨s, 0, none⟩)) := by
    have h := heap_alloc_new (w.alloc (.cells #[.slice none 0 0] 109)) (.cells #[.pointer (some ⟨s, 0, none⟩)] 24)
    rw [hs1, ← hW0] at h
    simp [World.cell?, h]
  rw [← hW0, ← hB]
  refine range_own (n := 3) (gf := 67) (lb := #[.pointer (some ⟨B + 1, 0, none⟩)]) rfl (enters_of Tryd.func67 (by kernel_rfl) rfl)
    (pieces_seq (B + 1) s p0 l (fun _ => True) (fun _ _ => trivial) w W0 hk c3 hlt bw (by omega) cT) (Kept.refl _ _) (Nat.le_refl _) (fun k hk => by rcases hk with h | h <;> omega) (fun _ => rfl)
    (TI w.heap.size B) (fun c pre V X => False) (TA s w.heap.size B (B + 1)) (TI.foot _ B) (fun c pre V W W' h hK => h) (TA.foot s _ B _) (fun k => k = B) ?_ i0 ?_ ?_ ?_ ?_
  · rintro k rfl
    exact ⟨by rintro (h | h) <;> omega, by omega⟩
  · clear hok hk c3 hlen hB hW0 hs1 hsW bw i0 cT hc hlt h30
    intro l' m pre x V X' hG hI hV
    have HX : Hid (∃ V'', Grow V X' V'' (X'.alloc (.cells (pcv x) 103)) ∧ TA s w.heap.size B (B + 1) pre x { tmps := TT s B (B + 1) (.pointer (some ⟨X'.heap.size, 0, none⟩)) (.agg (pcv x)), defers := [] } V'' (X'.alloc (.cells (pcv x) 103))) := by
      have hbe : Below X'.heap.size X' (X'.alloc (.cells (pcv x) 103)) := (Below.refl _ X').alloc (Nat.le_refl _) _
      refine ⟨fun k => V k ∨ k = X'.heap.size, ⟨Kept.of_below hbe, ?_⟩, X'.heap.size, V, rfl, TI.foot _ B _ _ _ _ hI (Kept.of_below hbe), fun k => Iff.rfl, fun h => by have := hV _ h; omega, heap_alloc_new _ _⟩
      rintro k (hk | rfl)
      · exact ⟨.inl hk, by have := hV k hk; simp; omega⟩
      · exact ⟨.inr (Nat.le_refl _), by simp⟩
    clear hI hV hG
    unfold TT at HX
    unfold pcv at HX ⊢
    gi_wp2
    exact HX.out
  · rintro l' m pre x a' V X0 hG ⟨b, V', rfl, hI, hVV, hnb, hbx⟩ hV hlen'
    obtain ⟨v, h1, h2, h3, h6⟩ := hI
    have hB0 := (Array.getElem?_eq_some_iff.1 h1).1
    have hbl := (Array.getElem?_eq_some_iff.1 hbx).1
    have hbB : b ≠ B := fun e => hnb ((h6 b).2 (.inr e))
    have hbo : ¬ own v b := fun h => hnb ((h6 b).2 (.inl h))
    by_cases hu : isUsed x = true
    · have hst : ¬ (x.st : Int) = 2 := by simp [isUsed] at hu; omega
      have hst' : ¬ x.st = 2 := by omega
      obtain ⟨X', hX'⟩ : ∃ X', X' = X0.setCell ⟨b, 4, none⟩ (.int .u8 1) := ⟨_, rfl⟩
      have e0 : X'.heap[b]? = some (.cells (pcv x.keep) 103 (0, 0)) := by rw [hX', heap_put hbx]; simp [pcv, Pc.keep]
      have eB : X'.heap[B]? = some (.cells #[v] 109 (0, 0)) := by rw [hX', Below.heap_setCell _ _ _ _ (Ne.symm hbB)]; exact h1
      have k0 : Kept (fun k => k ≠ b) X0 X' := by rw [hX']; exact ⟨rfl, rfl, rfl, by simp [World.setCell], fun k _ h => Below.heap_setCell _ _ _ _ h⟩
      have o0 : POwns X' w.heap.size v (turnL pre) := h2.kept k0 (fun k hk e => hbo (e ▸ hk))
      have sX : X'.heap.size = X0.heap.size := by rw [hX']; simp [World.setCell]
      obtain ⟨ao, cp, hvf⟩ := h2.form
      obtain ⟨n0, hn0⟩ : ∃ n0, n0 = (turnL pre).length := ⟨_, rfl⟩
      rw [← hn0] at hvf
      subst hvf
      have a4 : X0.cell? ⟨b, 4, none⟩ = some (.int .u8 (x.st : Int)) := by simp [World.cell?, hbx, pcv]
      have af := unfrozen hbx
      have q1 : X'.cell? ⟨B, 0, none⟩ = some (.slice ao n0 cp) := by simp [World.cell?, eB]
      have r0 : X'.cell? ⟨b, 0, none⟩ = some (.int .i64 (x.at' : Int)) := by simp [World.cell?, e0, pcv, Pc.keep]
      have r1 : X'.cell? ⟨b, 1, none⟩ = some (.int .i64 (x.n : Int)) := by simp [World.cell?, e0, pcv, Pc.keep]
      have r2 : X'.cell? ⟨b, 2, none⟩ = some (.int .i64 (x.count : Int)) := by simp [World.cell?, e0, pcv, Pc.keep]
      have r3 : X'.cell? ⟨b, 3, none⟩ = some (.int .u64 (x.tag : Int)) := by simp [World.cell?, e0, pcv, Pc.keep]
      have r4 : X'.cell? ⟨b, 4, none⟩ = some (.int .u8 1) := by simp [World.cell?, e0, pcv, Pc.keep]
      have HBB : Hid (B < X'.heap.size) := by show _ < _; rw [sX]; exact hB0
      have HBW : Hid (w.heap.size ≤ X'.heap.size) := by have := HBB.out; show _ ≤ _; omega
      have HVV := hid_mk hVV
      have HH6 := hid_mk h6
      have HN3 := hid_mk h3
      have HE1 := hid_mk eB
      have HK0 := hid_mk k0
      have HSX := hid_mk sX
      have HVb := hid_mk hV
      have HLN : Hid (n0 ≤ 1073741824) := by
        show _ ≤ _
        have : (turnL pre).length ≤ pre.length := by unfold turnL; rw [List.length_map]; exact fil_le pre
        omega
      have HN0 := hid_mk hn0
      have HAL : Hid (∀ c, Below X'.heap.size X' (X'.alloc (.cells c 103))) := fun c => (Below.refl _ X').alloc (Nat.le_refl _) _
      have HOW : Hid (∀ c, POwns (X'.alloc (.cells c 103)) w.heap.size (.slice ao n0 cp) (turnL pre)) := fun c => o0.below (HAL.out c)
      have HTS : Hid (turnL (pre ++ [x]) = turnL pre ++ [x.keep]) := by show _ = _; rw [turnL_snoc, if_pos hu]
      obtain ⟨i0', hi, hz0, hz1, hz2⟩ := info_parts info_pc
      have HI0 := hid_mk hi
      have HZ0 := hid_mk hz0
      have HZ1 := hid_mk hz1
      have HZ2 := hid_mk hz2
      have HNW : Hid (∀ j u, (#[.int .i64 (x.at' : Int), .int .i64 (x.n : Int), .int .i64 (x.count : Int), .int .u64 (x.tag : Int), .int .u8 1] : Array Value).toList[j]? = some u → (X'.alloc (.cells #[.int .i64 (x.at' : Int), .int .i64 (x.n : Int), .int .i64 (x.count : Int), .int .u64 (x.tag : Int), .int .u8 1] 103)).cell? ((⟨X'.heap.size, 0, none⟩ : Addr).add j) = some u) := by
        intro j u hj
        have h := heap_alloc_new X' (.cells #[.int .i64 (x.at' : Int), .int .i64 (x.n : Int), .int .i64 (x.count : Int), .int .u64 (x.tag : Int), .int .u8 1] 103)
        have e : (⟨X'.heap.size, 0, none⟩ : Addr).add j = ⟨X'.heap.size, j, none⟩ := by
          unfold Addr.add
          by_cases h0 : j = 0
          · rw [if_pos h0, h0]
          · rw [if_neg h0, Nat.zero_add]
        rw [e]
        simp only [World.cell?, h]
        simpa using hj
      rw [sX] at HNW
      clear hi hz0 hz1 hz2 h1 h2 h3 h6 hVV hV hlen' hG hnb hbx hok hk c3 hlen hB hW0 hs1 hsW bw i0 cT hc hlt h30 hn0 e0 eB k0 o0 sX hu hB0
      unfold TT pcv
      have HXX := hid_mk hX'
      subst hX'
      gi_wp2_with (gi_at_builtin; go_loud (refine wpListIn_app rfl _ _ 109 rfl w.heap.size 103 i0' (.agg #[.int .i64 0, .int .i64 0, .int .i64 0, .int .u64 0, .int .u8 0]) 5 40 Tryd.underlying109 HI0.out HZ0.out HZ1.out HZ2.out rfl (by decide) _ (turnL pre).length ((turnL pre).flatMap fun x => (pcv x).toList) rfl (HOW.out _) ⟨X0.heap.size, 0, none⟩ 1 1 [.int .i64 (x.at' : Int), .int .i64 (x.n : Int), .int .i64 (x.count : Int), .int .u64 (x.tag : Int), .int .u8 1] rfl rfl HNW.out (by simp [Value.oneCell']) (by decide) (by rw [← HN0.out]; have := HLN.out; unfold maxLen; omega) (by rw [← HN0.out]; have := HLN.out; omega) (Nat.le_trans HBW.out (by simp)) ?_); intro v' w2 h1 h2; go_loud (obtain ⟨ao2, cp2, hv2⟩ := POwns.form (l := turnL pre ++ [x.keep]) (v := v') (w := w2) (B := w.heap.size) (by unfold POwns; rw [List.length_append, List.flatMap_append]; simpa [pcv, Pc.keep] using h1); obtain ⟨n2, hn2⟩ : ∃ n2, n2 = (turnL pre ++ [x.keep]).length := ⟨_, rfl⟩; rw [← hn2] at hv2; subst hv2; have HO2 := hid_mk h1; have HG2 := hid_mk h2; have y1 : w2.cell? ⟨B, 0, none⟩ = some (.slice ao n0 cp) := (World.cell?_of_block (w := (X0.setCell ⟨b, 4, none⟩ (.int .u8 1)).alloc _) (h2.kept.block B (Nat.lt_of_lt_of_le HBB.out (HAL.out _).size) HN3.out)).trans (((HAL.out _).cell (p := ⟨B, 0, none⟩) HBB.out).trans q1); have yf : w2.frozen? ⟨B, 0, none⟩ = false := unfrozen ((h2.kept.block B (Nat.lt_of_lt_of_le HBB.out (HAL.out _).size) HN3.out).trans (((HAL.out _).block B HBB.out).trans HE1.out)) 0; clear h1 h2 hn2))
      have hx1 : ((X0.setCell ⟨b, 4, none⟩ (.int .u8 1)).alloc (.cells #[.int .i64 (x.at' : Int), .int .i64 (x.n : Int), .int .i64 (x.count : Int), .int .u64 (x.tag : Int), .int .u8 1] 103)).heap.size = X0.heap.size + 1 := by simp
      have hsz := HG2.out.kept.size
      rw [hx1] at hsz
      have hBB := HBB.out
      rw [HSX.out] at hBB
      have m2 : ¬ own (.slice ao2 n2 cp2) B := fun h => (HG2.out.sub _ h).1.elim HN3.out (fun h => by rw [hx1] at h; omega)
      have e1 := (HG2.out.kept.block B (by rw [hx1]; omega) HN3.out).trans (((HAL.out _).block B HBB.out).trans HE1.out)
      refine ⟨fun k => own (.slice ao2 n2 cp2) k ∨ k = B, ⟨⟨?_, ?_, ?_, ?_, ?_⟩, ?_⟩, _, ?_, ?_, m2, fun k => Iff.rfl⟩
      · exact HG2.out.kept.os.trans ((HAL.out _).os.trans HK0.out.os)
      · exact HG2.out.kept.tape.trans ((HAL.out _).tape.trans HK0.out.tape)
      · exact HG2.out.kept.output.trans ((HAL.out _).output.trans HK0.out.output)
      · simp [World.setCell]
        omega
      · intro k hk hu
        have hu' : ¬ V' k := fun h => hu ((HVV.out k).2 (.inl h))
        have hkB : k ≠ B := fun e => hu' ((HH6.out k).2 (.inr e))
        have hkb : k ≠ b := fun e => hu ((HVV.out k).2 (.inr e))
        rw [Below.heap_setCell _ _ _ _ hkB]
        exact (HG2.out.kept.block k (by rw [hx1]; omega) (fun h => hu' ((HH6.out k).2 (.inl h)))).trans (((HAL.out _).block k (by rw [HSX.out]; exact hk)).trans (HK0.out.block k hk hkb))
      · have hs2 : (w2.setCell ⟨B, 0, none⟩ (Value.slice ao2 n2 cp2)).heap.size = w2.heap.size := by simp [World.setCell]
        rw [hs2]
        rintro k (hk | rfl)
        · obtain ⟨h1, h2⟩ := HG2.out.sub k hk
          refine ⟨?_, h2⟩
          rcases h1 with h1 | h1
          · exact .inl ((HVV.out k).2 (.inl ((HH6.out k).2 (.inl h1))))
          · exact .inr (by rw [hx1] at h1; omega)
        · exact ⟨.inl ((HVV.out _).2 (.inl ((HH6.out _).2 (.inr rfl)))), by omega⟩
      · rw [heap_put e1]
        simp
      · rw [HTS.out]
        have h := World.ownsRow.kept HO2.out (w' := w2.setCell ⟨B, 0, none⟩ (Value.slice ao2 n2 cp2)) (row := some B) ⟨rfl, rfl, rfl, by simp [World.setCell], fun k _ hk => Below.heap_setCell _ _ _ _ (fun e => hk (by rw [e]))⟩ (.inr m2)
        unfold POwns
        rw [List.length_append, List.flatMap_append]
        simpa [pcv, Pc.keep] using h
    · have hst : (x.st : Int) = 2 := by simp [isUsed] at hu; omega
      have a4 : X0.cell? ⟨b, 4, none⟩ = some (.int .u8 (x.st : Int)) := by simp [World.cell?, hbx, pcv]
      have HG : Hid (Grow V X0 V' X0) := ⟨Kept.refl _ _, fun k hk => ⟨.inl ((hVV k).2 (.inl hk)), hV k ((hVV k).2 (.inl hk))⟩⟩
      have HI : Hid (TI w.heap.size B (pre ++ [x]) V' X0) := ⟨v, h1, by rw [turnL_snoc, if_neg hu]; exact h2, h3, h6⟩
      clear h1 h2 h3 h6 hVV hV hlen' hG hnb hbx hok hk c3 hlen hB hW0 hs1 hsW bw i0 cT hc hlt h30 hu hB0
      unfold TT pcv
      gi_wp2
      exact ⟨_, HG.out, HI.out⟩
  · rintro D xs V X hD hS ⟨v, h1, h2, h3, h6⟩ hgr hnD hd
    subst hS
    have hfit : Fits 0 (turnL xs) rows := (turn_ok hok).fits
    have hbX : Below w.heap.size w X := bw.trans (hgr.kept.below (by omega) (fun k hk h => by omega))
    have hsX := hgr.kept.size
    have hcX := (hbX.block s hlt).trans hc
    obtain ⟨ao, cv, hv⟩ := h2.form
    have HLT : Hid (∀ W, Below X.heap.size X W → Calls Tryd.prog 61 #[v] W (KPost W (turnL xs))) := by
      intro W hW
      rw [hv]
      cases ao with
      | none =>
        have h0 : turnL xs = [] := by
          rcases h2.2 with ⟨_, h⟩ | ⟨_, _, _, h, _⟩
          · exact List.eq_nil_of_length_eq_zero h
          · rw [hv] at h; cases h
        rw [h0]
        exact listed_nil none cv W
      | some y =>
        obtain ⟨g, o, sp⟩ := y
        have hsp : sp = none ∧ o = 0 := by
          rcases h2.2 with ⟨h, _⟩ | ⟨_, _, _, h, _⟩
          · rw [hv] at h; cases h
          · rw [hv] at h; simp at h; exact ⟨h.1.2.2, h.1.2.1⟩
        obtain ⟨rfl, rfl⟩ := hsp
        rw [hv] at h2
        obtain ⟨_, _, hle, hg, hpc⟩ := POwns.at h2
        exact listed_any (turnL xs).length (turnL xs) g 0 cv 0 rows W (Nat.le_refl _) hle (Nat.lt_of_lt_of_le hg hW.size) (hpc.below hW hg) hfit h30
    have cB : X.cell? ⟨B, 0, none⟩ = some v := by simp [World.cell?, h1]
    have hsD : s ≠ D := by omega
    have HSX : Hid (∀ W, Below X.heap.size X W → W.heap[s]? = some (.cells (spv rows (rowsL isUsed xs) (rowsL isHeld xs) p0) 87 (0, 0))) := fun W hW => (hW.block s (Nat.lt_of_lt_of_le hlt hbX.size)).trans hcX
    have HDX : Hid (∀ W, Below X.heap.size X W → W.heap[D]? = some (.deferred (some []))) := fun W hW => (hW.block D (Array.getElem?_eq_some_iff.1 hd).1).trans hd
    have HBX := hid_mk hbX
    have HSD := hid_mk hsD
    have HTR := hid_mk (turn_rows xs)
    have HDD : Hid (w.heap.size ≤ D) := by show _ ≤ _; omega
    obtain ⟨lp, hlp⟩ : ∃ lp, lp = (turnL xs).length := ⟨_, rfl⟩
    rw [← hlp] at hv
    subst hv
    clear h1 h2 h3 h6 hgr hnD hd hok hk c3 hlen hB hW0 hs1 hsW bw i0 cT hc hlt h30 hfit hbX hsX hcX hlp hsD hD
    gi_wp2_with (refine ⟨trivial, ?_⟩; (try refine ⟨fun h => (by cases h), ?_⟩); gi_at_call 61; refine (callsIn_wide.2 (HLT.out _ (Below.refl _ _))).mono ?_; clear HLT; rintro e w8 ⟨t, rfl, hk8, hb8⟩; have HK8 := hid_mk hk8; have HB8 := hid_mk hb8; have d3 := (sp_cells (HSX.out w8 hb8)).2.2.2; have d2 := (sp_cells (HSX.out w8 hb8)).2.2.1; have df := unfrozen (HSX.out w8 hb8); clear hk8 hb8)
    have hne : s ≠ D := HSD.out
    have hD8 := HDX.out w8 HB8.out
    have hS8 := HSX.out w8 HB8.out
    have hdY : ((w8.setCell ⟨s, 3, none⟩ (.pointer t)).setCell ⟨s, 2, none⟩ (.int .i64 0)).heap[D]? = some (.deferred (some [])) := (Below.heap_setCell _ _ _ _ (Ne.symm hne)).trans ((Below.heap_setCell _ _ _ _ (Ne.symm hne)).trans hD8)
    refine ⟨by simp, .inl ⟨_, _, rfl, run_takeDeferred hdY, ?_⟩⟩
    refine ⟨_, results_none rfl _ _ _, ⟨_, rfl⟩, ?_, t, ?_, ?_⟩
    · have h1 : Only s w w8 := (Only.of_below HBX.out).trans (Only.of_below HB8.out)
      have h2 := (h1.setCell 3 (.pointer t)).setCell 2 (.int .i64 0)
      have hDD := HDD.out
      refine ⟨h2.os, h2.tape, h2.output, by rw [World.putObj_size]; exact h2.size, fun k hk hks => ?_⟩
      rw [World.putObj_heap_other (by omega)]
      exact h2.block k hk hks
    · rw [World.putObj_heap_other hne, heap_put (heap_put hS8 _) _, HTR.out.1, HTR.out.2]
      simp [spv]
    · obtain ⟨k, hkd⟩ := HK8.out
      refine ⟨k, KD.keep (fun b cur e => ?_) k t _ hkd⟩
      have hbs : b ≠ s := by rintro rfl; rw [hS8] at e; simp at e
      have hbD : b ≠ D := by rintro rfl; rw [hD8] at e; cases e
      rw [World.putObj_heap_other hbD]
      exact (Below.heap_setCell _ _ _ _ hbs).trans (Below.heap_setCell _ _ _ _ hbs)
  · rintro D c pre V W _ _ h
    exact h.elim
end Go.Proofs.YtcpdnalmoaojlaaDoor
