/-
  Lists of pieces that are copied; pieces that are as they may be.
-/
import Derived.Test.YtigaabhicjcbjafDoorBc1
import Derived.Laws.AppendOwnNone
namespace Go.Proofs.YtigaabhicjcbjafDoor
open Go.ChangeShapes Go.WideShapes Go.ChangeAt Go.RowKit
set_option linter.unusedVariables false

/-- A list of texts. -/
def Strs (w : World) (v : Value) (S : List ByteArray) : Prop := (∃ b off cp, v = .slice (some ⟨b, off, none⟩) S.length cp ∧ b < w.heap.size ∧ ∀ i (hi : i < S.length), w.cell? ⟨b, off + i, none⟩ = some (.string S[i])) ∨ ∃ ao cp, v = .slice ao 0 cp ∧ S = []
theorem Strs.shape {w : World} {v : Value} {S : List ByteArray} (h : Strs w v S) : ∃ ao cp, v = .slice ao S.length cp := by
  rcases h with ⟨b, off, cp, rfl, _⟩ | ⟨ao, cp, rfl, rfl⟩
  · exact ⟨_, _, rfl⟩
  · exact ⟨ao, cp, rfl⟩
theorem Strs.get {w : World} {ao : Option Addr} {n cp : Nat} {S : List ByteArray} (h : Strs w (.slice ao n cp) S) (k : Nat) (hk : k < S.length) : ∃ b off, ao = some ⟨b, off, none⟩ ∧ b < w.heap.size ∧ w.cell? ⟨b, off + k, none⟩ = some (.string S[k]) := by
  rcases h with ⟨b, off, cp', e, hb, hc⟩ | ⟨_, _, _, rfl⟩
  · simp at e
    exact ⟨b, off, e.1, hb, hc k hk⟩
  · simp at hk
abbrev Cold (z : Nat × Nat) : Prop := z ≠ (0, 0)
theorem bw_el (w : World) (t : ByteArray) (n : Nat) (hn : n = t.size) (base : Nat) (hb : base ≤ w.heap.size) (c : Nat) : ElP Cold (bw w t) base (.slice (some ⟨w.heap.size, 0, none⟩) n c) (bl t) := by
  refine .inr ⟨w.heap.size, 0, c, by rw [hn, bl_length], hb, bw_bytes w t, bytesRow t (room w t), ((bytesRow t (room w t)).size, (bytesRow t (room w t)).size + 1), ?_, ?_⟩
  · show (w.heap.push _)[w.heap.size]? = some (Obj.cells (bytesRow t (room w t)) 5 ((bytesRow t (room w t)).size, (bytesRow t (room w t)).size + 1))
    simp [laidRow]
  · simp [Cold]
theorem sowns_made (w : World) (k : Nat) (hk : k = w.heap.size) : SOwns (w.alloc (.cells #[] 23)) w.heap.size (.slice (some ⟨k, 0, none⟩) 0 0) [] := by
  subst hk
  refine ⟨rfl, .inr ⟨w.heap.size, 0, #[], rfl, Nat.le_refl _, ?_, Nat.le_refl _, by unfold maxLen; omega, rfl, rfl⟩⟩
  show (w.heap.push _)[w.heap.size]? = _
  simp
theorem Pcs.vals {n₀ : Nat} {w : World} {b off n cp : Nat} {L : List (List UInt8)} (h : Pcs n₀ w (.slice (some ⟨b, off, none⟩) n cp) L) : ∃ vals : List Value, vals.length = L.length ∧ (∀ i (h1 : i < vals.length), w.cell? ⟨b, off + i, none⟩ = some vals[i]) ∧ (∀ u ∈ vals, isSlice u) ∧ ∀ i (h1 : i < vals.length) (h2 : i < L.length), Rd n₀ w vals[i] L[i] := by
  have key : ∀ i (hi : i < L.length), ∃ u, w.cell? ⟨b, off + i, none⟩ = some u ∧ Rd n₀ w u L[i] := by
    rcases h with ⟨e, _⟩ | ⟨b', off', cp', e, _, _, hc⟩
    · cases e
    · simp at e
      obtain ⟨⟨rfl, rfl⟩, _⟩ := e
      exact hc
  refine ⟨(List.range L.length).map (fun i => if h : i < L.length then (key i h).choose else undef), by simp, fun i h1 => ?_, fun u hu => ?_, fun i h1 h2 => ?_⟩
  · have hi : i < L.length := by simpa using h1
    simp only [List.getElem_map, List.getElem_range, hi, dite_true]
    exact (key i hi).choose_spec.1
  · simp only [List.mem_map, List.mem_range] at hu
    obtain ⟨i, hi, rfl⟩ := hu
    simp only [hi, dite_true]
    obtain ⟨ao, c, e⟩ := (key i hi).choose_spec.2.shape
    exact ⟨ao, _, c, e⟩
  · simp only [List.getElem_map, List.getElem_range, h2, dite_true]
    exact (key i h2).choose_spec.2
theorem sowns_pcs0 {w : World} {base : Nat} {v : Value} {vs : List Value} {M : List (List UInt8)} (h : SOwns w base v vs) (hl : vs.length = M.length) (hM : 0 < M.length) (hr : ∀ i (h1 : i < vs.length) (h2 : i < M.length), Rd w.heap.size w vs[i] M[i]) : Pcs w.heap.size w v M := by
  obtain ⟨ao, cp, rfl⟩ := h.shape
  obtain ⟨g, rfl, hg, hgw, hcp, hc⟩ := h.get 0 (by omega)
  refine .inr ⟨g, 0, cp, by rw [hl], hgw, by omega, fun i hi => ?_⟩
  obtain ⟨g', e, _, _, _, hc'⟩ := h.get i (by omega)
  cases e
  exact ⟨vs[i]'(by omega), by rw [Nat.zero_add]; exact hc', hr i (by omega) hi⟩
/-- A list that the call made, of pieces that are older than it. -/
def Cpy (n₀ : Nat) (w : World) (v : Value) (L : List (List UInt8)) : Prop := ∃ vals : List Value, SOwns w n₀ v vals ∧ vals.length = L.length ∧ ∀ i (h1 : i < vals.length) (h2 : i < L.length), Rd n₀ w vals[i] L[i]
theorem Cpy.shape {n₀ : Nat} {w : World} {v : Value} {L : List (List UInt8)} (h : Cpy n₀ w v L) : ∃ ao cp, v = .slice ao L.length cp := by
  obtain ⟨vals, h1, h2, _⟩ := h
  obtain ⟨ao, cp, rfl⟩ := h1.shape
  exact ⟨ao, cp, by rw [h2]⟩
theorem Cpy.below {n₀ : Nat} {w w' : World} {v : Value} {L : List (List UInt8)} (h : Cpy n₀ w v L) (hn : n₀ ≤ w.heap.size) (hb : Below w.heap.size w w') : Cpy n₀ w' v L := by
  obtain ⟨vals, h1, h2, h3⟩ := h
  exact ⟨vals, h1.below hb, h2, fun i a b => (h3 i a b).below hb hn⟩
theorem Cpy.pcs {n₀ : Nat} {w : World} {v : Value} {L : List (List UInt8)} (h : Cpy n₀ w v L) (hn : n₀ ≤ w.heap.size) (hL : 0 < L.length) : Pcs w.heap.size w v L := by
  obtain ⟨vals, h1, h2, h3⟩ := h
  exact sowns_pcs0 h1 h2 hL (fun i a b => (h3 i a b).mono (fun x (hx : x < _) => Nat.lt_of_lt_of_le hx hn))
theorem Cpy.made (w : World) (k : Nat) (hk : k = w.heap.size) : Cpy w.heap.size (w.alloc (.cells #[] 23)) (.slice (some ⟨k, 0, none⟩) 0 0) [] := ⟨[], sowns_made w k hk, rfl, fun i h => by simp at h⟩
theorem Cpy.get {n₀ : Nat} {w : World} {ao : Option Addr} {n cp : Nat} {L : List (List UInt8)} (h : Cpy n₀ w (.slice ao n cp) L) (k : Nat) (hk : k < L.length) : ∃ g ul uc, ao = some ⟨g, 0, none⟩ ∧ n₀ ≤ g ∧ g < w.heap.size ∧ w.cell? ⟨g, k, none⟩ = some (.slice ul L[k].length uc) ∧ w.frozen? ⟨g, k, none⟩ = false ∧ Rd n₀ w (.slice ul L[k].length uc) L[k] := by
  obtain ⟨vals, h1, h2, h3⟩ := h
  obtain ⟨g, rfl, hg1, hg2, _, hc⟩ := h1.get k (by omega)
  have hr := h3 k (by omega) hk
  obtain ⟨ul, uc, e⟩ := hr.shape
  rw [e] at hr hc
  exact ⟨g, ul, uc, rfl, hg1, hg2, hc, (h1.cell k (by omega)).2, hr⟩
theorem Cpy.put {n₀ : Nat} {w : World} {g n cp : Nat} {L : List (List UInt8)} (h : Cpy n₀ w (.slice (some ⟨g, 0, none⟩) n cp) L) (k : Nat) (u : Value) (l : List UInt8) (hu : Rd n₀ w u l) : Cpy n₀ (w.setCell ⟨g, k, none⟩ u) (.slice (some ⟨g, 0, none⟩) n cp) (L.set k l) := by
  obtain ⟨vals, h1, h2, h3⟩ := h
  have hg : n₀ ≤ g := h1.block g rfl
  have keep : ∀ {x : Value} {d : List UInt8}, Rd n₀ w x d → Rd n₀ (w.setCell ⟨g, k, none⟩ u) x d := fun hx => hx.keep (fun b (hb : b < n₀) => heap_set_other _ _ _ _ _ (by omega))
  refine ⟨vals.set k u, h1.put k u, by simp [h2], fun i a b => ?_⟩
  rw [List.getElem_set, List.getElem_set]
  by_cases hk : k = i
  · simp only [if_pos hk]; exact keep hu
  · simp only [if_neg hk]
    exact keep (h3 i (by simpa using a) (by simpa using b))
theorem Pcs.vals2 {n₀ : Nat} {w : World} {y : Value} {L : List (List UInt8)} (h : Pcs n₀ w y L) : (y = .slice none 0 0 ∧ L = []) ∨ ∃ b off cp, y = .slice (some ⟨b, off, none⟩) L.length cp ∧ ∃ vals : List Value, vals.length = L.length ∧ (∀ i (h1 : i < vals.length), w.cell? ⟨b, off + i, none⟩ = some vals[i]) ∧ (∀ u ∈ vals, isSlice u) ∧ ∀ i (h1 : i < vals.length) (h2 : i < L.length), Rd n₀ w vals[i] L[i] := by
  rcases h with h | ⟨b, off, cp, e, h1, h2, h3⟩
  · exact .inl h
  · have hp : Pcs n₀ w (.slice (some ⟨b, off, none⟩) L.length cp) L := .inr ⟨b, off, cp, rfl, h1, h2, h3⟩
    exact .inr ⟨b, off, cp, e, hp.vals⟩
/-- 'append(x, y...)' of lists as a law. -/
theorem wpList_cat {w : World} {ops : Array Oper} {rest : List Oper} {o : Oper} {a : Act} {Q : Exit → Act → World → Prop} (hgd : o.guard = none) (s x : Operand)
    (ho : o.op = .call { callee := .builtin .append, args := #[s, x], argTypes := #[28, 28] }) (n₀ : Nat) (v : Value) (L : List (List UInt8)) (hs : a.eval s = v) (hc : Cpy n₀ w v L)
    (y : Value) (M : List (List UInt8)) (hx : a.eval x = y) (hy : Pcs n₀ w y M) (hb : L.length + M.length ≤ 1000000) (hbase : n₀ ≤ w.heap.size)
    (h : ∀ v' w', Cpy n₀ w' v' (L ++ M) → Below n₀ w w' → wpList Tryd.prog ops Q rest (a.put o.dst v') w') : wpList Tryd.prog ops Q (o :: rest) a w := by
  obtain ⟨i0, hi, hz0, hz1, hz2⟩ := info_parts Tryd.info23'
  obtain ⟨vals, h1, h2, h3⟩ := hc
  rcases hy.vals2 with ⟨rfl, rfl⟩ | ⟨b, off, cp, rfl, us, u1, u2, u3, u4⟩
  · refine wpList_append_own_none hgd s x 28 ho n₀ 23 i0 1 Tryd.underlying28 hi v vals.length vals hs h1 hx ?_
    exact h v w (by rw [List.append_nil]; exact ⟨vals, h1, h2, h3⟩) (Below.refl _ _)
  · refine wpList_append_own w hgd s x 28 ho n₀ 23 i0 (.slice none 0 0) 1 24 Tryd.underlying28 hi hz0 hz1 hz2 rfl (by decide) v vals.length vals hs h1 ⟨b, off, none⟩ M.length cp us hx (by omega) ?_ ?_ (by unfold maxLen; omega) (by omega) hbase ?_
    · intro j u hj
      have hj' := (List.getElem?_eq_some_iff.1 hj).1
      have e : us[j] = u := by rw [List.getElem?_eq_getElem hj'] at hj; exact Option.some.inj hj
      rw [add_at, ← e]; exact u2 j hj'
    · intro u hu
      obtain ⟨ao, n', c', rfl⟩ := u3 u hu
      rfl
    intro v' w' g1 g2 g3
    have hbl : Below n₀ w w' := (Below.refl n₀ w).grown g2 hbase h1.block
    refine h v' w' ⟨vals ++ us, ?_, by simp [h2, u1], fun i p q => ?_⟩ hbl
    · unfold SOwns
      rw [List.length_append, u1]
      exact g1
    · by_cases hi : i < vals.length
      · simp only [List.getElem_append_left hi, List.getElem_append_left (show i < L.length by omega)]
        exact (h3 i hi (by omega)).below hbl (Nat.le_refl _)
      · simp only [List.getElem_append_right (show vals.length ≤ i by omega), List.getElem_append_right (show L.length ≤ i by omega)]
        simp only [h2]
        exact (u4 (i - L.length) (by simp at p; omega) (by simp at q; omega)).below hbl (Nat.le_refl _)
theorem gaps_none (k : Nat) (L : List (List UInt8)) (h : ∀ b ∈ L, b.length ≠ 0) : gaps k L = [] := by
  induction L generalizing k with
  | nil => rfl
  | cons a L ih =>
    simp only [gaps]
    rw [if_neg (h a (by simp))]
    exact ih _ (fun b hb => h b (List.mem_cons_of_mem _ hb))
/-- Pieces that are as they may be. -/
def GoodP (L : List (List UInt8)) (sz : Nat) : Prop := 1 ≤ sz ∧ sz ≤ 4096 ∧ 1 ≤ L.length ∧ ∀ b ∈ L, b.length = sz
theorem GoodP.even {L : List (List UInt8)} {sz : Nat} (h : GoodP L sz) : szOf L = sz ∧ Even L ∧ lostN L = 0 := by
  obtain ⟨h1, h2, h3, h4⟩ := h
  have hz : szOf L = sz := by
    cases L with
    | nil => simp at h3
    | cons a L => have := h4 a (by simp); simp only [szOf]; rw [if_neg (by omega), this]
  refine ⟨hz, ⟨fun b hb => .inr (by rw [hz]; exact h4 b hb), by omega, by omega⟩, ?_⟩
  unfold lostN
  rw [gaps_none _ _ (fun b hb => by have := h4 b hb; omega)]
  rfl
theorem goodP_of {L : List (List UInt8)} (h : ((1 ≤ L.length ∧ L.length ≤ 16) ∧ Even L) ∧ lostN L = 0) : GoodP L (szOf L) := by
  obtain ⟨⟨⟨h1, _⟩, h2, h3, h4⟩, h5⟩ := h
  exact ⟨h3, h4, h1, fun b hb => (h2 b hb).resolve_left (no_lost h5 b hb)⟩
theorem makeErr_iff (L : List (List UInt8)) (lv : Nat) (h2 : lv ≤ 2) (h16 : L.length ≤ 16) : makeErr L (lv : Int) = 0 ↔ ∃ sz, GoodP L sz := by
  unfold makeErr
  rw [if_neg (by omega)]
  constructor
  · intro h
    split at h
    · rename_i hg; exact ⟨_, goodP_of hg⟩
    · cases h
  · rintro ⟨sz, h⟩
    obtain ⟨e1, e2, e3⟩ := h.even
    rw [if_pos ⟨⟨⟨h.2.2.1, h16⟩, e2⟩, e3⟩]
set_option maxRecDepth 100000 in
theorem odd_any (L : List (List UInt8)) (n₀ : Nat) (v : Value) (w : World) (hl : L.length ≤ 1000000) (hp : ∀ b ∈ L, b.length ≤ 140737488355328) (hv : Pcs n₀ w v L) : Calls Tryd.prog 10 #[v] w fun e w' => (∃ r : Bool, e = .returned (.bool r) ∧ (r = true ↔ ¬ ∃ sz, GoodP L sz)) ∧ ∃ m, w' = w.drewN m := by
  obtain ⟨ao, cp, rfl⟩ := hv.shape
  have HV := hid_mk hv
  have HP := hid_mk hp
  clear hv hp
  go_enter Tryd.func10, Tryd.ntmps10
  go_wp2
  go_loopw [3] (fun i wr => ∃ k : Nat, i = .int .i64 (k : Int) ∧ k ≤ L.length ∧ (∀ j (hj : j < L.length), j < k → L[j].length = (L.getD 0 []).length ∧ L[j].length ≤ 4096) ∧ ∃ q, wr = w.drewN q) (fun i _ => L.length - (intOf i).toNat)
  case atStart => exact ⟨0, rfl, by omega, fun j _ h => by omega, 0, rfl⟩
  case round =>
    obtain ⟨k, rfl, hk, hall, q, hq⟩ := hrel
    have HVq : Hid (Pcs n₀ wr (.slice ao L.length cp) L) := by show Pcs _ _ _ _; rw [hq]; exact HV.out.below (drewN_below n₀ w q) (Nat.le_refl _)
    have HQ := hid_mk hq
    have HA := hid_mk hall
    clear hq hall
    by_cases hlt : k < L.length
    · obtain ⟨b, off, ul, ucp, rfl, hb, hc, hr⟩ := HVq.out.get k hlt
      obtain ⟨b2, off2, ul2, ucp2, e, hb2, hc2, hr2⟩ := HVq.out.get 0 (by omega)
      cases e
      obtain ⟨m, hm⟩ : ∃ m, m = L[k].length := ⟨_, rfl⟩
      obtain ⟨m0, hm0⟩ : ∃ m0, m0 = (L[0]'(by omega)).length := ⟨_, rfl⟩
      have e0 : (L.getD 0 []).length = m0 := by rw [hm0, List.getD_eq_getElem?_getD, List.getElem?_eq_getElem (by omega)]; rfl
      rw [← hm] at hc
      rw [← hm0] at hc2
      have hm47 : m ≤ 140737488355328 := by rw [hm]; exact HP.out _ (List.getElem_mem hlt)
      have hm047 : m0 ≤ 140737488355328 := by rw [hm0]; exact HP.out _ (List.getElem_mem (by omega))
      have HM := hid_mk hm
      have HM0 := hid_mk hm0
      have HE0 := hid_mk e0
      rw [Nat.add_zero] at hc2
      clear hm hm0 e0 hr hr2
      by_cases h1 : m = m0
      · subst h1
        by_cases h2 : m ≤ 4096
        · have h2' : (m : Int) ≤ 4096 := by omega
          go_wp2
          go_quiet (fail)
          go_wp2
          go_roundw
          case rel =>
            refine ⟨k + 1, by go_num, by omega, fun j hj hjk => ?_, q + nq, by rw [HQ.out, World.drewN_drewN]⟩
            by_cases e : j = k
            · subst e; rw [HE0.out, ← HM.out]; exact ⟨rfl, h2⟩
            · exact HA.out j hj (by omega)
          case measure => simp [intOf]; omega
        · have h2' : ¬ (m : Int) ≤ 4096 := by omega
          go_wp2
          go_quiet (fail)
          go_wp2
          go_ret
          refine ⟨⟨true, rfl, ⟨fun _ => ?_, fun _ => rfl⟩⟩, q + nq, by rw [HQ.out, World.drewN_drewN]⟩
          rintro ⟨sz, g1, g2, g3, g4⟩
          have := g4 _ (List.getElem_mem hlt)
          rw [← HM.out] at this
          omega
      · have h1' : ¬ (m : Int) = (m0 : Int) := by omega
        have b1 : ((m : Int) != (m0 : Int)) = true := by simpa using h1'
        go_wp2
        go_quiet (fail)
        go_wp2
        go_ret
        refine ⟨⟨true, rfl, ⟨fun _ => ?_, fun _ => rfl⟩⟩, q + nq, by rw [HQ.out, World.drewN_drewN]⟩
        rintro ⟨sz, g1, g2, g3, g4⟩
        have a1 := g4 _ (List.getElem_mem hlt)
        have a2 := g4 (L[0]'(by omega)) (List.getElem_mem _)
        rw [← HM.out] at a1
        rw [← HM0.out] at a2
        omega
    · have hkk : k = L.length := by omega
      subst hkk
      by_cases h0 : L.length = 0
      · obtain rfl := List.eq_nil_of_length_eq_zero h0
        go_wp2
        go_ret
        exact ⟨⟨true, rfl, ⟨fun _ => fun ⟨sz, g1, g2, g3, g4⟩ => by simp at g3, fun _ => rfl⟩⟩, q, HQ.out⟩
      · obtain ⟨b2, off2, ul2, ucp2, rfl, hb2, hc2, hr2⟩ := HVq.out.get 0 (by omega)
        obtain ⟨m0, hm0⟩ : ∃ m0, m0 = (L[0]'(by omega)).length := ⟨_, rfl⟩
        have e0 : (L.getD 0 []).length = m0 := by rw [hm0, List.getD_eq_getElem?_getD, List.getElem?_eq_getElem (by omega)]; rfl
        rw [← hm0] at hc2
        rw [Nat.add_zero] at hc2
        have HM0 := hid_mk hm0
        have HE0 := hid_mk e0
        have h0' : ¬ (L.length : Int) = 0 := by omega
        have b0 : ((L.length : Int) == 0) = false := by simpa using h0
        clear hm0 e0 hr2
        by_cases hz : m0 = 0
        · subst hz
          go_wp2
          go_ret
          refine ⟨⟨true, rfl, ⟨fun _ => ?_, fun _ => rfl⟩⟩, q, HQ.out⟩
          rintro ⟨sz, g1, g2, g3, g4⟩
          have a2 := g4 (L[0]'(by omega)) (List.getElem_mem _)
          rw [← HM0.out] at a2
          omega
        · have hz' : ¬ (m0 : Int) = 0 := by omega
          have b1 : ((m0 : Int) == 0) = false := by simpa using hz
          go_wp2
          go_ret
          refine ⟨⟨false, rfl, ⟨fun h => (by cases h), fun h => (h ⟨m0, by omega, ?_, by omega, fun b hb => ?_⟩).elim⟩⟩, q, HQ.out⟩
          · have := HA.out 0 (by omega) (by omega)
            rw [HE0.out] at this
            omega
          · obtain ⟨j, hj, rfl⟩ := List.getElem_of_mem hb
            have := HA.out j hj hj
            rw [HE0.out] at this
            exact this.1
end Go.Proofs.YtigaabhicjcbjafDoor
