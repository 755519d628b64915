/-
  Texts as lists of bytes, and others of them that are lent: the walk.
-/
import Derived.Test.YtigaabhicjcbjabDoorL1
namespace Go.Proofs.YtigaabhicjcbjabDoor
open Go.ChangeShapes Go.WideShapes Go.ChangeAt Go.RowKit
set_option linter.unusedVariables false

/-- What pieces leaves. -/
def PiecesPost (M : List (List UInt8)) (w : World) (e : Ending) (w' : World) : Prop := ∃ va vb vs G, e = .returned (.tuple #[va, vb]) ∧ Lst Cold w' w.heap.size va M ∧ Lnt w' w.heap.size vb M vs G ∧ (∀ i, i < M.length → G i < w'.heap.size) ∧ Below w.heap.size w w'
theorem Lst.some_of {p : Nat × Nat → Prop} {w : World} {base : Nat} {x : Value} {M : List (List UInt8)} (h : Lst p w base x M) : ∃ vs, SOwns w base x vs ∧ vs.length = M.length ∧ ∀ i (h1 : i < vs.length) (h2 : i < M.length), ElP p w base vs[i] M[i] := h
theorem heap_le {B : Nat} {w w' : World} (h : Below B w w') : w.heap.size ≤ w'.heap.size := h.size
set_option maxRecDepth 100000 in
set_option maxHeartbeats 1000000 in
theorem lpieces_any (S : List ByteArray) (v : Value) (w : World) (hl : S.length ≤ 140737488355328) (hs : ∀ t ∈ S, t.size ≤ 140737488355328) (hv : Strs w v S) : Calls Tryd.prog 16 #[v] w (PiecesPost ((S.take 100).map bl) w) := by
  obtain ⟨ao, cp, rfl⟩ := hv.shape
  have HV : Hid (Strs w (.slice ao S.length cp) S) := hv
  have HS := hid_mk hs
  have kc := run_bw
  obtain ⟨M, hM⟩ : ∃ M, M = (S.take 100).map bl := ⟨_, rfl⟩
  rw [← hM]
  have HM := hid_mk hM
  clear hv hs hM
  go_enter Tryd.func16, Tryd.ntmps16
  go_wp2
  go_loopw [4, 5, 6] (fun x y i wr => ∃ (xo yo : Option Addr) (xc yc k : Nat) (vs : List Value) (G : Nat → Nat), x = .slice xo k xc ∧ y = .slice yo k yc ∧ i = .int .i64 (k : Int) ∧ k ≤ S.length ∧ k ≤ 100 ∧ (k = 0 → xo = none) ∧ Lst Cold wr w.heap.size (.slice xo k xc) ((S.take k).map bl) ∧ Lnt wr w.heap.size (.slice yo k yc) ((S.take k).map bl) vs G ∧ (∀ i, i < k → G i < wr.heap.size) ∧ Below w.heap.size w wr) (fun _ _ i _ => 100 - (intOf i).toNat)
  case atStart => exact ⟨none, none, 0, 0, 0, [], fun _ => 0, rfl, rfl, rfl, by omega, by omega, fun _ => rfl, Lst.nil _ _ _, ⟨SOwns.nil _ _, rfl, fun i h => by simp at h, fun i j _ h => by simp at h, fun _ => rfl⟩, fun i h => by omega, Below.refl _ _⟩
  case round =>
    obtain ⟨xo, yo, xc, yc, k, vs, G, rfl, rfl, rfl, hk, hk100, hx0, hA, hN, hG, hb⟩ := hrel
    obtain ⟨V, hV⟩ : ∃ V, V = wr := ⟨_, rfl⟩
    subst hV
    have HA := hid_mk hA
    have HN := hid_mk hN
    have HG := hid_mk hG
    have HB := hid_mk hb
    have HX0 := hid_mk hx0
    clear hA hN hG hb hx0
    by_cases hlt : k < S.length
    · by_cases h100 : k < 100
      · obtain ⟨b, off, rfl, hbb, hc0⟩ := HV.out.get k hlt
        obtain ⟨t, ht⟩ : ∃ t, t = S[k] := ⟨_, rfl⟩
        rw [← ht] at hc0
        have HT47 : Hid (t.size ≤ 140737488355328) := by show _ ≤ _; rw [ht]; exact HS.out _ (List.getElem_mem hlt)
        have HTK : Hid ((S.take (k + 1)).map bl = (S.take k).map bl ++ [bl t]) := by show _ = _; rw [take_snoc S k hlt, List.map_append, ht]; rfl
        have HKL : Hid (((S.take k).map bl).length = k) := by show _ = _; rw [List.length_map, List.length_take]; omega
        have hc1 : V.cell? ⟨b, off + k, none⟩ = some (.string t) := (HB.out.cell (p := ⟨b, off + k, none⟩) hbb).trans hc0
        have HC0 := hid_mk hc0
        clear ht hc0
        have hlt' : (k : Int) < (S.length : Int) := by omega
        have h100' : (k : Int) < 100 := by omega
        have HB1 : Hid (Below V.heap.size V (bw V t)) := below_bw (Below.refl _ _) (Nat.le_refl _) t
        have HA1 : Hid (Lst Cold (bw V t) w.heap.size (.slice xo k xc) ((S.take k).map bl)) := HA.out.below HB1.out
        have HE1 : Hid (∀ n c, n = t.size → ElP Cold (bw V t) w.heap.size (.slice (some ⟨V.heap.size, 0, none⟩) n c) (bl t)) := fun n c hn => bw_el V t n hn w.heap.size HB.out.size c
        have HBB1 : Hid (Below w.heap.size w (bw V t)) := HB.out.trans (HB1.out.mono HB.out.size)
        have HKL1 : Hid (((S.take k).map bl ++ [bl t]).length = k + 1) := by show _ = _; rw [List.length_append, HKL.out]; rfl
        have HN1 : Hid (∀ w4, (bw V t).grownBy w4 (Value.slice xo k xc).ownBlock → Lnt w4 w.heap.size (.slice yo k yc) ((S.take k).map bl) vs G) := fun w4 hg => by
          obtain ⟨us, u1, u2, u3⟩ := HA1.out
          refine (HN.out.below HB1.out).other u1 hg ?_
          by_cases h0 : k = 0
          · left; rw [HX0.out h0]; rfl
          · right; exact lst_lnt u1 u2 u3 (HN.out.below HB1.out) (by rw [HKL.out]; omega) (by rw [HKL.out]; omega)
        go_wp2_with (at_builtin; refine wpList_add2 Cold 33 Tryd.underlying33 rfl _ _ rfl w.heap.size _ ((S.take k).map bl) rfl (bw V t) _ _ _ (bl t) rfl HA1.out (HE1.out _ _ rfl) _ rfl rfl (by rw [HKL.out]; omega) HBB1.out.size ?_; intro v' w4 h1 h2 h3; obtain ⟨zo, zc, hz⟩ := h1.shape; rw [HKL1.out] at hz; subst hz; have H4 := hid_mk h1; have HB4 := hid_mk (HBB1.out.trans h2); have HN4 := hid_mk (HN1.out w4 h3); have hc4 : w4.cell? ⟨b, off + k, none⟩ = some (.string t) := (HB4.out.cell (p := ⟨b, off + k, none⟩) hbb).trans HC0.out; clear h1 h2 h3)
        have HL : Hid ((bl t).length = t.size) := bl_length t
        have HB5 : Hid (Below w4.heap.size w4 (bw w4 t)) := below_bw (Below.refl _ _) (Nat.le_refl _) t
        refine (lent_n (bl t) _ _ 0 _ (bw w4 t) HL.out.symm (by rw [HL.out]; exact HT47.out) (by rw [bw_size]; omega) (bw_bytes w4 t)).mono ?_
        rintro e w5 ⟨rfl, hB, hbel⟩
        obtain ⟨g, hg⟩ : ∃ g, g = (bw w4 t).heap.size := ⟨_, rfl⟩
        rw [← hg] at hB ⊢
        have HBK := hid_mk hB
        have HB6 : Hid (Below w4.heap.size w4 w5) := HB5.out.trans (hbel.mono HB5.out.size)
        have HGG : Hid (w4.heap.size ≤ g) := by show _ ≤ _; rw [hg]; exact HB5.out.size
        have HN6 := hid_mk (HN4.out.below HB6.out)
        have HBB6 : Hid (Below w.heap.size w w5) := HB4.out.trans (HB6.out.mono HB4.out.size)
        have HLT : Hid (∀ i, i < k → G i < g) := fun i hi => by
          have h1 := HG.out i hi
          have h2 := HB4.out.size
          have h3 := (HN4.out.2.2.1 i (by rw [HN4.out.2.1, HKL.out]; exact hi) (by rw [HKL.out]; exact hi)).2.2.size
          have h4 := HGG.out
          omega
        have HL6 : Hid (Lst Cold w5 w.heap.size (.slice zo (k + 1) zc) ((S.take k).map bl ++ [bl t])) := H4.out.below HB6.out
        have HA7 : Hid (∀ w7, w5.grownBy w7 (Value.slice yo k yc).ownBlock → SOwns w5 w.heap.size (.slice yo k yc) vs → Lst Cold w7 w.heap.size (.slice zo (k + 1) zc) ((S.take k).map bl ++ [bl t])) := fun w7 hg hso => by
          refine HL6.out.other hso hg ?_
          by_cases h0 : k = 0
          · left
            have := HN6.out.2.2.2.2 (List.eq_nil_of_length_eq_zero (by rw [HKL.out]; exact h0))
            rw [this]; rfl
          · right
            obtain ⟨us, u1, u2, u3⟩ := HL6.out
            exact lst_lnt u1 u2 u3 HN6.out (by rw [HKL1.out]; omega) (by rw [HKL.out]; omega)
        clear hB hbel hg hc4 HN4 HB5
        go_wp2_with (at_builtin; refine wpList_addL rfl _ _ rfl w.heap.size _ ((S.take k).map bl) vs G rfl w5 g _ _ (bl t) rfl HN6.out HL.out.symm rfl (Nat.le_trans HB4.out.size HGG.out) HBK.out (by rw [HKL.out]; exact HLT.out) _ rfl rfl (by rw [HKL.out]; omega) HBB6.out.size ?_; intro v' w7 h1 h2 h3 h4; obtain ⟨vs', G', hL, hGG⟩ := h1; obtain ⟨qo, qc, hq⟩ := hL.1.shape; rw [hL.2.1, HKL1.out] at hq; subst hq; have H7 := hid_mk hL; have HG7 := hid_mk hGG; have HB7 := hid_mk h2; have HL7 := hid_mk (HA7.out w7 h3 h4); clear hL hGG h2 h3 h4)
        go_roundw
        case rel =>
          refine ⟨zo, qo, zc, qc, k + 1, vs', G', rfl, rfl, by go_num, by omega, by omega, fun h => by omega, by rw [HTK.out]; exact HL7.out, by rw [HTK.out]; exact H7.out, fun i hi => Nat.lt_of_lt_of_le (HG7.out i (by rw [HKL1.out]; exact hi)) HB7.out.size, HBB6.out.trans HB7.out⟩
        case measure => simp [intOf]; omega
      · have h100' : ¬ (k : Int) < 100 := by omega
        have hlt' : (k : Int) < (S.length : Int) := by omega
        have hk' : k = 100 := by omega
        subst hk'
        go_wp2
        go_ret2
        exact ⟨_, _, vs, G, rfl, by rw [HM.out]; exact HA.out, by rw [HM.out]; exact HN.out, by rw [HM.out, List.length_map, List.length_take, Nat.min_eq_left (by omega)]; exact HG.out, HB.out⟩
    · have hlt' : ¬ (k : Int) < (S.length : Int) := by omega
      have hk' : k = S.length := by omega
      subst hk'
      have HT : Hid (S.take 100 = S.take S.length) := by show _ = _; rw [List.take_length, List.take_of_length_le (by omega)]
      go_wp2
      go_ret2
      exact ⟨_, _, vs, G, rfl, by rw [HM.out, HT.out]; exact HA.out, by rw [HM.out, HT.out]; exact HN.out, by rw [HM.out, HT.out, List.length_map, List.take_length]; exact HG.out, HB.out⟩
end Go.Proofs.YtigaabhicjcbjabDoor
