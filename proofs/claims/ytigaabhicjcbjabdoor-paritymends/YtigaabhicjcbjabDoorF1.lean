/-
  The document's own look whether a column fits.
-/
import Derived.Test.YtigaabhicjcbjabDoorR3
namespace Go.Proofs.YtigaabhicjcbjabDoor
open Go.ChangeShapes Go.WideShapes Go.ChangeAt Go.RowKit
set_option linter.unusedVariables false

/-- A column of the data, its gaps filled up. -/
def cols : List (List UInt8) → List UInt8 → Nat → List UInt8
  | [], _, _ => []
  | b :: D, F, i => if b.length = 0 then F.headD 0 :: cols D F.tail i else at0 b i :: cols D F i
/-- Each byte as a piece of its own. -/
def single (c : List UInt8) : List (List UInt8) := c.map (fun x => [x])
theorem cols_len (D : List (List UInt8)) (F : List UInt8) (i : Nat) : (cols D F i).length = D.length := by
  induction D generalizing F with
  | nil => rfl
  | cons b D ih => simp only [cols]; split <;> simp [ih]
theorem cols_snoc (D : List (List UInt8)) (b : List UInt8) (F : List UInt8) (i : Nat) : cols (D ++ [b]) F i = cols D F i ++ [if b.length = 0 then (F.drop (lostN D)).headD 0 else at0 b i] := by
  induction D generalizing F with
  | nil => simp only [List.nil_append, cols]; unfold lostN; simp only [gaps]; split <;> simp
  | cons a D ih =>
    have e : lostN (a :: D) = (if a.length = 0 then 1 else 0) + lostN D := by
      have := lostN_append [a] D
      simp only [List.cons_append, List.nil_append] at this
      rw [this]
      unfold lostN
      simp only [gaps]
      split <;> rfl
    simp only [List.cons_append, cols]
    by_cases h : a.length = 0
    · rw [if_pos h, if_pos h, ih, e, if_pos h]
      congr 3
      cases F with
      | nil => simp
      | cons x F => rw [Nat.add_comm]; rfl
    · rw [if_neg h, if_neg h, ih, e, if_neg h, Nat.zero_add]
      rfl
/-- Whether the further pieces that are there fit the column. -/
def Fit (L : List (List UInt8)) (n level i : Nat) (c : List UInt8) : Prop := ∀ k, 1 ≤ k → k ≤ level → (L.getD (n + k - 1) []).length = 0 ∨ at0 (L.getD (n + k - 1) []) i = colX k (single c) 0
theorem single_len (c : List UInt8) : (single c).length = c.length := by simp [single]
theorem single_snoc (c : List UInt8) (x : UInt8) : single (c ++ [x]) = single c ++ [[x]] := by simp [single]
/-- Bytes that fill gaps. -/
def FillR (n₀ : Nat) (w : World) (v : Value) (l : List UInt8) : Prop := (v = .slice none 0 0 ∧ l = []) ∨ ∃ b off cp, v = .slice (some ⟨b, off, none⟩) l.length cp ∧ b < n₀ ∧ l.length ≤ cp ∧ BytesAt w b off l
theorem FillR.below {n₀ B : Nat} {w w' : World} {v : Value} {l : List UInt8} (h : FillR n₀ w v l) (hb : Below B w w') (hB : n₀ ≤ B) : FillR n₀ w' v l := by
  rcases h with h | ⟨b, off, cp, e, hbb, hcp, hc⟩
  · exact .inl h
  · exact .inr ⟨b, off, cp, e, hbb, hcp, fun i hi => (hb.cell (p := ⟨b, off + i, none⟩) (show b < B by omega)).trans (hc i hi)⟩
theorem FillR.cons {n₀ : Nat} {w : World} {v : Value} {x : UInt8} {l : List UInt8} (h : FillR n₀ w v (x :: l)) : ∃ b off cp, v = .slice (some ⟨b, off, none⟩) (l.length + 1) (cp + 1) ∧ b < n₀ ∧ l.length ≤ cp ∧ w.cell? ⟨b, off, none⟩ = some (.int .u8 (x.toNat : Int)) ∧ FillR n₀ w (.slice (some ⟨b, off + 1, none⟩) l.length cp) l ∧ (cp = 0 → FillR n₀ w (.slice (some ⟨b, off, none⟩) l.length 0) l) := by
  rcases h with ⟨_, h⟩ | ⟨b, off, cp, e, hbb, hcp, hc⟩
  · cases h
  · obtain ⟨c, rfl⟩ : ∃ c, cp = c + 1 := ⟨cp - 1, by simp at hcp; omega⟩
    have hcl : l.length ≤ c := by simp at hcp; exact hcp
    refine ⟨b, off, c, by simpa using e, hbb, hcl, (by have h := hc 0 (by simp); exact h), .inr ⟨b, off + 1, c, rfl, hbb, hcl, fun i hi => ?_⟩, fun h0 => ?_⟩
    · have := hc (i + 1) (by simpa using hi)
      rw [show off + (i + 1) = off + 1 + i by omega] at this
      simpa using this
    · have hl0 : l = [] := List.eq_nil_of_length_eq_zero (by omega)
      subst hl0
      exact .inr ⟨b, off, 0, rfl, hbb, by simp, fun i hi => by simp at hi⟩
theorem FillR.shape {n₀ : Nat} {w : World} {v : Value} {l : List UInt8} (h : FillR n₀ w v l) : ∃ ao cp, v = .slice ao l.length cp := by
  rcases h with ⟨rfl, rfl⟩ | ⟨b, off, cp, rfl, _⟩
  · exact ⟨none, 0, rfl⟩
  · exact ⟨_, _, rfl⟩
theorem one_el (w : World) (x : UInt8) (base : Nat) (hb : base ≤ w.heap.size) (b : Nat) (hbb : b = w.heap.size) : ElP (fun _ => True) (w.alloc (.cells #[.int .u8 (x.toNat : Int)] 5)) base (.slice (some ⟨b, 0, none⟩) 1 1) [x] := by
  subst hbb
  refine .inr ⟨w.heap.size, 0, 1, rfl, hb, one_bytes w x _ rfl _ rfl, #[.int .u8 (x.toNat : Int)], (0, 0), ?_, trivial⟩
  show (w.heap.push _)[w.heap.size]? = _
  rw [Array.getElem?_push, if_pos rfl]
theorem lostN_le {D E : List (List UInt8)} : lostN D ≤ lostN (D ++ E) := by rw [lostN_append]; omega
theorem lostN_take_lt {D : List (List UInt8)} {k : Nat} (hk : k < D.length) (h0 : D[k].length = 0) : lostN (D.take k) < lostN D := by
  have h1 : lostN (D.take (k + 1)) ≤ lostN D := by
    conv => rhs; rw [← List.take_append_drop (k + 1) D]
    exact lostN_le
  rw [take_snoc D k hk, lostN_snoc, if_pos h0] at h1
  omega
theorem drop_cons_of_lt {l : List UInt8} {g : Nat} (h : g < l.length) : l.drop g = (l.drop g).headD 0 :: l.drop (g + 1) := by
  rw [List.drop_eq_getElem_cons h]; rfl
/-- What fits leaves. -/
def FitsPost (L : List (List UInt8)) (n level i : Nat) (c : List UInt8) (w : World) (e : Ending) (w' : World) : Prop := ∃ r : Bool, e = .returned (.bool r) ∧ (r = true ↔ Fit L n level i c) ∧ Below w.heap.size w w'
set_option maxRecDepth 100000 in
set_option maxHeartbeats 1000000 in
theorem fits_any (L : List (List UInt8)) (n lv i sz : Nat) (F : List UInt8) (v fv : Value) (w : World) (hn : L.length = n + lv) (hlv : lv ≤ 2) (hn16 : n ≤ 16) (hsz : sz ≤ 4096) (hi : i < sz) (hp : ∀ b ∈ L, b.length = 0 ∨ b.length = sz) (hF : F.length = lostN (L.take n)) (hv : Pcs w.heap.size w v L) (hfv : FillR w.heap.size w fv F) :
    Calls Tryd.prog 36 #[v, .int .i64 (lv : Int), .int .i64 (i : Int), fv] w (FitsPost L n lv i (cols (L.take n) F i) w) := by
  obtain ⟨ao, cp, rfl⟩ := hv.shape
  obtain ⟨fo, fc, rfl⟩ := hfv.shape
  have HV := hid_mk hv
  have HFV := hid_mk hfv
  have HPL := hid_mk hp
  have HFL := hid_mk hF
  obtain ⟨c, hc⟩ : ∃ c, c = cols (L.take n) F i := ⟨_, rfl⟩
  have HC := hid_mk hc
  rw [← hc]
  have hni : (L.length : Int) - (lv : Int) = (n : Int) := by omega
  have HN := hid_mk hn
  have hnL : (n : Int) ≤ (L.length : Int) := by omega
  have hLL : (L.length : Int) ≤ 18 := by omega
  clear hv hfv hp hF hc hn
  go_enter Tryd.func36, Tryd.ntmps36
  go_wp2
  go_loopw [3, 10, 11] (fun fl x ii wr => ∃ (go xo : Option Addr) (gc xc k m : Nat), fl = .slice go m gc ∧ x = .slice xo k xc ∧ ii = .int .i64 (k : Int) ∧ k ≤ n ∧ m = (F.drop (lostN (L.take k))).length ∧ FillR w.heap.size wr (.slice go m gc) (F.drop (lostN (L.take k))) ∧ Own2 wr w.heap.size (.slice xo k xc) (single (cols (L.take k) F i)) ∧ Below w.heap.size w wr) (fun _ _ ii _ => n - (intOf ii).toNat)
  case atStart => exact ⟨fo, none, fc, 0, 0, F.length, rfl, rfl, rfl, by omega, rfl, HFV.out, Lst.nil _ _ _, Below.refl _ _⟩
  case round =>
    obtain ⟨go, xo, gc, xc, k, m, rfl, rfl, rfl, hk, hm, hfr, ho, hb⟩ := hrel
    obtain ⟨V, hV⟩ : ∃ V, V = wr := ⟨_, rfl⟩
    subst hV
    have HM := hid_mk hm
    have HFR := hid_mk hfr
    have HO := hid_mk ho
    have HB := hid_mk hb
    clear hm hfr ho hb
    by_cases hlt : k < n
    · have hkL : k < L.length := by have := HN.out; omega
      have hkL' : (k : Int) < (L.length : Int) := by omega
      have hlt' : (k : Int) < (n : Int) := by omega
      obtain ⟨b, off, ul, ucp, rfl, hbb, hc0, hr0⟩ := HV.out.get k hkL
      have hc1 : V.cell? ⟨b, off + k, none⟩ = some (.slice ul L[k].length ucp) := (HB.out.cell (p := ⟨b, off + k, none⟩) hbb).trans hc0
      have hr1 : Rd w.heap.size V (.slice ul L[k].length ucp) L[k] := hr0.below HB.out (Nat.le_refl _)
      have HSN : Hid (single (cols (L.take (k + 1)) F i) = single (cols (L.take k) F i) ++ [[if L[k].length = 0 then (F.drop (lostN (L.take k))).headD 0 else at0 L[k] i]]) := by
        show _ = _
        rw [take_snoc L k hkL, cols_snoc, single_snoc]
      have HLS : Hid (lostN (L.take (k + 1)) = lostN (L.take k) + if L[k].length = 0 then 1 else 0) := by
        show _ = _
        rw [take_snoc L k hkL, lostN_snoc]
      have HKL : Hid ((single (cols (L.take k) F i)).length = k) := by show _ = _; rw [single_len, cols_len, List.length_take]; omega
      by_cases h0 : L[k].length = 0
      · rw [if_pos h0] at HSN HLS
        rw [h0] at hc1
        have hgl : lostN (L.take k) < F.length := by
          rw [HFL.out]
          have h1 : k < (L.take n).length := by rw [List.length_take]; omega
          have h2 := lostN_take_lt (D := L.take n) h1 (by rw [List.getElem_take]; exact h0)
          rw [List.take_take, Nat.min_eq_left (by omega)] at h2
          exact h2
        have hfr := HFR.out
        rw [drop_cons_of_lt hgl] at hfr
        obtain ⟨fb, foff, c', e1, hfb, hcp', hfc, hr2, hr3⟩ := hfr.cons
        obtain ⟨x, hx⟩ : ∃ x, x = (F.drop (lostN (L.take k))).headD 0 := ⟨_, rfl⟩
        obtain ⟨m', hm'⟩ : ∃ m', m' = (F.drop (lostN (L.take k) + 1)).length := ⟨_, rfl⟩
        rw [← hx] at hfc HSN
        rw [← hm'] at e1 hr2 hr3 hcp'
        simp at e1
        obtain ⟨rfl, rfl, rfl⟩ := e1
        have HR2 := hid_mk hr2
        have HR3 := hid_mk hr3
        have HMM := hid_mk hm'
        have HO1 : Hid (Own2 (V.alloc (.cells #[.int .u8 (x.toNat : Int)] 5)) w.heap.size (.slice xo k xc) (single (cols (L.take k) F i))) := HO.out.below ((Below.refl _ _).alloc (Nat.le_refl _) _)
        have HE1 := hid_mk (one_el V x w.heap.size HB.out.size)
        have HBV : Hid (Below V.heap.size V (V.alloc (.cells #[.int .u8 (x.toNat : Int)] 5))) := (Below.refl _ _).alloc (Nat.le_refl _) _
        have HBA : Hid (Below w.heap.size w (V.alloc (.cells #[.int .u8 (x.toNat : Int)] 5))) := HB.out.alloc HB.out.size _
        have HKL1 : Hid ((single (cols (L.take k) F i) ++ [[x]]).length = k + 1) := by show _ = _; rw [List.length_append, HKL.out]; rfl
        clear hr0 hr1 hfr hr2 hr3 hm' hx hc0
        go_wp2_with (at_builtin; refine wpList_add2 _ 33 Tryd.underlying33 rfl _ _ rfl w.heap.size _ (single (cols (L.take k) F i)) rfl (V.alloc (.cells #[.int .u8 (x.toNat : Int)] 5)) _ _ _ [x] rfl HO1.out (HE1.out _ rfl) _ (by simp) rfl (by rw [HKL.out]; omega) HBA.out.size ?_; intro v' w4 h1 h2 h3; obtain ⟨zo, zc, hz⟩ := h1.shape; rw [HKL1.out] at hz; subst hz; have H4 := hid_mk h1; have HB4 := hid_mk ((HBV.out.mono HB.out.size).trans h2); clear h1 h2 h3)
        go_roundw
        case rel =>
          refine ⟨_, zo, _, zc, k + 1, m', rfl, rfl, by go_num, by omega, by rw [HLS.out]; exact HMM.out, ?_, by rw [HSN.out]; exact H4.out, HB.out.trans HB4.out⟩
          rw [HLS.out]
          split
          · rename_i hc0
            have h := HR3.out hc0
            subst hc0
            exact h.below HB4.out (Nat.le_refl _)
          · exact HR2.out.below HB4.out (Nat.le_refl _)
        case measure => simp [intOf]; omega
      · rw [if_neg h0] at HSN HLS
        have hil : i < L[k].length := by
          rcases HPL.out _ (List.getElem_mem hkL) with h | h
          · exact absurd h h0
          · omega
        have hz4 : L[k].length ≤ 4096 := by
          rcases HPL.out _ (List.getElem_mem hkL) with h | h <;> omega
        obtain ⟨b2, off2, rfl, hb2, hc2⟩ := Rd.byte hr1 i hil
        obtain ⟨z, hz⟩ : ∃ z, z = L[k].length := ⟨_, rfl⟩
        rw [← hz] at hc1 hil h0 hz4
        obtain ⟨x, hx⟩ : ∃ x, x = at0 L[k] i := ⟨_, rfl⟩
        rw [← hx] at hc2 HSN
        have hz0 : (0 : Int) < (z : Int) := by omega
        have hil' : (i : Int) < (z : Int) := by omega
        have HO1 : Hid (Own2 (V.alloc (.cells #[.int .u8 (x.toNat : Int)] 5)) w.heap.size (.slice xo k xc) (single (cols (L.take k) F i))) := HO.out.below ((Below.refl _ _).alloc (Nat.le_refl _) _)
        have HE1 := hid_mk (one_el V x w.heap.size HB.out.size)
        have HBV : Hid (Below V.heap.size V (V.alloc (.cells #[.int .u8 (x.toNat : Int)] 5))) := (Below.refl _ _).alloc (Nat.le_refl _) _
        have HBA : Hid (Below w.heap.size w (V.alloc (.cells #[.int .u8 (x.toNat : Int)] 5))) := HB.out.alloc HB.out.size _
        have HKL1 : Hid ((single (cols (L.take k) F i) ++ [[x]]).length = k + 1) := by show _ = _; rw [List.length_append, HKL.out]; rfl
        clear hr0 hr1 hx hc0 hz
        go_wp2_with (at_builtin; refine wpList_add2 _ 33 Tryd.underlying33 rfl _ _ rfl w.heap.size _ (single (cols (L.take k) F i)) rfl (V.alloc (.cells #[.int .u8 (x.toNat : Int)] 5)) _ _ _ [x] rfl HO1.out (HE1.out _ rfl) _ (by simp) rfl (by rw [HKL.out]; omega) HBA.out.size ?_; intro v' w4 h1 h2 h3; obtain ⟨zo, zc, hz⟩ := h1.shape; rw [HKL1.out] at hz; subst hz; have H4 := hid_mk h1; have HB4 := hid_mk ((HBV.out.mono HB.out.size).trans h2); clear h1 h2 h3)
        go_roundw
        case rel => exact ⟨go, zo, gc, zc, k + 1, m, rfl, rfl, by go_num, by omega, by rw [HLS.out]; exact HM.out, by rw [HLS.out]; exact HFR.out.below HB4.out (Nat.le_refl _), by rw [HSN.out]; exact H4.out, HB.out.trans HB4.out⟩
        case measure => simp [intOf]; omega
    · have hkn : k = n := by omega
      subst hkn
      rw [← HC.out] at HO
      have HCL : Hid (c.length = k) := by show _ = _; rw [HC.out, cols_len, List.length_take]; have := HN.out; omega
      go_wp2
      go_loopw [12] (fun kk wr => ∃ j : Nat, kk = .int .i64 ((j : Int) + 1) ∧ j ≤ lv ∧ (∀ t, 1 ≤ t → t ≤ j → (L.getD (k + t - 1) []).length = 0 ∨ at0 (L.getD (k + t - 1) []) i = colX t (single c) 0) ∧ Below V.heap.size V wr) (fun kk _ => lv + 1 - (intOf kk).toNat)
      case atStart => exact ⟨0, rfl, by omega, fun t h1 h2 => by omega, Below.refl _ _⟩
      case round =>
        obtain ⟨j, rfl, hj, hfit, hb2⟩ := hrel
        have HFIT := hid_mk hfit
        have HB2 := hid_mk hb2
        have HBW : Hid (Below w.heap.size w wr) := HB.out.trans (HB2.out.mono HB.out.size)
        clear hfit hb2
        by_cases hjl : j < lv
        · obtain ⟨K, hK⟩ : ∃ K, K = j + 1 := ⟨_, rfl⟩
          have hKi : (j : Int) + 1 = (K : Int) := by omega
          rw [hKi]
          have hKl : (K : Int) ≤ (lv : Int) := by omega
          have hK12 : K = 1 ∨ K = 2 := by omega
          have hkj : k + j < L.length := by have := HN.out; omega
          obtain ⟨b, off, ul, ucp, rfl, hbb, hc0, hr0⟩ := HV.out.get (k + j) hkj
          have hc1 : wr.cell? ⟨b, off + (k + j), none⟩ = some (.slice ul L[k + j].length ucp) := (HBW.out.cell (p := ⟨b, off + (k + j), none⟩) hbb).trans hc0
          have hr1 : Rd w.heap.size wr (.slice ul L[k + j].length ucp) L[k + j] := hr0.below HBW.out (Nat.le_refl _)
          have HGD : Hid (L.getD (k + K - 1) [] = L[k + j]) := by
            show _ = _
            rw [show k + K - 1 = k + j by omega]
            simp [hkj]
          have hidx : (k : Int) + (K : Int) - 1 = ((k + j : Nat) : Int) := by omega
          obtain ⟨q, hq⟩ : ∃ q, q = k + j := ⟨_, rfl⟩
          have HNX : Hid ((L[k + j].length = 0 ∨ at0 L[k + j] i = colX K (single c) 0) → ∀ t, 1 ≤ t → t ≤ K → (L.getD (k + t - 1) []).length = 0 ∨ at0 (L.getD (k + t - 1) []) i = colX t (single c) 0) := fun h t h1 h2 => by
            by_cases ht : t = K
            · subst ht; rw [HGD.out]; exact h
            · exact HFIT.out t h1 (by omega)
          have HNO : Hid (¬ (L[k + j].length = 0 ∨ at0 L[k + j] i = colX K (single c) 0) → ¬ Fit L k lv i c) := fun h hf => by
            have := hf K (by omega) (by omega)
            rw [HGD.out] at this
            exact h this
          have HK := hid_mk hK
          have hp4 := HPL.out _ (List.getElem_mem hkj)
          obtain ⟨y, hy⟩ : ∃ y, y = L[k + j] := ⟨_, rfl⟩
          rw [← hy] at hc1 hr1 HNX HNO hp4
          rw [← hq] at hc1 hidx
          have hqL : (q : Int) < (L.length : Int) := by omega
          clear hc0 hr0 hq hy hK hKi
          by_cases h0 : y.length = 0
          · rw [h0] at hc1
            have HY0 := hid_mk h0
            have hd : decide ((0 : Int) < 0) = false := by decide
            clear h0 hr1
            go_wp2
            go_quiet (fail)
            go_wp2
            go_roundw
            case rel => exact ⟨K, rfl, by omega, HNX.out (.inl HY0.out), HB2.out.trans (drewN_below _ _ _)⟩
            case measure => simp [intOf]; omega
          · have hy4 : y.length ≤ 4096 := by omega
            have hiy : i < y.length := by omega
            obtain ⟨b2, off2, rfl, hb2', hc2⟩ := Rd.byte hr1 i hiy
            obtain ⟨z, hz⟩ : ∃ z, z = y.length := ⟨_, rfl⟩
            obtain ⟨x, hx⟩ : ∃ x, x = at0 y i := ⟨_, rfl⟩
            obtain ⟨r, hr⟩ : ∃ r, r = colX K (single c) 0 := ⟨_, rfl⟩
            have HEX : Hid (∀ m, Calls Tryd.prog 31 #[.slice xo k xc, .int .i64 0, .int .i64 (K : Int)] (wr.drewN m) fun e w'' => e = .returned (.int .u8 (r.toNat : Int)) ∧ ∃ m', w'' = (wr.drewN m).drewN m') := fun m => by
              have hP : Pcs (wr.drewN m).heap.size (wr.drewN m) (.slice xo k xc) (single c) := (HO.out.below (HB2.out.trans (drewN_below _ _ _))).pcs
              have h := extra_any K (single c) (wr.drewN m).heap.size 0 (.slice xo k xc) (wr.drewN m) hK12 (by rw [single_len, HCL.out]; omega) (by omega) (Nat.le_refl _) hP (fun b hb => by
                simp only [single, List.mem_map] at hb
                obtain ⟨x, _, rfl⟩ := hb
                simp) (fun b hb => by
                simp only [single, List.mem_map] at hb
                obtain ⟨x, _, rfl⟩ := hb
                simp)
              rw [← hr] at h
              exact h
            rw [← hz] at hc1 hiy hy4 h0
            rw [← hx] at hc2
            have hiz : (i : Int) < (z : Int) := by omega
            have hz0 : (0 : Int) < (z : Int) := by omega
            have hz0n : 0 < z := by omega
            have hdz : decide ((0 : Int) < (z : Int)) = true := by simp; omega
            have HYN : Hid (y.length ≠ 0) := by show _ ≠ _; rw [← hz]; exact h0
            have HXX := hid_mk hx
            have HRR := hid_mk hr
            clear hr1 hz hx hr
            by_cases hxr : x = r
            · have hne : ((x.toNat : Int) != (r.toNat : Int)) = false := by rw [hxr]; simp
              go_wp2
              go_quiet (first | (go_at_call 31; exact Calls.quiet_of (HEX.out _)))
              go_wp2
              go_roundw
              case rel => exact ⟨K, rfl, by omega, HNX.out (.inr (by rw [← HXX.out, ← HRR.out]; exact hxr)), HB2.out.trans (drewN_below _ _ _)⟩
              case measure => simp [intOf]; omega
            · have hne : ((x.toNat : Int) != (r.toNat : Int)) = true := by
                simp only [bne_iff_ne, ne_eq]
                intro h
                exact hxr (u8_ext (by omega))
              go_wp2
              go_quiet (first | (go_at_call 31; exact Calls.quiet_of (HEX.out _)))
              go_wp2
              go_ret
              exact ⟨false, rfl, ⟨(fun h => by cases h), fun h => absurd h (HNO.out (fun h => by
                rcases h with h | h
                · exact HYN.out h
                · rw [← HXX.out, ← HRR.out] at h; exact hxr h))⟩, HBW.out.trans (drewN_below _ _ _)⟩
        · have hjl' : j = lv := by omega
          subst hjl'
          go_wp2
          go_ret
          exact ⟨true, rfl, ⟨fun _ => HFIT.out, fun _ => rfl⟩, HBW.out⟩
end Go.Proofs.YtigaabhicjcbjabDoor
