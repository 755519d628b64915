import Derived.Test.YtcpdnalmoaojlaaDoorHSp3

/-
  listed: a list of pieces becomes a tree.
-/
namespace Go.Proofs.YtcpdnalmoaojlaaDoor
open Go.ChangeShapes Go.WideShapes Go.ChangeAt Go.RowKit
set_option linter.unusedVariables false
set_option linter.unusedSimpArgs false

/-- Pieces that lie one behind the other. -/
def PcAt (w : World) (b o : Nat) (x : Pc) : Prop := w.cell? ⟨b, o, none⟩ = some (.int .i64 (x.at' : Int)) ∧ w.cell? ⟨b, o + 1, none⟩ = some (.int .i64 (x.n : Int)) ∧ w.cell? ⟨b, o + 2, none⟩ = some (.int .i64 (x.count : Int)) ∧ w.cell? ⟨b, o + 3, none⟩ = some (.int .u64 (x.tag : Int)) ∧ w.cell? ⟨b, o + 4, none⟩ = some (.int .u8 (x.st : Int))
def PcsAt (w : World) (b off : Nat) (l : List Pc) : Prop := ∀ i (h : i < l.length), PcAt w b (off + i * 5) l[i]
theorem PcAt.below {w w' : World} {b o B : Nat} {x : Pc} (h : PcAt w b o x) (hb : Below B w w') (hB : b < B) : PcAt w' b o x := by
  obtain ⟨h0, h1, h2, h3, h4⟩ := h
  exact ⟨(hb.cell (p := ⟨b, _, none⟩) hB).trans h0, (hb.cell (p := ⟨b, _, none⟩) hB).trans h1, (hb.cell (p := ⟨b, _, none⟩) hB).trans h2, (hb.cell (p := ⟨b, _, none⟩) hB).trans h3, (hb.cell (p := ⟨b, _, none⟩) hB).trans h4⟩
theorem PcsAt.below {w w' : World} {b off B : Nat} {l : List Pc} (h : PcsAt w b off l) (hb : Below B w w') (hB : b < B) : PcsAt w' b off l := fun i hi => (h i hi).below hb hB
theorem listed_nil (ao : Option Addr) (cp : Nat) (w : World) : Calls Tryd.prog 61 #[.slice ao 0 cp] w (KPost w []) := by
  go_enter Tryd.func61, Tryd.ntmps61
  go_wp2_with fail
  go_ret
  exact ⟨none, rfl, KT.nil _, Below.refl _ _⟩
set_option maxRecDepth 100000 in
set_option maxHeartbeats 4000000 in
theorem listed_any (k : Nat) : ∀ (ls : List Pc) (b off cp a e : Nat) (w : World), ls.length ≤ k → ls.length ≤ cp → b < w.heap.size → PcsAt w b off ls → Fits a ls e → e ≤ 1073741824 → Calls Tryd.prog 61 #[.slice (some ⟨b, off, none⟩) ls.length cp] w (KPost w ls) := by
  induction k with
  | zero =>
    intro ls b off cp a e w hk hcp hb hp hf he
    obtain rfl := List.eq_nil_of_length_eq_zero (Nat.le_zero.1 hk)
    exact listed_nil _ _ w
  | succ k ih =>
    intro ls b off cp a e w hk hcp hb hp hf he
    by_cases h0 : ls.length = 0
    · obtain rfl := List.eq_nil_of_length_eq_zero h0
      exact listed_nil _ _ w
    · obtain ⟨m, hm⟩ : ∃ m, m = ls.length / 2 := ⟨_, rfl⟩
      obtain ⟨n, hn⟩ : ∃ n, n = ls.length := ⟨_, rfl⟩
      have hmn : m < n := by omega
      have hlen := fits_len hf
      have hn30 : n ≤ 1073741824 := by omega
      obtain ⟨x, hx⟩ : ∃ x, x = ls[m]'(by omega) := ⟨_, rfl⟩
      have hcut : ls = ls.take m ++ x :: ls.drop (m + 1) := by rw [hx, ← List.drop_eq_getElem_cons (by omega), List.take_append_drop]
      rw [hcut] at hf
      obtain ⟨f1, f2, f3⟩ := fits_cut.1 hf
      have hpx : PcAt w b (off + m * 5) x := by rw [hx]; exact hp m (by omega)
      have L1 : Hid (∀ W, Below w.heap.size w W → Calls Tryd.prog 61 #[.slice (some ⟨b, off, none⟩) m cp] W (KPost W (ls.take m))) := fun W hW => by
        have h := ih (ls.take m) b off cp a x.at' W (by rw [List.length_take]; omega) (by rw [List.length_take]; omega) (Nat.lt_of_lt_of_le hb hW.size) (fun i hi => by
          rw [List.getElem_take]
          exact (hp i (by rw [List.length_take] at hi; omega)).below hW hb) f1 (by have := f3.le; have : x.stop = x.at' + x.n := rfl; omega)
        rw [List.length_take, Nat.min_eq_left (by omega)] at h
        exact h
      have L2 : Hid (∀ W c, Below w.heap.size w W → n - (m + 1) ≤ c → Calls Tryd.prog 61 #[.slice (some ⟨b, off + (m + 1) * 5, none⟩) (n - (m + 1)) c] W (KPost W (ls.drop (m + 1)))) := fun W c hW hc => by
        have h := ih (ls.drop (m + 1)) b (off + (m + 1) * 5) c x.stop e W (by rw [List.length_drop]; omega) (by rw [List.length_drop]; omega) (Nat.lt_of_lt_of_le hb hW.size) (fun i hi => by
          rw [List.getElem_drop]
          have h := (hp (m + 1 + i) (by rw [List.length_drop] at hi; omega)).below hW hb
          rw [show off + (m + 1 + i) * 5 = off + (m + 1) * 5 + i * 5 by omega] at h
          exact h) f3 he
        rw [List.length_drop, ← hn] at h
        exact h
      have L3 : Hid (n - (m + 1) = 0 → ∀ W ao c, Calls Tryd.prog 61 #[.slice ao 0 c] W (KPost W (ls.drop (m + 1)))) := fun h W ao c => by
        rw [List.drop_eq_nil_of_le (by omega)]
        exact listed_nil _ _ W
      have HTI : Hid (∀ W p q, KT W p (ls.take m) → KT W q (ls.drop (m + 1)) → Calls Tryd.prog 69 #[.pointer p, .agg (pcv x), .pointer q] W (KPost W ls)) := fun W p q h1 h2 => by
        have h := tie_any p q _ _ x a e W h1 h2 hf he
        rw [← hcut] at h
        exact h
      obtain ⟨d0, d1, d2, d3, d4⟩ := hpx
      rw [← hn] at hcp ⊢
      have hmi : ((n : Nat) : Int) / 2 = (m : Int) := by omega
      have hn0 : ¬ (n : Int) = 0 := by omega
      have hm0 : (m : Int) < (n : Int) := by omega
      clear ih hp hf hcut hx hk h0 hlen hm hn f1 f2 f3
      unfold pcv at HTI
      have hm1 : ((m : Int) + 1) ≤ (n : Int) := by omega
      have hmc : ((m : Int) + 1) ≤ (cp : Int) := by omega
      have hmc0 : (m : Int) ≤ (cp : Int) := by omega
      have hwr : IntKind.i64.wrap ((m : Int) + 1) = (m : Int) + 1 := by rw [IntKind.wrap_i64]; omega
      have htn : ((m : Int) + 1).toNat = m + 1 := by omega
      have hm10 : (0 : Int) ≤ (m : Int) + 1 := by omega
      by_cases hc : cp = m + 1
      · have hcs : cp - (m + 1) = 0 := by omega
        have hns : n - (m + 1) = 0 := by omega
        have HCC := hid_mk hc
        clear hc
        go_enter Tryd.func61, Tryd.ntmps61
        go_wp2_with fail
        go_region_held3 (fun w' => w'.cell? ⟨b, off + m * 5, none⟩ = some (.int .i64 (x.at' : Int)) ∧ w'.cell? ⟨b, off + m * 5 + 1, none⟩ = some (.int .i64 (x.n : Int)) ∧ w'.cell? ⟨b, off + m * 5 + 2, none⟩ = some (.int .i64 (x.count : Int)) ∧ w'.cell? ⟨b, off + m * 5 + 3, none⟩ = some (.int .u64 (x.tag : Int)) ∧ w'.cell? ⟨b, off + m * 5 + 4, none⟩ = some (.int .u8 (x.st : Int))) (simp [*]) (first
          | (go_at_call 61; refine (L1.out _ (Below.drew (Below.refl _ _))).mono ?_; clear L1; rintro e w2 ⟨p1, rfl, hk1, hb2⟩; have HB2 : Hid (Below w.heap.size w w2) := (Below.drew (Below.refl _ _)).trans hb2; have HK1 := hid_mk hk1; have e0 := (HB2.out.cell (p := ⟨b, off + m * 5, none⟩) hb).trans d0; have e1 := (HB2.out.cell (p := ⟨b, off + m * 5 + 1, none⟩) hb).trans d1; have e2 := (HB2.out.cell (p := ⟨b, off + m * 5 + 2, none⟩) hb).trans d2; have e3 := (HB2.out.cell (p := ⟨b, off + m * 5 + 3, none⟩) hb).trans d3; have e4 := (HB2.out.cell (p := ⟨b, off + m * 5 + 4, none⟩) hb).trans d4; clear hk1 hb2)
          | (go_at_call 61; refine (L3.out (by omega) _ _ _).mono ?_; clear L3; rintro e w3 ⟨p2, rfl, hk2, hb3⟩; have HB3 : Hid (Below w.heap.size w w3) := HB2.out.trans (hb3.mono HB2.out.size); have HK2 := hid_mk hk2; have HK13 := hid_mk (HK1.out.below hb3); have y0 := (HB3.out.cell (p := ⟨b, off + m * 5, none⟩) hb).trans d0; have y1 := (HB3.out.cell (p := ⟨b, off + m * 5 + 1, none⟩) hb).trans d1; have y2 := (HB3.out.cell (p := ⟨b, off + m * 5 + 2, none⟩) hb).trans d2; have y3 := (HB3.out.cell (p := ⟨b, off + m * 5 + 3, none⟩) hb).trans d3; have y4 := (HB3.out.cell (p := ⟨b, off + m * 5 + 4, none⟩) hb).trans d4; clear hk2 hb3)
          | (go_at_call 69; refine (HTI.out _ _ _ HK13.out HK2.out).mono ?_; clear HTI; rintro e w4 ⟨p3, rfl, hk3, hb4⟩; have HB4 : Hid (Below w.heap.size w w4) := HB3.out.trans (hb4.mono HB3.out.size); have HK3 := hid_mk hk3; have z0 := (HB4.out.cell (p := ⟨b, off + m * 5, none⟩) hb).trans d0; have z1 := (HB4.out.cell (p := ⟨b, off + m * 5 + 1, none⟩) hb).trans d1; have z2 := (HB4.out.cell (p := ⟨b, off + m * 5 + 2, none⟩) hb).trans d2; have z3 := (HB4.out.cell (p := ⟨b, off + m * 5 + 3, none⟩) hb).trans d3; have z4 := (HB4.out.cell (p := ⟨b, off + m * 5 + 4, none⟩) hb).trans d4; clear hk3 hb4))
        go_wp2_with fail
        go_ret
        exact ⟨_, rfl, HK3.out, HB4.out⟩
      · have hc' : ¬ cp = m + 1 := hc
        have hci : ¬ ((m : Int) + 1 = (cp : Int)) := by omega
        have hcs : ¬ (cp - (m + 1) = 0) := by omega
        go_enter Tryd.func61, Tryd.ntmps61
        go_wp2_with fail
        go_region_held3 (fun w' => w'.cell? ⟨b, off + m * 5, none⟩ = some (.int .i64 (x.at' : Int)) ∧ w'.cell? ⟨b, off + m * 5 + 1, none⟩ = some (.int .i64 (x.n : Int)) ∧ w'.cell? ⟨b, off + m * 5 + 2, none⟩ = some (.int .i64 (x.count : Int)) ∧ w'.cell? ⟨b, off + m * 5 + 3, none⟩ = some (.int .u64 (x.tag : Int)) ∧ w'.cell? ⟨b, off + m * 5 + 4, none⟩ = some (.int .u8 (x.st : Int))) (simp [*]) (first
          | (go_at_call 61; refine (L1.out _ (Below.drew (Below.refl _ _))).mono ?_; clear L1; rintro e w2 ⟨p1, rfl, hk1, hb2⟩; have HB2 : Hid (Below w.heap.size w w2) := (Below.drew (Below.refl _ _)).trans hb2; have HK1 := hid_mk hk1; have e0 := (HB2.out.cell (p := ⟨b, off + m * 5, none⟩) hb).trans d0; have e1 := (HB2.out.cell (p := ⟨b, off + m * 5 + 1, none⟩) hb).trans d1; have e2 := (HB2.out.cell (p := ⟨b, off + m * 5 + 2, none⟩) hb).trans d2; have e3 := (HB2.out.cell (p := ⟨b, off + m * 5 + 3, none⟩) hb).trans d3; have e4 := (HB2.out.cell (p := ⟨b, off + m * 5 + 4, none⟩) hb).trans d4; clear hk1 hb2)
          | (go_at_call 61; refine (L2.out _ _ HB2.out (by omega)).mono ?_; clear L2; rintro e w3 ⟨p2, rfl, hk2, hb3⟩; have HB3 : Hid (Below w.heap.size w w3) := HB2.out.trans (hb3.mono HB2.out.size); have HK2 := hid_mk hk2; have HK13 := hid_mk (HK1.out.below hb3); have y0 := (HB3.out.cell (p := ⟨b, off + m * 5, none⟩) hb).trans d0; have y1 := (HB3.out.cell (p := ⟨b, off + m * 5 + 1, none⟩) hb).trans d1; have y2 := (HB3.out.cell (p := ⟨b, off + m * 5 + 2, none⟩) hb).trans d2; have y3 := (HB3.out.cell (p := ⟨b, off + m * 5 + 3, none⟩) hb).trans d3; have y4 := (HB3.out.cell (p := ⟨b, off + m * 5 + 4, none⟩) hb).trans d4; clear hk2 hb3)
          | (go_at_call 69; refine (HTI.out _ _ _ HK13.out HK2.out).mono ?_; clear HTI; rintro e w4 ⟨p3, rfl, hk3, hb4⟩; have HB4 : Hid (Below w.heap.size w w4) := HB3.out.trans (hb4.mono HB3.out.size); have HK3 := hid_mk hk3; have z0 := (HB4.out.cell (p := ⟨b, off + m * 5, none⟩) hb).trans d0; have z1 := (HB4.out.cell (p := ⟨b, off + m * 5 + 1, none⟩) hb).trans d1; have z2 := (HB4.out.cell (p := ⟨b, off + m * 5 + 2, none⟩) hb).trans d2; have z3 := (HB4.out.cell (p := ⟨b, off + m * 5 + 3, none⟩) hb).trans d3; have z4 := (HB4.out.cell (p := ⟨b, off + m * 5 + 4, none⟩) hb).trans d4; clear hk3 hb4))
        go_wp2_with fail
        go_ret
        exact ⟨_, rfl, HK3.out, HB4.out⟩
end Go.Proofs.YtcpdnalmoaojlaaDoor
