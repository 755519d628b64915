import Derived.Test.YtcpdnalmoaojlaaDoorHQ8

/-
  The document's Take.
-/
namespace Go.Proofs.YtcpdnalmoaojlaaDoor
open Go.RowKit Go.Shelf
set_option linter.unusedVariables false
set_option linter.unusedSimpArgs false

/-- What is known when so many rows were looked at. -/
structure TK (l : List Pc) (N i fr : Nat) : Prop where
  le : fr ≤ i
  lt : fr < N
  fre : ∀ k, i - fr ≤ k → k < i → freeR (refR l k)
  none : ∀ g, g + N ≤ i → ∃ k, g ≤ k ∧ k < g + N ∧ ¬ freeR (refR l k)
  edge : fr < i → ¬ freeR (refR l (i - fr - 1))
theorem TK.start {l : List Pc} {N : Nat} (h : 1 ≤ N) : TK l N 0 0 := ⟨Nat.le_refl _, h, fun k h1 h2 => by omega, fun g hg => by omega, fun h => by omega⟩
theorem TK.stop {l : List Pc} {N i fr : Nat} (h : TK l N i fr) (hn : ¬ freeR (refR l i)) : TK l N (i + 1) 0 := by
  have := h.lt
  refine ⟨by omega, by omega, fun k h1 h2 => by omega, fun g hg => ?_, fun _ => by simpa using hn⟩
  by_cases c : g + N ≤ i
  · exact h.none g c
  · exact ⟨i, by omega, by omega, hn⟩
theorem TK.next {l : List Pc} {N i fr : Nat} (h : TK l N i fr) (hf : freeR (refR l i)) (hlt : fr + 1 < N) : TK l N (i + 1) (fr + 1) := by
  have h1 := h.le
  refine ⟨by omega, hlt, fun k k1 k2 => ?_, fun g hg => ?_, fun k1 => ?_⟩
  · by_cases c : k = i
    · rw [c]; exact hf
    · exact h.fre k (by omega) (by omega)
  · by_cases c : g + N ≤ i
    · exact h.none g c
    · exact ⟨i - fr - 1, by omega, by omega, h.edge (by omega)⟩
  · rw [show i + 1 - (fr + 1) - 1 = i - fr - 1 by omega]
    exact h.edge (by omega)
theorem TK.found {rows N i fr : Nat} {l : List Pc} (hok : SpOk rows l) (h : TK l N i fr) (hN : 1 ≤ N) (hf : freeR (refR l i)) (hi : i < rows) (he : fr + 1 = N) : gapL l N 0 rows = ((i + 1 - N : Nat) : Int) := by
  have h1 := h.le
  obtain ⟨s1, s2⟩ := gapL_spec hN hok.fits
  have hall : ∀ k, i + 1 - N ≤ k → k < i + 1 - N + N → freeR (refR l k) := fun k k1 k2 => by
    by_cases c : k = i
    · rw [c]; exact hf
    · exact h.fre k (by omega) (by omega)
  have hno : ¬ (gapL l N 0 rows < 0 ∨ (((i + 1 - N : Nat) : Int) < gapL l N 0 rows)) := fun hc => by
    obtain ⟨k, k1, k2, k3⟩ := s1 (i + 1 - N) (Nat.zero_le _) (by omega) hc
    exact k3 (hall k k1 k2)
  obtain ⟨g, hg⟩ : ∃ g : Nat, gapL l N 0 rows = (g : Int) := ⟨(gapL l N 0 rows).toNat, by omega⟩
  by_cases c : g + N ≤ i
  · obtain ⟨k, k1, k2, k3⟩ := h.none g c
    exact absurd (s2 g hg k k1 k2) k3
  · omega
theorem TK.out {rows N fr : Nat} {l : List Pc} (hok : SpOk rows l) (h : TK l N rows fr) (hN : 1 ≤ N) : gapL l N 0 rows < 0 := by
  obtain ⟨s1, s2⟩ := gapL_spec hN hok.fits
  rcases Int.lt_or_le (gapL l N 0 rows) 0 with c | c
  · exact c
  · obtain ⟨m, k, g, _, hg, f1, f2⟩ := gapL_ok hN hok.fits c
    have := f2.le
    obtain ⟨t, t1, t2, t3⟩ := h.none g (by omega)
    exact absurd (s2 g hg t t1 t2) t3
def inRow (g : Nat) : RR := ⟨(g : Int), false, 0, 0, 0, false⟩
theorem take_rows {rows n tag g : Nat} {l : List Pc} (hok : SpOk rows l) (hn : 1 ≤ n) (hg : gapL l n 0 rows = (g : Int)) (i : Nat) : upd (partR (refR l) g (g + n) (inRow g)) g ⟨(g : Int), false, n, 1, tag, false⟩ i = refR (putL l ⟨g, n, 1, tag, 0⟩) i := by
  rw [refR_take hok hn hg]
  unfold upd partR inP inRow
  simp only []
  by_cases c : i = g
  · rw [if_pos c, if_pos (by omega), if_neg (by omega), if_pos c]
    rfl
  · rw [if_neg c]
    by_cases d : g ≤ i ∧ i < g + n
    · rw [if_pos d, if_pos d, if_neg (by omega), if_neg c]
    · rw [if_neg d, if_neg d]
def RTake (w : World) (r rows : Nat) (v : Value) (l : List Pc) (n : Int) (tag : Nat) (e : Ending) (w' : World) : Prop :=
  Kept (fun k => ¬ own v k) w w' ∧ ((n < 1 ∧ e = .returned (.tuple #[.int .i64 0, .int .i64 5]) ∧ RfAt w' r v rows (refR l)) ∨
    (1 ≤ n ∧ gapL l n.toNat 0 rows < 0 ∧ e = .returned (.tuple #[.int .i64 0, .int .i64 8]) ∧ RfAt w' r v rows (refR l)) ∨
    ∃ g : Nat, 1 ≤ n ∧ gapL l n.toNat 0 rows = (g : Int) ∧ e = .returned (.tuple #[.int .i64 (g : Int), .int .i64 0]) ∧ RfAt w' r v rows (refR (putL l ⟨g, n.toNat, 1, tag, 0⟩)))
def RTakeN (w : World) (r rows : Nat) (v : Value) (l : List Pc) (N tag : Nat) (e : Ending) (w' : World) : Prop :=
  Kept (fun k => ¬ own v k) w w' ∧ ((gapL l N 0 rows < 0 ∧ e = .returned (.tuple #[.int .i64 0, .int .i64 8]) ∧ RfAt w' r v rows (refR l)) ∨
    ∃ g : Nat, gapL l N 0 rows = (g : Int) ∧ e = .returned (.tuple #[.int .i64 (g : Int), .int .i64 0]) ∧ RfAt w' r v rows (refR (putL l ⟨g, N, 1, tag, 0⟩)))
set_option maxRecDepth 100000 in
set_option maxHeartbeats 16000000 in
theorem rtake_any (r rows tag : Nat) (v : Value) (l : List Pc) (n : Int) (w : World) (hR : RfAt w r v rows (refR l)) (hok : SpOk rows l) (ha : -9223372036854775808 ≤ n ∧ n ≤ 9223372036854775807) :
    Calls Tryd.prog 24 #[.pointer (some ⟨r, 0, none⟩), .int .i64 n, .int .u64 (tag : Int)] w (RTake w r rows v l n tag) := by
  have HR := hid_mk hR
  have hr := hok.rows30
  have HOK := hid_mk hok
  clear hok
  by_cases h1 : n < 1
  · clear hR
    go_enter Tryd.func24, Tryd.ntmps24
    go_wp2_with fail
    go_ret2
    exact ⟨Kept.refl _ _, .inl ⟨h1, rfl, HR.out⟩⟩
  · obtain ⟨N, rfl⟩ : ∃ N : Nat, n = (N : Int) := ⟨n.toNat, by omega⟩
    have hN1 : 1 ≤ N := by omega
    have h1' : ¬ (N : Int) < 1 := h1
    have c0 := hR.cell
    obtain ⟨ao, cp, rfl⟩ := hR.rows.form
    have HN1 := hid_mk hN1
    clear hR h1 hN1
    suffices h : Calls Tryd.prog 24 #[.pointer (some ⟨r, 0, none⟩), .int .i64 (N : Int), .int .u64 (tag : Int)] w (RTakeN w r rows (.slice ao rows cp) l N tag) by
      refine h.mono fun e w' ⟨q1, q2⟩ => ⟨q1, .inr ?_⟩
      rw [Int.toNat_natCast]
      rcases q2 with ⟨q3, q4, q5⟩ | ⟨g, q3, q4, q5⟩
      · exact .inl ⟨by have := HN1.out; omega, q3, q4, q5⟩
      · exact .inr ⟨g, by have := HN1.out; omega, q3, q4, q5⟩
    go_enter Tryd.func24, Tryd.ntmps24
    go_wp2_with fail
    go_loopg [8, 9] rows (fun k fv i wr => ∃ j fr : Nat, fv = .int .i64 (fr : Int) ∧ i = .int .i64 (j : Int) ∧ j ≤ rows ∧ k = rows - j ∧ TK l N j fr ∧ wr = w)
    case atStart => exact ⟨0, 0, rfl, rfl, by omega, by omega, TK.start HN1.out, rfl⟩
    case round =>
      obtain ⟨j, fr, rfl, rfl, hj, hk, htk, hwr⟩ := hrel
      subst hwr
      have HGK := hid_mk hk
      have HTK := hid_mk htk
      have hfj := htk.le
      clear hk htk
      by_cases hlt : j < rows
      · obtain ⟨g, cp', cur, hv, hg, hcp, hrow⟩ := HR.out.rows.at (by omega)
        obtain ⟨rfl, rfl⟩ : ao = some ⟨g, 0, none⟩ ∧ cp = cp' := by simp at hv; exact hv
        obtain ⟨r0, r1, _, _, _, _⟩ := hrow j hlt
        have hji : (j : Int) < (rows : Int) := by omega
        have HG := hid_mk hg
        obtain ⟨x, hx⟩ : ∃ x, x = refR l j := ⟨_, rfl⟩
        rw [← hx] at r0 r1
        have HX := hid_mk hx
        obtain ⟨xr, xh, xn, xu, xt, xo⟩ := x
        simp only [] at r0 r1
        clear hx hrow hv hg
        by_cases hu : 0 ≤ xr
        · have HT2 : Hid (TK l N (j + 1) 0) := HTK.out.stop (by rw [← HX.out]; exact fun h => by have := h.1; simp only [] at this; omega)
          go_wp2_with fail
          go_roundg (rows - (j + 1))
          case measure => have := HGK.out; omega
          case rel => exact ⟨j + 1, 0, rfl, by go_num, by omega, rfl, HT2.out, rfl⟩
        · cases xh with
          | true =>
            have HT2 : Hid (TK l N (j + 1) 0) := HTK.out.stop (by rw [← HX.out]; exact fun h => by have := h.2; simp at this)
            go_wp2_with fail
            go_roundg (rows - (j + 1))
            case measure => have := HGK.out; omega
            case rel => exact ⟨j + 1, 0, rfl, by go_num, by omega, rfl, HT2.out, rfl⟩
          | false =>
            have HFR : Hid (freeR (refR l j)) := by show freeR _; rw [← HX.out]; exact ⟨by show xr < 0; omega, rfl⟩
            have x1 : IntKind.i64.wrap ((fr : Int) + 1) = (fr : Int) + 1 := by rw [IntKind.wrap_i64]; omega
            by_cases he : fr + 1 = N
            · have hei : (fr : Int) + 1 = (N : Int) := by omega
              have HGP := hid_mk (HTK.out.found HOK.out HN1.out HFR.out hlt he)
              obtain ⟨g0, hg0⟩ : ∃ g0, g0 = j + 1 - N := ⟨_, rfl⟩
              rw [← hg0] at HGP
              have hg1 : g0 + N = j + 1 := by omega
              have x2 : IntKind.i64.wrap ((j : Int) - (N : Int)) = (j : Int) - (N : Int) := by rw [IntKind.wrap_i64]; omega
              have x3 : IntKind.i64.wrap ((j : Int) - (N : Int) + 1) = (g0 : Int) := by rw [IntKind.wrap_i64]; omega
              have HJ := hid_mk hg1
              have HE := hid_mk he
              clear he hg0 hg1
              go_wp2_with fail
              clear r0 r1 x1 x2 x3 hei c0
              go_loopg [11] N (fun k t wr' => ∃ q : Nat, t = .int .i64 ((g0 + q : Nat) : Int) ∧ q ≤ N ∧ k = N - q ∧ Kept (fun k => ¬ own (.slice (some ⟨g, 0, none⟩) rows cp) k) wr wr' ∧ RfAt wr' r (.slice (some ⟨g, 0, none⟩) rows cp) rows (partR (refR l) g0 (g0 + q) (inRow g0)))
              case atStart =>
                refine ⟨0, by simp, by omega, by omega, Kept.refl _ _, HR.out.congr fun t _ => ?_⟩
                unfold partR
                rw [if_neg (by omega)]
              case round =>
                obtain ⟨q, rfl, hq, hk, hkp, hRw⟩ := hrel
                have HGK2 := hid_mk hk
                have HKP := hid_mk hkp
                have HRW := hid_mk hRw
                have c1 := hRw.cell
                obtain ⟨g3, cp3, cur3, hv3, hg3, _, hrow3⟩ := hRw.rows.at (by omega)
                obtain ⟨e1, e2⟩ : g = g3 ∧ cp = cp3 := by simp at hv3; exact hv3
                subst e1 e2
                have hfz := unfrozen hg3
                have hJ := HJ.out
                by_cases hqN : q < N
                · obtain ⟨t, ht⟩ : ∃ t : Nat, t = g0 + q := ⟨_, rfl⟩
                  have htr : t < rows := by omega
                  have hti : (t : Int) < (rows : Int) := by omega
                  have htj : (t : Int) ≤ (j : Int) := by omega
                  obtain ⟨q0, q1, q2, q3, q4, q5⟩ := hrow3 t htr
                  have HFN := hid_mk (hRw.row (inRow g0) (g := g) rfl htr)
                  have HT := hid_mk ht
                  rw [← ht]
                  clear hk hkp hRw hrow3 hv3 hg3 ht hJ
                  go_wp2_with fail
                  go_roundg (N - (q + 1))
                  case measure => have := HGK2.out; omega
                  case rel =>
                    refine ⟨q + 1, by have := HT.out; go_num, by omega, rfl, (((((HKP.out.setOwn rfl).setOwn rfl).setOwn rfl).setOwn rfl).setOwn rfl).setOwn rfl, HFN.out.congr fun s _ => ?_⟩
                    have := HT.out
                    unfold upd partR
                    by_cases c : s = t
                    · rw [if_pos c, if_pos (by omega)]
                    · rw [if_neg c]
                      by_cases c2 : g0 ≤ s ∧ s < g0 + q
                      · rw [if_pos c2, if_pos (by omega)]
                      · rw [if_neg c2, if_neg (by omega)]
                · obtain rfl : q = N := by omega
                  have htj : ¬ (g0 : Int) + (q : Int) ≤ (j : Int) := by omega
                  have hg0r : g0 < rows := by have := HN1.out; omega
                  have hg0i : (g0 : Int) < (rows : Int) := by omega
                  obtain ⟨q0, q1, q2, q3, q4, q5⟩ := hrow3 g0 hg0r
                  have HFN := hid_mk (hRw.row ⟨(g0 : Int), false, q, 1, tag, false⟩ (g := g) rfl hg0r)
                  clear hk hkp hRw hrow3 hv3 hg3 hJ
                  go_wp2_with fail
                  go_ret2
                  refine ⟨(((((HKP.out.setOwn rfl).setOwn rfl).setOwn rfl).setOwn rfl).setOwn rfl).setOwn rfl, .inr ⟨g0, HGP.out, rfl, HFN.out.congr fun s _ => take_rows HOK.out HN1.out HGP.out s⟩⟩
            · have hei : ¬ (fr : Int) + 1 = (N : Int) := by omega
              have HT2 : Hid (TK l N (j + 1) (fr + 1)) := HTK.out.next HFR.out (by have := HTK.out.lt; omega)
              go_wp2_with fail
              go_roundg (rows - (j + 1))
              case measure => have := HGK.out; omega
              case rel => exact ⟨j + 1, fr + 1, by go_num, by go_num, by omega, rfl, HT2.out, rfl⟩
      · obtain rfl : j = rows := by omega
        have HG := hid_mk (TK.out HOK.out HTK.out HN1.out)
        go_wp2_with fail
        go_ret2
        exact ⟨Kept.refl _ _, .inl ⟨HG.out, rfl, HR.out⟩⟩
end Go.Proofs.YtcpdnalmoaojlaaDoor
