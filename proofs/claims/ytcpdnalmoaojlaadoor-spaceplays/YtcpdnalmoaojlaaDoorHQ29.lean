import Derived.Test.YtcpdnalmoaojlaaDoorHQ28

/-
  SpacePlays, walked.
-/
namespace Go.Proofs.YtcpdnalmoaojlaaDoor
open Go.RowKit Go.Shelf
set_option linter.unusedVariables false
set_option linter.unusedSimpArgs false

/-- A step of a script, and where it lies. -/
structure SD where
  d : Int
  a : Int
  b : Int
  c : Int
  t : ByteArray
def SD.wf (x : SD) : Prop := I64' x.d ∧ I64' x.a ∧ I64' x.b ∧ I64' x.c
def SDAt (w : World) (b o : Nat) (x : SD) : Prop := w.cell? ⟨b, o, none⟩ = some (.int .i64 x.d) ∧ w.cell? ⟨b, o + 1, none⟩ = some (.int .i64 x.a) ∧ w.cell? ⟨b, o + 2, none⟩ = some (.int .i64 x.b) ∧ w.cell? ⟨b, o + 3, none⟩ = some (.int .i64 x.c) ∧ w.cell? ⟨b, o + 4, none⟩ = some (.string x.t)
def SSl (w : World) (ao : Option Addr) (ss : List SD) : Prop := ss = [] ∨ ∃ b off, ao = some ⟨b, off, none⟩ ∧ b < w.heap.size ∧ ∀ i (hi : i < ss.length), SDAt w b (off + i * 5) ss[i]
theorem SDAt.below {w w' : World} {b o B : Nat} {x : SD} (h : SDAt w b o x) (hb : Below B w w') (hB : b < B) : SDAt w' b o x := by
  obtain ⟨h0, h1, h2, h3, h4⟩ := h
  have key : ∀ i, w'.cell? ⟨b, i, none⟩ = w.cell? ⟨b, i, none⟩ := fun i => hb.cell (p := ⟨b, i, none⟩) hB
  exact ⟨(key _).trans h0, (key _).trans h1, (key _).trans h2, (key _).trans h3, (key _).trans h4⟩
set_option maxRecDepth 100000 in
set_option maxHeartbeats 4000000 in
theorem plays_bad (n : Int) (ao : Option Addr) (m cp : Nat) (w : World) (hg : ErrT w) (hn : I64' n) (h29 : n % 30 = 29) :
    Calls Tryd.prog 3 #[.int .i64 n, .slice ao m cp] w fun e w' => e = .returned (.bool true) ∧ Below w.heap.size w w' := by
  have HP : Hid (∀ W, Calls Tryd.prog 5 #[.int .i64 n, .int .i64 30] W fun e w' => e = .returned (.int .i64 29) ∧ w' = W) := fun W => by have h := pickL n 30 W hn (by omega) (by omega); rw [show n % ((30 : Nat) : Int) = 29 from h29] at h; exact h
  obtain ⟨n1, hn1⟩ : ∃ n1 : Int, n1 = n.tdiv 30 := ⟨_, rfl⟩
  have hn1b : I64' n1 := by
    have h1 : 30 * n.tdiv 30 + n.tmod 30 = n := Int.mul_tdiv_add_tmod n 30
    have h2 := Int.tmod_lt_of_pos n (b := 30) (by omega)
    have h3 := Int.lt_tmod_of_pos n (b := 30) (by omega)
    rw [← hn1] at h1
    unfold I64' at hn ⊢
    omega
  obtain ⟨q, hq⟩ : ∃ q : Int, q = n1 % 1099511627776 := ⟨_, rfl⟩
  have HP2 : Hid (∀ W, Calls Tryd.prog 5 #[.int .i64 n1, .int .i64 1099511627776] W fun e w' => e = .returned (.int .i64 q) ∧ w' = W) := fun W => by rw [hq]; exact pickL n1 1099511627776 W hn1b (by omega) (by omega)
  have hq0 : 0 ≤ q ∧ q < 1099511627776 := by omega
  have x1 : IntKind.i64.wrap (-1 - q) = -1 - q := by rw [IntKind.wrap_i64]; omega
  have x0 : IntKind.i64.wrap (n.tdiv 30) = n1 := by rw [← hn1, IntKind.wrap_i64]; unfold I64' at hn1b; omega
  have HNB : Hid (∀ k : Int, (k < 0 ∨ 1073741824 < k) → Calls Tryd.prog 6 #[.int .i64 k] w fun e w' => e = .returned (.tuple #[.agg #[.pointer none], .int .i64 5]) ∧ Below w.heap.size w w') := fun k hk => pnew_bad k w hg hk
  by_cases he : (-1 - q).tmod 2 = 0
  · obtain ⟨n2, hn2⟩ : ∃ n2 : Int, n2 = (-1 - q).tdiv 2 := ⟨_, rfl⟩
    have hb2 : n2 ≤ -1 ∧ -1099511627776 ≤ n2 := by
      have h1 : 2 * (-1 - q).tdiv 2 + (-1 - q).tmod 2 = -1 - q := Int.mul_tdiv_add_tmod (-1 - q) 2
      rw [← hn2, he] at h1
      omega
    have x2 : IntKind.i64.wrap ((-1 - q).tdiv 2) = n2 := by rw [← hn2, IntKind.wrap_i64]; omega
    have x3 : IntKind.i64.wrap (1073741824 - n2) = 1073741824 - n2 := by rw [IntKind.wrap_i64]; omega
    have HN := hid_mk (HNB.out (1073741824 - n2) (.inr (by omega)))
    have heb : (((-1 - q).tmod 2) == 0) = true := by simp [he]
    clear hn1 hq hn2 hq0 hb2 hn1b h29 HNB hg
    go_enter Tryd.func3, Tryd.ntmps3
    go_wp2_with (first | (go_at_call_of 5 (Value.int IntKind.i64 n); refine (HP.out _).mono ?_; clear HP; rintro e w3 ⟨rfl, hw3⟩; rw [hw3]; clear hw3) | (go_at_call 5; refine (HP2.out _).mono ?_; clear HP2; rintro e w3 ⟨rfl, hw3⟩; rw [hw3]; clear hw3) | (go_at_call 6; refine HN.out.mono ?_; clear HN; rintro e w4 ⟨rfl, hb4⟩; have HB4 := hid_mk hb4; clear hb4))
    go_ret
    exact ⟨rfl, HB4.out.alloc HB4.out.size _⟩
  · have HN := hid_mk (HNB.out (-1 - q) (.inl (by omega)))
    have heb : (((-1 - q).tmod 2) == 0) = false := by simp [he]
    clear hn1 hq hq0 hn1b h29 HNB hg
    go_enter Tryd.func3, Tryd.ntmps3
    go_wp2_with (first | (go_at_call_of 5 (Value.int IntKind.i64 n); refine (HP.out _).mono ?_; clear HP; rintro e w3 ⟨rfl, hw3⟩; rw [hw3]; clear hw3) | (go_at_call 5; refine (HP2.out _).mono ?_; clear HP2; rintro e w3 ⟨rfl, hw3⟩; rw [hw3]; clear hw3) | (go_at_call 6; refine HN.out.mono ?_; clear HN; rintro e w4 ⟨rfl, hb4⟩; have HB4 := hid_mk hb4; clear hb4))
    go_ret
    exact ⟨rfl, HB4.out.alloc HB4.out.size _⟩
set_option maxRecDepth 100000 in
set_option maxHeartbeats 16000000 in
theorem plays_walk (n : Int) (ss : List SD) (ao : Option Addr) (cp : Nat) (w : World) (hg : ErrT w) (hn : I64' n) (hwf : ∀ x ∈ ss, x.wf) (hlen : ss.length ≤ 140737488355328) (hS : SSl w ao ss) (h29 : ¬ n % 30 = 29) :
    Calls Tryd.prog 3 #[.int .i64 n, .slice ao ss.length cp] w fun e w' => e = .returned (.bool true) ∧ Below w.heap.size w w' := by
  obtain ⟨m, hm⟩ : ∃ m, m = ss.length := ⟨_, rfl⟩
  rw [← hm] at hlen
  rw [← hm]
  obtain ⟨q30, hq30⟩ : ∃ q30 : Int, q30 = n % 30 := ⟨_, rfl⟩
  have HP : Hid (∀ W, Calls Tryd.prog 5 #[.int .i64 n, .int .i64 30] W fun e w' => e = .returned (.int .i64 q30) ∧ w' = W) := fun W => by rw [hq30]; exact pickL n 30 W hn (by omega) (by omega)
  have hq29 : (q30 == 29) = false := by rw [hq30]; simp [h29]
  obtain ⟨rows, hrows⟩ : ∃ rows : Nat, (rows : Int) = n % 200 := ⟨(n % 200).toNat, by omega⟩
  have hr : rows < 200 := by omega
  have HP2 : Hid (∀ W, Calls Tryd.prog 5 #[.int .i64 n, .int .i64 200] W fun e w' => e = .returned (.int .i64 (rows : Int)) ∧ w' = W) := fun W => by rw [hrows]; exact pickL n 200 W hn (by omega) (by omega)
  have HNW := hid_mk (pnew_any rows w (by omega))
  unfold plv at HNW
  have HNR : Hid (∀ W, Calls Tryd.prog 7 #[.int .i64 (rows : Int)] W fun e w' => ∃ r v, e = .returned (.pointer (some ⟨r, 0, none⟩)) ∧ W.heap.size ≤ r ∧ (∀ k, own v k → W.heap.size ≤ k) ∧ RfAt w' r v rows (fun _ => free0) ∧ Below W.heap.size W w') := fun W => rnew_any rows W (by omega)
  have HSS := hid_mk hS
  have HWF := hid_mk hwf
  have HM := hid_mk hm
  have HG := hid_mk hg
  have HOK0 : Hid (SpOk rows []) := ⟨Nat.zero_le _, by omega, fun p hp => by simp at hp⟩
  clear hg hn hwf hS hm hrows hq30 h29
  go_enter Tryd.func3, Tryd.ntmps3
  go_upto_region 7 with (first | (go_at_call 5; refine (HP.out _).mono ?_; clear HP; rintro e w3 ⟨rfl, hw3⟩; rw [hw3]; clear hw3))
  go_upto_region 11 with (first | (go_at_call 5; refine (HP2.out _).mono ?_; clear HP2; rintro e w3 ⟨rfl, hw3⟩; rw [hw3]; clear hw3) | (go_at_call 6; refine HNW.out.mono ?_; clear HNW; rintro e w3 ⟨s, rfl, hs, hsp, hb⟩; have HS := hid_mk hs; have HSP := hid_mk hsp; have HB := hid_mk hb; clear hs hsp hb))
  obtain ⟨X3, hX3⟩ : ∃ X3, X3 = w3.alloc (.cells #[.pointer (some ⟨s, 0, none⟩)] 26) := ⟨_, rfl⟩
  obtain ⟨b7, hb7⟩ : ∃ b7, b7 = w3.heap.size := ⟨_, rfl⟩
  have bX3 : Below w3.heap.size w3 X3 := by rw [hX3]; exact Below.alloc (Below.refl _ _) (Nat.le_refl _) _
  have eX3 : X3.heap[b7]? = some (.cells #[.pointer (some ⟨s, 0, none⟩)] 26 (0, 0)) := by rw [hX3, hb7]; exact heap_alloc_new _ _
  have c7 : X3.cell? ⟨b7, 0, none⟩ = some (.pointer (some ⟨s, 0, none⟩)) := by simp [World.cell?, eX3]
  have HBX : Hid (Below w.heap.size w X3) := HB.out.trans (bX3.mono HB.out.size)
  have HSX := hid_mk (HSP.out.below bX3)
  have HE7 := hid_mk eX3
  rw [← hX3, ← hb7]
  clear hX3 hb7 bX3 eX3
  go_region_held3 (fun w' => w'.cell? ⟨b7, 0, none⟩ = some (.pointer (some ⟨s, 0, none⟩))) (first | exact c7 | exact d7 | exact e7 _) (first
    | (go_at_call 7; refine (HNR.out _).mono ?_; clear HNR; rintro e w4 ⟨r, v, rfl, l4, o4, r4, b4⟩; have HB4 : Hid (Below X3.heap.size X3 w4) := (Below.drew (Below.refl _ _)).trans b4; have HL4 := hid_mk l4; have HO4 := hid_mk o4; have HR4 := hid_mk r4; have d7 : w4.cell? ⟨b7, 0, none⟩ = some (.pointer (some ⟨s, 0, none⟩)) := (HB4.out.cell (p := ⟨b7, 0, none⟩) (Array.getElem?_eq_some_iff.1 HE7.out).1).trans c7; have e7 : ∀ A, (w4.alloc A).cell? ⟨b7, 0, none⟩ = some (.pointer (some ⟨s, 0, none⟩)) := (fun A => ((HB4.out.alloc HB4.out.size A).cell (p := ⟨b7, 0, none⟩) (Array.getElem?_eq_some_iff.1 HE7.out).1).trans c7); clear l4 o4 r4 b4))
  obtain ⟨X4, hX4⟩ : ∃ X4, X4 = w4.alloc (.cells #[.pointer (some ⟨s, 0, none⟩), .pointer (some ⟨r, 0, none⟩), .slice none 0 0] 35) := ⟨_, rfl⟩
  obtain ⟨P, hP⟩ : ∃ P, P = w4.heap.size := ⟨_, rfl⟩
  have HJ0 : Hid (PJ w P ⟨s, r, v, rows, []⟩ rows [] [] (.slice none 0 0) X4) := by
    have h4 : Below w4.heap.size w4 X4 := by rw [hX4]; exact Below.alloc (Below.refl _ _) (Nat.le_refl _) _
    have hw4 : Below w.heap.size w w4 := HBX.out.trans (HB4.out.mono HBX.out.size)
    have hwX := HBX.out.size
    have hsl : X3.drew.heap.size ≤ r := HL4.out
    have hsr : X3.heap.size ≤ r := hsl
    refine ⟨by rw [hX4, hP]; exact heap_alloc_new _ _, ⟨rfl, .inl ⟨rfl, rfl⟩⟩, (HSX.out.below HB4.out).below h4, (HR4.out.below h4), fun k hk => ?_, fun q hq => by simp at hq, List.pairwise_singleton _ _, (HG.out.below hw4 HG.out.size).below h4 (Nat.lt_of_lt_of_le HG.out.size hw4.size), hw4.trans (h4.mono hw4.size), HG.out.size, by rw [hP]; exact hw4.size⟩
    rcases hk with e | e | e
    · have e' : k = s := e
      have := HS.out
      omega
    · have e' : k = r := e
      omega
    · have h5 : X3.heap.size ≤ k := HO4.out k e
      omega
  try rw [← hX4]
  try rw [← hP]
  clear hX4 hP c7 d7 e7
  go_wp2_with fail
  go_loopg [10] m (fun k i wr => ∃ (j : Nat) (c : PR) (ks : List PR) (kv : Value), i = .int .i64 (j : Int) ∧ j ≤ m ∧ k = m - j ∧ PJ w P c c.rows c.l ks kv wr ∧ SpOk c.rows c.l ∧ ks.length ≤ 4)
  case atStart => exact ⟨0, ⟨s, r, v, rows, []⟩, [], .slice none 0 0, rfl, by omega, by omega, HJ0.out, HOK0.out, by simp⟩
  case round =>
    clear HJ0
    obtain ⟨j, c, ks, kv, rfl, hj, hk, hpj, hok, hks⟩ := hrel
    have HJ := hid_mk hpj
    have HOK := hid_mk hok
    have HKS := hid_mk hks
    have HGK := hid_mk hk
    clear hk hpj hok hks
    obtain ⟨bb, hbb⟩ : ∃ bb, bb = decide (j < m ∧ j < 65536) := ⟨_, rfl⟩
    have HBB := hid_mk hbb
    clear hbb
    go_upto_region 13 with fail
    go_cut [53] (fun x wx => x = .bool bb ∧ wx = wr)
    case first =>
      by_cases h1 : j < m
      · have h1i : (j : Int) < (m : Int) := by omega
        by_cases h2 : j < 65536
        · have h2i : (j : Int) < 65536 := by omega
          go_wp2_with fail
          go_meet
          exact ⟨by rw [HBB.out, decide_eq_true ⟨h1, h2⟩], rfl⟩
        · have h2i : ¬ (j : Int) < 65536 := by omega
          go_wp2_with fail
          go_meet
          exact ⟨by rw [HBB.out, decide_eq_false (fun h => h2 h.2)], rfl⟩
      · have h1i : ¬ (j : Int) < (m : Int) := by omega
        go_wp2_with fail
        go_meet
        exact ⟨by rw [HBB.out, decide_eq_false (fun h => h1 h.1)], rfl⟩
    case rest =>
      obtain ⟨rfl, hwc⟩ := hcut
      rw [hwc]
      clear hwc
      by_cases hin : j < m ∧ j < 65536
      · obtain rfl : bb = true := by rw [HBB.out]; exact decide_eq_true hin
        clear HBB
        obtain ⟨hjm, hj16⟩ := hin
        have hjl : j < ss.length := by rw [← HM.out]; exact hjm
        obtain ⟨b, off, rfl, hbl, hsd⟩ : ∃ b off, ao = some ⟨b, off, none⟩ ∧ b < w.heap.size ∧ ∀ i (hi : i < ss.length), SDAt w b (off + i * 5) ss[i] := by
          rcases HSS.out with h | h
          · rw [h] at hjl; simp at hjl
          · exact h
        have hxw := HWF.out ss[j] (List.getElem_mem _)
        obtain ⟨q0, q1, q2, q3, q4⟩ := (hsd j hjl).below HJ.out.below hbl
        obtain ⟨⟨xd, xa, xb, xc, xt⟩, hx⟩ : ∃ x, x = ss[j] := ⟨_, rfl⟩
        rw [← hx] at q0 q1 q2 q3 q4 hxw
        obtain ⟨hd1, ha1, hb1, hc1⟩ := hxw
        simp only [] at q0 q1 q2 q3 q4 hd1 ha1 hb1 hc1
        have HST := hid_mk (step_any HJ.out HOK.out HKS.out xd xa xb xc xt hd1 ha1 hb1 hc1)
        have hji : (j : Int) < (m : Int) := by omega
        clear hx hsd hjl hd1 ha1 hb1 hc1
        go_wp2_with (first
          | (go_at_call 8; refine HST.out.mono ?_; clear HST; rintro e w5 ⟨rfl, c5, ks5, kv5, j5, o5, _, k5⟩; have HJ5 := hid_mk j5; have HO5 := hid_mk o5; have HK5 := hid_mk k5; have HTL := hid_mk (tells_any j5 o5); clear j5 o5 k5)
          | (go_at_call 9; refine HTL.out.mono ?_; clear HTL; rintro e w6 ⟨rfl, b6⟩; have HJ6 := hid_mk (HJ5.out.keepN b6); clear b6))
        go_roundg (m - (j + 1))
        case measure => have := HGK.out; omega
        case rel => exact ⟨j + 1, c5, ks5, kv5, by go_num, by omega, rfl, HJ6.out, HO5.out, HK5.out⟩
      · obtain rfl : bb = false := by rw [HBB.out]; exact decide_eq_false hin
        go_wp2_with fail
        go_ret
        exact ⟨rfl, HJ.out.below⟩
end Go.Proofs.YtcpdnalmoaojlaaDoor
