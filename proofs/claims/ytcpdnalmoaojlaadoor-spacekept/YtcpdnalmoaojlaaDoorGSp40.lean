import Derived.Test.YtcpdnalmoaojlaaDoorGSp39
import Derived.Test.YtcpdnalmoaojlaaDoorGPk
import Derived.Deep.CutBlock
import Derived.Deep.DeepCutAuto
import Derived.Deep.LoopGhost
import Derived.Deep.RegionHeld3

/-
  SpaceKept, walked.
-/
namespace Go.Proofs.YtcpdnalmoaojlaaDoor
open Go.RowKit Go.Shelf
set_option linter.unusedVariables false
set_option linter.unusedSimpArgs false

set_option maxRecDepth 1000000 in
set_option maxHeartbeats 40000000 in
theorem kept_walk (n : Int) (ss : List SD) (ao : Option Addr) (cp : Nat) (w : World) (hg : ErrT w) (hn : I64 n) (hwf : ∀ x ∈ ss, x.wf) (hlen : ss.length ≤ 140737488355328) (hS : SSl w ao ss) :
    Calls Tryd.prog 4 #[.int .i64 n, .slice ao ss.length cp] w fun e w' => e = .returned (.bool true) ∧ Below w.heap.size w w' := by
  obtain ⟨m, hm⟩ : ∃ m, m = ss.length := ⟨_, rfl⟩
  rw [← hm] at hlen
  rw [← hm]
  obtain ⟨rows, hrows⟩ : ∃ rows : Nat, (rows : Int) = n % 300 := ⟨(n % 300).toNat, by omega⟩
  have hr : rows < 300 := by omega
  have HP : Hid (∀ W, Calls Tryd.prog 10 #[.int .i64 n, .int .i64 300] W fun e w' => e = .returned (.int .i64 (rows : Int)) ∧ w' = W) := fun W => by rw [hrows]; exact kpick_any n 300 (by omega) (by omega) hn.1 hn.2 W
  have HPK : Hid (∀ (x : Int) (k : Nat) W, I64 x → 0 < k → k ≤ 4611686018427387904 → Calls Tryd.prog 10 #[.int .i64 x, .int .i64 (k : Int)] W fun e w' => e = .returned (.int .i64 (x % (k : Int))) ∧ w' = W) := fun x k W hx h1 h2 => kpick_any x k h1 h2 hx.1 hx.2 W
  have HNW := hid_mk (pnew_any rows w (by omega))
  unfold plv at HNW
  have HSS := hid_mk hS
  have HWF := hid_mk hwf
  have HM := hid_mk hm
  have HI0 : Hid (∀ s w3, w.heap.size ≤ s → SpAt w3 s rows [] → Below w.heap.size w w3 → KI w s rows w3.heap.size [] (w3.alloc (.cells #[.pointer (some ⟨s, 0, none⟩)] 26))) := by
    intro s w3 hs hsp hb
    have hbe : Below w3.heap.size w3 (w3.alloc (.cells #[.pointer (some ⟨s, 0, none⟩)] 26)) := Below.alloc (Below.refl _ _) (Nat.le_refl _) _
    have hsz := hb.size
    have hlt := hsp.lt
    exact ⟨hsp.below hbe, ⟨Nat.zero_le _, by omega, fun p hp => by simp at hp⟩, heap_alloc_new _ _, (hg.below hb hg.size).below hbe (Nat.lt_of_lt_of_le hg.size hsz), hb.trans (hbe.mono hsz), hg.size, hs, hsz, by omega⟩
  clear hg hn hwf hS hm hrows
  go_enter Tryd.func4, Tryd.ntmps4
  go_upto_block 0 with (first | (go_at_call 10; refine (HP.out _).mono ?_; clear HP; rintro e w3 ⟨rfl, hw3⟩; rw [hw3]; clear hw3) | (go_at_call 6; refine HNW.out.mono ?_; clear HNW; rintro e w3 ⟨s, rfl, hs, hsp, hb⟩; have HI1 := hid_mk (HI0.out s w3 hs hsp hb); clear hs hsp hb))
  obtain ⟨B5, hB5⟩ : ∃ B5, B5 = w3.heap.size := ⟨_, rfl⟩
  obtain ⟨W3, hW3⟩ : ∃ W3, W3 = w3.alloc (.cells #[.pointer (some ⟨s, 0, none⟩)] 26) := ⟨_, rfl⟩
  rw [← hB5, ← hW3] at HI1
  rw [← hW3, ← hB5]
  clear hW3 hB5 HI0
  go_cut [7, 8, 9, 10, 11, 12, 13, 14, 15, 77, 112, 118, 123] (fun _ _ _ _ _ _ _ _ _ _ _ _ _ wx => ∃ s l, KI w s rows B5 l wx)
  case first =>
    go_wp2_with fail
    go_loopg [7] m (fun k i wr => ∃ (j s : Nat) (l : List Pc), i = .int .i64 (j : Int) ∧ j ≤ m ∧ k = m - j ∧ KI w s rows B5 l wr)
    case atStart => exact ⟨0, s, [], rfl, by omega, by omega, HI1.out⟩
    case round =>
      clear HI1
      obtain ⟨j, s, l, rfl, hj, hk, hki⟩ := hrel
      have HK := hid_mk hki
      have HGK := hid_mk hk
      clear hki hk
      obtain ⟨bb, hbb⟩ : ∃ bb, bb = decide (j < m ∧ j < 65536) := ⟨_, rfl⟩
      have HBB := hid_mk hbb
      clear hbb
      go_upto_region 6 with fail
      go_cut [36] (fun c wx => c = .bool bb ∧ wx = wr)
      case first =>
        by_cases h1 : j < m
        · have h1i : (j : Int) < (m : Int) := by omega
          by_cases h2 : j < 65536
          · have h2i : (j : Int) < 65536 := by omega
            go_wp2_with fail
            go_meet
            exact ⟨by rw [HBB.out, decide_eq_true ⟨h1, h2⟩], rfl⟩
          · have h2i : ¬ (j : Int) < 65536 := by omega
            go_wp2_with fail
            go_meet
            exact ⟨by rw [HBB.out, decide_eq_false (fun h => h2 h.2)], rfl⟩
        · have h1i : ¬ (j : Int) < (m : Int) := by omega
          go_wp2_with fail
          go_meet
          exact ⟨by rw [HBB.out, decide_eq_false (fun h => h1 h.1)], rfl⟩
      case rest =>
        obtain ⟨rfl, hwc⟩ := hcut
        subst hwc
        by_cases hin : j < m ∧ j < 65536
        · obtain rfl : bb = true := by rw [HBB.out]; exact decide_eq_true hin
          clear HBB
          obtain ⟨hjm, hj16⟩ := hin
          have hjl : j < ss.length := by rw [← HM.out]; exact hjm
          obtain ⟨b, off, rfl, hbl, hsd⟩ : ∃ b off, ao = some ⟨b, off, none⟩ ∧ b < w.heap.size ∧ ∀ i (hi : i < ss.length), SDAt w b (off + i * 5) ss[i] := by
            rcases HSS.out with h | h
            · rw [h] at hjl; simp at hjl
            · exact h
          have hxw := HWF.out ss[j] (List.getElem_mem _)
          obtain ⟨q0, q1, q2, q3, q4⟩ := (hsd j hjl).below HK.out.below hbl
          obtain ⟨⟨xd, xa, xb, xc, xt⟩, hx⟩ : ∃ x, x = ss[j] := ⟨_, rfl⟩
          rw [← hx] at q0 q1 q2 q3 q4 hxw
          obtain ⟨hd1, ha1, hb1, hc1⟩ := hxw
          simp only [] at q0 q1 q2 q3 q4 hd1 ha1 hb1 hc1
          have HDW := hid_mk hd1
          have HAW := hid_mk ha1
          have HBW := hid_mk hb1
          have HCW := hid_mk hc1
          have hji : (j : Int) < (m : Int) := by omega
          clear hx hsd hjl hd1 ha1 hb1 hc1
          go_upto_region 9 with fail
          obtain ⟨X1, hX1⟩ : ∃ X1, X1 = wc.alloc (.cells #[.int .i64 xd, .int .i64 xa, .int .i64 xb, .int .i64 xc, .string xt] 42) := ⟨_, rfl⟩
          obtain ⟨B8, hB8⟩ : ∃ B8, B8 = wc.heap.size := ⟨_, rfl⟩
          have bX1 : Below wc.heap.size wc X1 := by rw [hX1]; exact Below.alloc (Below.refl _ _) (Nat.le_refl _) _
          have eX1 : X1.heap[B8]? = some (.cells #[.int .i64 xd, .int .i64 xa, .int .i64 xb, .int .i64 xc, .string xt] 42 (0, 0)) := by rw [hX1, hB8]; exact heap_alloc_new _ _
          have hneb : B8 ≠ B5 := by have := HK.out.boxlt; omega
          have hnes : B8 ≠ s := by have := HK.out.sp.lt; omega
          have HK1 := hid_mk (HK.out.keep bX1)
          have HB1 : Hid (Below w.heap.size w X1) := HK1.out.below
          rw [← hX1, ← hB8]
          clear bX1 hX1 hB8 q0 q1 q2 q3 q4 HK
          have HC8 : Hid (∀ W, Only s X1 W → W.cell? ⟨B8, 0, none⟩ = some (.int .i64 xd) ∧ W.cell? ⟨B8, 1, none⟩ = some (.int .i64 xa) ∧ W.cell? ⟨B8, 2, none⟩ = some (.int .i64 xb) ∧ W.cell? ⟨B8, 3, none⟩ = some (.int .i64 xc)) := fun W hW => by
            have h := (hW.block _ (Array.getElem?_eq_some_iff.1 eX1).1 hnes).trans eX1
            simp [World.cell?, h]
          have c5 := HK1.out.cell
          have HRN := hid_mk (pruns_any s rows l X1 HK1.out.sp HK1.out.ok)
          unfold plv at HRN
          have x1 : IntKind.i64.wrap ((rows : Int) + 1) = (rows : Int) + 1 := by rw [IntKind.wrap_i64]; omega
          have HPA : Hid (∀ W, Calls Tryd.prog 10 #[.int .i64 xa, .int .i64 ((rows : Int) + 1)] W fun e w' => e = .returned (.int .i64 (xa % ((rows : Int) + 1))) ∧ w' = W) := fun W => HPK.out xa (rows + 1) W HAW.out (by omega) (by omega)
          have hfl := fils_le HK1.out.ok
          obtain ⟨M, hM⟩ : ∃ M, M = (fil l).length := ⟨_, rfl⟩
          have hM30 : M < 300 := by omega
          have HML := hid_mk hM
          clear hfl hM
          go_upto_if 55 with (first | (go_at_call 11; refine HRN.out.mono ?_; clear HRN; rintro e w4 ⟨v, rfl, h1, h2⟩; obtain ⟨ao4, cv, hv⟩ := h1.formL; rw [← HML.out] at hv; subst hv; have H1 := hid_mk h1; have HK4 := hid_mk (HK1.out.keep h2); obtain ⟨y0, y1, y2, y3⟩ := HC8.out w4 (Only.of_below h2); have HO4 : Hid (Only s X1 w4) := Only.of_below h2; clear h1 h2) | (go_at_call 10; refine (HPA.out _).mono ?_; clear HPA; rintro e w5 ⟨rfl, hw5⟩; rw [hw5]; clear hw5))
          go_cut [11] (fun v wx => ∃ at' : Int, v = .int .i64 at' ∧ wx = w4)
          case first =>
            by_cases hM0 : M = 0
            · subst hM0
              go_wp2_with fail
              go_meet
              exact ⟨_, rfl, rfl⟩
            · have hMi : (0 : Int) < (M : Int) := by omega
              have hne : fil l ≠ [] := fun h => by have := HML.out; rw [h] at this; simp at this; omega
              obtain ⟨g, cv', hgv, hgB, hgl, hgc, hcells⟩ := ROwns.at H1.out hne
              obtain ⟨rfl, rfl⟩ : ao4 = some ⟨g, 0, none⟩ ∧ cv = cv' := by simp at hgv; exact ⟨hgv.1, hgv.2.2⟩
              obtain ⟨p, hp⟩ : ∃ p : Nat, (p : Int) = xa % (M : Int) := ⟨(xa % (M : Int)).toNat, by have := Int.emod_nonneg xa (b := (M : Int)) (by omega); omega⟩
              have hpM : p < M := by have := Int.emod_lt_of_pos xa (b := (M : Int)) hMi; omega
              have hpi : (p : Int) < (M : Int) := by omega
              obtain ⟨r0, _, _, _⟩ := hcells p (by rw [← HML.out]; exact hpM)
              obtain ⟨A, hA⟩ : ∃ A : Int, A = (((fil l)[p]'(by rw [← HML.out]; exact hpM)).at' : Int) := ⟨_, rfl⟩
              rw [← hA] at r0
              have HPM : Hid (∀ W, Calls Tryd.prog 10 #[.int .i64 xa, .int .i64 (M : Int)] W fun e w' => e = .returned (.int .i64 (p : Int)) ∧ w' = W) := fun W => by rw [hp]; exact HPK.out xa M W HAW.out (by omega) (by omega)
              clear hcells hgv hA hp hne hgB hgc
              go_wp2_with (first | (go_at_call 10; refine (HPM.out _).mono ?_; clear HPM; rintro e w5 ⟨rfl, hw5⟩; rw [hw5]; clear hw5))
              go_meet
              exact ⟨_, rfl, rfl⟩
          case rest =>
            obtain ⟨at', rfl, hwc4⟩ := hcut
            rw [hwc4]; clear hwc4
            obtain ⟨d, hdt⟩ : ∃ d : Int, d = xd % 8 := ⟨_, rfl⟩
            have HPD : Hid (∀ W, Calls Tryd.prog 10 #[.int .i64 xd, .int .i64 8] W fun e w' => e = .returned (.int .i64 d) ∧ w' = W) := fun W => by rw [hdt]; exact HPK.out xd 8 W HDW.out (by omega) (by omega)
            have hd8 : 0 ≤ d ∧ d < 8 := by omega
            have HD8 := hid_mk hd8
            clear hdt hd8
            go_upto_block 2 with (first | (go_at_call 10; refine (HPD.out _).mono ?_; clear HPD; rintro e w5 ⟨rfl, hw5⟩; rw [hw5]; clear hw5))
            go_cut [12, 13, 14, 15, 77, 112, 118, 123] (fun _ _ _ _ _ _ _ _ wx => ∃ s l, KI w s rows B5 l wx)
            case first =>
              have hdt := HD8.out
              by_cases hT : d ≤ 2
              · have hd3 : d = 0 ∨ d = 1 ∨ d = 2 := by omega
                obtain ⟨q, hq⟩ : ∃ q : Nat, (q : Int) = xb % 9 := ⟨(xb % 9).toNat, by omega⟩
                have hq9 : q < 9 := by omega
                obtain ⟨tg, htg⟩ : ∃ tg : Nat, (tg : Int) = xc % 18446744073709551616 := ⟨(xc % 18446744073709551616).toNat, by omega⟩
                have htg2 : tg < 18446744073709551616 := by omega
                have HPB : Hid (∀ W, Calls Tryd.prog 10 #[.int .i64 xb, .int .i64 9] W fun e w' => e = .returned (.int .i64 (q : Int)) ∧ w' = W) := fun W => by rw [hq]; exact HPK.out xb 9 W HBW.out (by omega) (by omega)
                have m4 : IntKind.u64.wrap xc = (tg : Int) := by rw [htg]; simp only [IntKind.wrap, IntKind.bits, IntKind.signed]; simp
                have m5 : IntKind.i64.wrap (1 + (q : Int)) = 1 + (q : Int) := by rw [IntKind.wrap_i64]; omega
                have HTK : Hid (∀ W, Below w4.heap.size w4 W → Calls Tryd.prog 12 #[.agg #[.pointer (some ⟨s, 0, none⟩)], .int .i64 (1 + (q : Int)), .int .u64 (tg : Int)] W (PTake W s rows (q + 1) tg l)) := fun W hW => by
                  have hkw := HK4.out.keep hW
                  have h := ptake_any s rows (q + 1) tg l W hkw.err hkw.gis hkw.sp hkw.ok (by omega) (by omega) htg2
                  have e : (((q + 1 : Nat)) : Int) = 1 + (q : Int) := by omega
                  rw [e] at h
                  exact h
                have HTG := hid_mk htg2
                have c4 := HK4.out.cell
                have hr0 : ∀ g : Nat, ¬ (g : Int) < 0 := fun g => by omega
                clear hq htg htg2 y0 y1 hdt
                rcases hd3 with rfl | rfl | rfl
                all_goals
                  go_wp2_with fail
                  go_region_held3 (fun w' => w'.cell? ⟨B5, 0, none⟩ = some (.pointer (some ⟨s, 0, none⟩)) ∧ w'.cell? ⟨B8, 2, none⟩ = some (.int .i64 xb) ∧ w'.cell? ⟨B8, 3, none⟩ = some (.int .i64 xc)) (simp [*]) (first
                    | (go_at_call 10; refine (HPB.out _).mono ?_; clear HPB; rintro e w6 ⟨rfl, hw6⟩; rw [hw6]; clear hw6)
                    | (go_at_call 12; refine (HTK.out _ (Below.drew (Below.refl _ _))).mono ?_; clear HTK; rintro e w7 hpt; have hk0 := HK4.out.keep (Below.drew (Below.refl _ _)); have HO7 : Hid (Only s w4 w7) := (Only.of_below (Below.drew (Below.refl _ _))).trans hpt.1; obtain ⟨he, hl'⟩ := hk0.take (by omega) HTG.out hpt; have HL7 := hid_mk hl'; obtain ⟨_, _, z2, z3⟩ := HC8.out w7 (HO4.out.trans HO7.out); have z5 : w7.cell? ⟨B5, 0, none⟩ = some (.pointer (some ⟨s, 0, none⟩)) := (by obtain ⟨l', h⟩ := HL7.out; exact h.cell); obtain ⟨g, er, hge, hgr⟩ : ∃ g er : Int, e = .returned (.tuple #[.int .i64 g, .int .i64 er]) ∧ (g = 0 ∧ er = 8 ∨ er = 0 ∧ 0 ≤ g ∧ g < (rows : Int)) := (by rcases he with h | ⟨g, h, hg⟩; exact ⟨_, _, h, .inl ⟨rfl, rfl⟩⟩; exact ⟨_, _, h, .inr ⟨rfl, by omega, by omega⟩⟩); subst hge; have HGR := hid_mk hgr; clear hpt hk0 he hl' hgr))
                  rcases HGR.out with ⟨rfl, rfl⟩ | ⟨rfl, hg0, hg1⟩
                  · go_wp2_with fail
                    go_meet
                    obtain ⟨l', h⟩ := HL7.out
                    exact ⟨s, l', h⟩
                  · have hg0' : ¬ g < 0 := by omega
                    have hg1' : ¬ (rows : Int) ≤ g := by omega
                    go_wp2_with fail
                    go_meet
                    obtain ⟨l', h⟩ := HL7.out
                    exact ⟨s, l', h⟩
              by_cases hDr : d ≤ 4
              · have hd3 : d = 3 ∨ d = 4 := by omega
                have HD : Hid (Calls Tryd.prog 13 #[.agg #[.pointer (some ⟨s, 0, none⟩)], .int .i64 at'] w4 (PDrop w4 s rows l at')) := pdrop_any s rows l at' w4 HK4.out.err HK4.out.gis HK4.out.sp HK4.out.ok
                have c4 := HK4.out.cell
                clear y0 y1 y2 y3 hdt
                rcases hd3 with rfl | rfl
                all_goals
                  go_wp2_with (first | (go_at_call 13; refine HD.out.mono ?_; clear HD; rintro e w7 hpt; obtain ⟨⟨er, he⟩, hl'⟩ := HK4.out.drop hpt; subst he; have HL7 := hid_mk hl'; clear hpt hl'))
                  go_meet
                  obtain ⟨l', h⟩ := HL7.out
                  exact ⟨s, l', h⟩
              by_cases hSh : d = 5
              · have hd3 : d = 5 := hSh
                have HD : Hid (Calls Tryd.prog 14 #[.agg #[.pointer (some ⟨s, 0, none⟩)], .int .i64 at'] w4 (PShare w4 s rows l at')) := pshare_any s rows l at' w4 HK4.out.err HK4.out.gis HK4.out.sp HK4.out.ok
                have c4 := HK4.out.cell
                clear y0 y1 y2 y3 hdt
                subst hd3
                all_goals
                  go_wp2_with (first | (go_at_call 14; refine HD.out.mono ?_; clear HD; rintro e w7 hpt; obtain ⟨⟨er, he⟩, hl'⟩ := HK4.out.share hpt; subst he; have HL7 := hid_mk hl'; clear hpt hl'))
                  go_meet
                  obtain ⟨l', h⟩ := HL7.out
                  exact ⟨s, l', h⟩
              by_cases hTu : d = 6
              · have HD : Hid (Calls Tryd.prog 15 #[.agg #[.pointer (some ⟨s, 0, none⟩)]] w4 fun e w' => (∃ v, e = .returned v) ∧ Only s w4 w' ∧ SpAt w' s rows (turnL l)) := pturn_any s rows l w4 HK4.out.sp HK4.out.ok
                have c4 := HK4.out.cell
                clear y0 y1 y2 y3 hdt
                subst hTu
                go_wp2_with (first | (go_at_call 15; refine HD.out.mono ?_; clear HD; rintro e w7 ⟨⟨v7, rfl⟩, ho, hs7⟩; have HL7 := hid_mk (HK4.out.next ho hs7 (turn_ok HK4.out.ok)); clear ho hs7))
                go_meet
                exact ⟨s, _, HL7.out⟩
              · obtain rfl : d = 7 := by omega
                have HD : Hid (Calls Tryd.prog 17 #[.agg #[.pointer (some ⟨s, 0, none⟩)]] w4 fun e w' => ∃ v, e = .returned v ∧ Owns w' w4.heap.size v (spB rows (fil l)) ∧ Below w4.heap.size w4 w') := pbytes_any s rows l w4 HK4.out.sp HK4.out.ok
                have c4 := HK4.out.cell
                have hbl : (spB rows (fil l)).length = 4 + 18 * (fil l).length := spB_length _ _
                have hML := HML.out
                obtain ⟨bs, hbs⟩ : ∃ bs, bs = spB rows (fil l) := ⟨_, rfl⟩
                have HLB := hid_mk (load_back HK4.out.ok)
                rw [← hbs] at HD hbl HLB
                have hb4 : 4 ≤ bs.length ∧ bs.length ≤ 8192 := by omega
                have HBL := hid_mk hb4
                clear y0 y1 y2 y3 hdt hbl hbs hML hb4
                go_wp2_with (first | (go_at_call 17; refine HD.out.mono ?_; clear HD; rintro e w7 ⟨v, rfl, ho7, hb7⟩; obtain ⟨g, N, c7, cur, hv, hN, hg7, hcs, hNc⟩ := owns_parts ho7 (by have := HBL.out; omega); subst hv; have HK7 := hid_mk (HK4.out.keep hb7); have HB7 := hid_mk hb7; have HL : Hid (Calls Tryd.prog 16 #[.slice (some ⟨g, 0, none⟩) N c7] w7 fun e w' => Below w7.heap.size w7 w' ∧ ((loadR bs = none ∧ e = .returned (.tuple #[.agg #[.pointer none], .int .i64 7])) ∨ ∃ s rows l, loadR bs = some (rows, l) ∧ e = .returned (.tuple #[plv s, .int .i64 0]) ∧ w7.heap.size ≤ s ∧ SpAt w' s rows l)) := pload_any bs N g 0 c7 w7 HK7.out.err hN (by have := HBL.out; omega) (by rw [← hN]; exact hNc) (Array.getElem?_eq_some_iff.1 hcs).1 (by rw [hN] at ho7; exact Owns.at ho7); clear ho7 hb7 hN hg7 hcs hNc) | (go_at_call 16; refine HL.out.mono ?_; clear HL; rintro e w8 ⟨hb8, hor⟩; obtain ⟨s8, he8, hs8, hsp8⟩ : ∃ s8, e = .returned (.tuple #[.agg #[.pointer (some ⟨s8, 0, none⟩)], .int .i64 0]) ∧ w7.heap.size ≤ s8 ∧ SpAt w8 s8 rows (turnL l) := (by rcases hor with ⟨h1, _⟩ | ⟨s8, r8, l8, h1, h2, h3, h4⟩; exact absurd (h1.symm.trans HLB.out) (by simp); obtain ⟨rfl, rfl⟩ : r8 = rows ∧ l8 = turnL l := (by have := h1.symm.trans HLB.out; simpa using this); exact ⟨s8, h2, h3, h4⟩); subst he8; have HB8 := hid_mk hb8; have HS8 := hid_mk hs8; have HSP8 := hid_mk hsp8; have HKS : Hid (KI w s8 rows B5 (turnL l) ((w8.alloc (.cells #[.pointer (some ⟨s8, 0, none⟩)] 26)).setCell ⟨B5, 0, none⟩ (.pointer (some ⟨s8, 0, none⟩)))) := (HK7.out.swap (hb8.alloc hb8.size _) (hsp8.below (Below.alloc (Below.refl _ _) (Nat.le_refl _) _)) (turn_ok HK7.out.ok) hs8); have ff : ∀ A, (w8.alloc A).frozen? ⟨B5, 0, none⟩ = false := (fun A => unfrozen (((hb8.alloc hb8.size A).block _ HK7.out.boxlt).trans HK7.out.box) 0); have fc : ∀ A, (w8.alloc A).cell? ⟨B5, 0, none⟩ = some (.pointer (some ⟨s, 0, none⟩)) := (fun A => ((hb8.alloc hb8.size A).cell (p := ⟨B5, 0, none⟩) HK7.out.boxlt).trans HK7.out.cell); clear hb8 hor hs8 hsp8))
                go_meet
                exact ⟨s8, _, HKS.out⟩
            case rest =>
              obtain ⟨s6, l6, hk6⟩ := hcut
              have HK6 := hid_mk hk6
              have c6 := hk6.cell
              have HSD := hid_mk (sound_any s6 rows l6 _ hk6.sp hk6.ok)
              unfold plv at HSD
              clear hk6
              go_wp2_with (first | (go_at_call 18; refine HSD.out.mono ?_; clear HSD; rintro e w8 ⟨rfl, hb8⟩; have HK8 := hid_mk (HK6.out.keep hb8); clear hb8))
              go_roundg (m - (j + 1))
              case measure => have := HGK.out; omega
              case rel => exact ⟨j + 1, s6, l6, by go_num, by omega, rfl, HK8.out⟩
        · obtain rfl : bb = false := by rw [HBB.out]; exact decide_eq_false hin
          go_wp2_with fail
          go_meet
          exact ⟨s, l, HK.out⟩
  case rest =>
    obtain ⟨s9, l9, hk9⟩ := hcut
    clear HI1 HPK HSS HWF HM
    have HK9 := hid_mk hk9
    have c9 := hk9.cell
    have HRN := hid_mk (pruns_any s9 rows l9 _ hk9.sp hk9.ok)
    unfold plv at HRN
    have hfl := fils_le hk9.ok
    have hct : ∀ p ∈ fil l9, 1 ≤ p.count ∧ p.count ≤ 65535 := fun p hp => by
      obtain ⟨h1, h2⟩ := fil_mem hp
      have h := hk9.ok.ok p h1
      exact ⟨h.1 h2, h.2.1⟩
    have HCT := hid_mk hct
    obtain ⟨L, hL⟩ : ∃ L, L = fil l9 := ⟨_, rfl⟩
    obtain ⟨M, hM⟩ : ∃ M, M = L.length := ⟨_, rfl⟩
    have hM30 : M < 300 := by rw [hM, hL]; omega
    rw [← hL] at HRN HCT
    have HLE := hid_mk hL
    have HML := hid_mk hM
    have hs9 := hk9.sp.lt
    obtain ⟨X9, hX9⟩ : ∃ X9, X9 = wc := ⟨_, rfl⟩
    rw [← hX9] at HRN HK9 hs9 c9
    rw [← hX9]
    clear hfl hct hL hM hk9 hX9
    go_upto_block 3 with (first | (go_at_call 11; refine HRN.out.mono ?_; clear HRN; rintro e w2 ⟨v, rfl, h1, h2⟩; obtain ⟨ao2, cv, hv⟩ := h1.formL; rw [← HML.out] at hv; subst hv; have H1 := hid_mk h1; have HK2 := hid_mk (HK9.out.keep h2); clear h1 h2))
    go_wp2_with fail
    go_loopg [18] M (fun k i wr => ∃ (j : Nat) (l' : List Pc), i = .int .i64 (j : Int) ∧ j ≤ M ∧ k = M - j ∧ KI w s9 rows B5 l' wr ∧ fil l' = L.drop j ∧ Only s9 w2 wr)
    case atStart => exact ⟨0, l9, rfl, by omega, by omega, HK2.out, by rw [List.drop_zero]; exact HLE.out.symm, Only.refl _ _⟩
    case round =>
      obtain ⟨j, l', rfl, hj, hk, hki, hfi, hon⟩ := hrel
      have HGK := hid_mk hk
      have HKI := hid_mk hki
      have HFI := hid_mk hfi
      have HON := hid_mk hon
      clear hk hki hfi hon
      by_cases hlt : j < M
      · have hjl : j < L.length := by rw [← HML.out]; exact hlt
        have hne : L ≠ [] := fun h => by rw [h] at hjl; simp at hjl
        obtain ⟨g, cv', hgv, hgB, hgl, hgc, hcells⟩ := ROwns.at H1.out hne
        obtain ⟨rfl, rfl⟩ : ao2 = some ⟨g, 0, none⟩ ∧ cv = cv' := by simp at hgv; exact ⟨hgv.1, hgv.2.2⟩
        obtain ⟨r0, r1, r2, r3⟩ := hcells j hjl
        have hgs : g ≠ s9 := by omega
        have hcq := HCT.out L[j] (List.getElem_mem _)
        have hdr : L.drop j = L[j] :: L.drop (j + 1) := List.drop_eq_getElem_cons hjl
        obtain ⟨q, hq⟩ : ∃ q, q = L[j] := ⟨_, rfl⟩
        rw [← hq] at r0 r2 hcq hdr
        obtain ⟨A, hA⟩ : ∃ A : Int, A = (q.at' : Int) := ⟨_, rfl⟩
        obtain ⟨C, hC⟩ : ∃ C : Nat, C = q.count := ⟨_, rfl⟩
        rw [← hA] at r0
        rw [← hC] at r2 hcq
        have HA := hid_mk hA
        have HC := hid_mk hC
        have HDR := hid_mk hdr
        have HCL : Hid (∀ W, Only s9 w2 W → W.cell? ⟨g, j * 4, none⟩ = some (.int .i64 A) ∧ W.cell? ⟨g, j * 4 + 2, none⟩ = some (.int .i64 (C : Int))) := fun W hW => ⟨(hW.cell (p := ⟨g, j * 4, none⟩) hgl hgs).trans r0, (hW.cell (p := ⟨g, j * 4 + 2, none⟩) hgl hgs).trans r2⟩
        have hji : (j : Int) < (M : Int) := by omega
        obtain ⟨hC1, hC2⟩ := hcq
        clear r0 r1 r2 r3 hcells hgv hgB hgc hq hA hC hdr hjl hne
        go_wp2_with fail
        go_loopg [19] C (fun k i wr' => ∃ (t : Nat) (l' : List Pc), i = .int .i64 (t : Int) ∧ t ≤ C ∧ k = C - t ∧ KI w s9 rows B5 l' wr' ∧ fil l' = (if t < C then { q with count := C - t } :: L.drop (j + 1) else L.drop (j + 1)) ∧ Only s9 w2 wr')
        case atStart =>
          refine ⟨0, l', rfl, by omega, by omega, HKI.out, ?_, HON.out⟩
          rw [if_pos (by omega), HFI.out, HDR.out, HC.out]
          rfl
        case round =>
          obtain ⟨t, l'', rfl, ht, hk, hki, hfi, hon⟩ := hrel
          have HGK2 := hid_mk hk
          have HKI2 := hid_mk hki
          have HFI2 := hid_mk hfi
          have HON2 := hid_mk hon
          obtain ⟨r0, r2⟩ := HCL.out _ hon
          have c5 := hki.cell
          clear hk hki hfi hon
          by_cases htC : t < C
          · have hti : (t : Int) < (C : Int) := by omega
            have HPD : Hid (∀ W, Below wr.heap.size wr W → Calls Tryd.prog 13 #[.agg #[.pointer (some ⟨s9, 0, none⟩)], .int .i64 A] W (PDrop W s9 rows l'' A)) := fun W hW => by
              have hkw := HKI2.out.keep hW
              exact pdrop_any s9 rows l'' A W hkw.err hkw.gis hkw.sp hkw.ok
            have HNX : Hid (∀ W e W', Below wr.heap.size wr W → PDrop W s9 rows l'' A e W' → e = .returned (.int .i64 0) ∧ ∃ l3, KI w s9 rows B5 l3 W' ∧ fil l3 = (if t + 1 < C then { q with count := C - (t + 1) } :: L.drop (j + 1) else L.drop (j + 1)) ∧ Only s9 w2 W') := by
              intro W e W' hW hp
              have hkw := HKI2.out.keep hW
              have hf := HFI2.out
              rw [if_pos htC] at hf
              have hm : { q with count := C - t } ∈ fil l'' := by rw [hf]; exact List.mem_cons_self
              obtain ⟨hm1, hm2⟩ := fil_mem hm
              have hoW : Only s9 w2 W := HON2.out.trans (Only.of_below hW)
              obtain ⟨ho, (⟨h1, rfl, h2⟩ | ⟨p, hp1, hp2, hp3, rfl, h3⟩)⟩ := hp
              · exact absurd (h1 _ hm1 HA.out.symm) hm2
              · obtain rfl : p = { q with count := C - t } := used_at hkw.ok hm hp1 (by rw [hp2, HA.out])
                refine ⟨rfl, _, hkw.next ho h3 (drop_ok hkw.ok hp1 hp3), ?_, hoW.trans ho⟩
                rw [drop_fil hkw.ok hf]
                by_cases h4 : t + 1 < C
                · rw [if_pos h4, if_pos (show 1 < C - t by omega)]
                  congr 1
                · rw [if_neg h4, if_neg (show ¬ 1 < C - t by omega)]
            go_wp2_with fail
            go_region_held3 (fun w' => w'.cell? ⟨B5, 0, none⟩ = some (.pointer (some ⟨s9, 0, none⟩)) ∧ w'.cell? ⟨g, j * 4, none⟩ = some (.int .i64 A)) (simp [*]) (first
              | (go_at_call 13; refine (HPD.out _ (Below.drew (Below.refl _ _))).mono ?_; clear HPD; rintro e w7 hpt; obtain ⟨he, l3, hk3, hf3, ho3⟩ := HNX.out _ _ _ (Below.drew (Below.refl _ _)) hpt; subst he; obtain ⟨z0, z2⟩ := HCL.out _ ho3; have z5 := hk3.cell; have HK3 := hid_mk hk3; have HF3 := hid_mk hf3; have HO3 := hid_mk ho3; clear hpt hk3 hf3 ho3))
            go_wp2_with fail
            go_roundg (C - (t + 1))
            case measure => have := HGK2.out; omega
            case rel => exact ⟨t + 1, l3, by go_num, by omega, rfl, HK3.out, HF3.out, HO3.out⟩
          · obtain rfl : t = C := by omega
            go_wp2_with fail
            go_roundg (M - (j + 1))
            case measure => have := HGK.out; omega
            case rel => exact ⟨j + 1, l'', by go_num, by omega, rfl, HKI2.out, by rw [HFI2.out, if_neg (by omega)], HON2.out⟩
      · obtain rfl : j = M := by omega
        have hnil : fil l' = [] := by rw [HFI.out, HML.out, List.drop_length]
        have c8 := HKI.out.cell
        have HT : Hid (Calls Tryd.prog 15 #[.agg #[.pointer (some ⟨s9, 0, none⟩)]] wr fun e w' => (∃ v, e = .returned v) ∧ Only s9 wr w' ∧ SpAt w' s9 rows []) := by
          have h := pturn_any s9 rows l' wr HKI.out.sp HKI.out.ok
          rw [turn_nil hnil] at h
          exact h
        have hok0 : SpOk rows [] := ⟨Nat.zero_le _, by omega, fun p hp => by simp at hp⟩
        have HR : Hid (∀ W, SpAt W s9 rows [] → Calls Tryd.prog 19 #[.agg #[.pointer (some ⟨s9, 0, none⟩)]] W fun e w' => e = .returned (.agg #[.int .i64 0, .int .i64 0, .int .i64 (rows : Int)]) ∧ Below W.heap.size W w') := fun W hW => prows_any s9 rows [] W hW hok0
        have HOK0 := hid_mk hok0
        clear hok0 hnil
        go_wp2_with (first | (go_at_call 15; refine HT.out.mono ?_; clear HT; rintro e w7 ⟨⟨v7, rfl⟩, ho, hs7⟩; have HK7 := hid_mk (HKI.out.next ho hs7 HOK0.out); have c7 := HK7.out.cell; clear ho hs7) | (go_at_call 19; refine (HR.out _ HK7.out.sp).mono ?_; clear HR; rintro e w8 ⟨rfl, hb8⟩; have HK8 := hid_mk (HK7.out.keep hb8); clear hb8))
        go_ret
        exact ⟨rfl, HK8.out.below⟩
end Go.Proofs.YtcpdnalmoaojlaaDoor
