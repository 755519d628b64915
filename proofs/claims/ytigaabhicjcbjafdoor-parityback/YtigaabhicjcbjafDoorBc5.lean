/-
  ParityBack: the walk.
-/
import Derived.Test.YtigaabhicjcbjafDoorBc4
namespace Go.Proofs.YtigaabhicjcbjafDoor
open Go.ChangeShapes Go.WideShapes Go.ChangeAt Go.RowKit
set_option linter.unusedVariables false

set_option maxRecDepth 100000 in
set_option maxHeartbeats 2000000 in
theorem parityBack_walk (S : List ByteArray) (v : Value) (level one two : Int) (t : ByteArray) (w : World) (hl : S.length ≤ 140737488355328) (hs : ∀ t ∈ S, t.size ≤ 140737488355328) (ht : t.size ≤ 140737488355328) (l1 : -9223372036854775808 ≤ level) (l2 : level ≤ 9223372036854775807) (o1 : -9223372036854775808 ≤ one) (o2 : one ≤ 9223372036854775807) (t1 : -9223372036854775808 ≤ two) (t2 : two ≤ 9223372036854775807) (hv : Strs w v S) (hT : ErrT w) :
    Calls Tryd.prog 4 #[v, .int .i64 level, .int .i64 one, .int .i64 two, .string t] w fun e w' => e = .returned (.bool true) ∧ Below w.heap.size w w' := by
  obtain ⟨ao, cp, rfl⟩ := hv.shape
  have HV : Hid (Strs w (.slice ao S.length cp) S) := hv
  have HS := hid_mk hs
  have HT := hid_mk hT
  have hgz := hT.size
  have kc := run_bw
  obtain ⟨lv, hlv⟩ : ∃ lv : Nat, level % ((3 : Nat) : Int) = lv := Int.eq_ofNat_of_zero_le (Int.emod_nonneg _ (by omega))
  have hlv2 : lv ≤ 2 := by have := Int.emod_lt_of_pos level (b := ((3 : Nat) : Int)) (by omega); omega
  obtain ⟨li, hli⟩ : ∃ li : Int, li = (lv : Int) := ⟨_, rfl⟩
  have HPK : Hid (∀ W : World, Calls Tryd.prog 7 #[.int .i64 level, .int .i64 3] W fun e w' => e = .returned (.int .i64 li) ∧ w' = W) := fun W => by
    have h := pick_any level 3 (by omega) (by omega) l1 l2 W
    rw [hlv, ← hli] at h
    exact h
  have hli2 : li ≤ 2 := by omega
  have hli0 : 0 ≤ li := by omega
  have HLI := hid_mk hli
  have HL1 := hid_mk (And.intro l1 l2)
  have HO := hid_mk (And.intro o1 o2)
  have HTW := hid_mk (And.intro t1 t2)
  obtain ⟨sl, hsl⟩ : ∃ sl, sl = S.length := ⟨_, rfl⟩
  rw [← hsl] at HV hl ⊢
  have HSL := hid_mk hsl
  clear hv hs hT hlv hli l1 l2 o1 o2 t1 t2 hsl
  go_enter Tryd.func4, Tryd.ntmps4
  go_wp2
  go_loopw [11, 12] (fun x i wr => ∃ (xo : Option Addr) (xc k : Nat), x = .slice xo k xc ∧ i = .int .i64 (k : Int) ∧ k ≤ sl ∧ k ≤ 16 ∧ Lst Cold wr w.heap.size (.slice xo k xc) ((S.take k).map bl) ∧ Below w.heap.size w wr) (fun _ i _ => 16 - (intOf i).toNat)
  case atStart => exact ⟨none, 0, 0, rfl, rfl, by omega, by omega, Lst.nil _ _ _, Below.refl _ _⟩
  case round =>
    obtain ⟨xo, xc, k, rfl, rfl, hk, hk16, hA, hb⟩ := hrel
    obtain ⟨V, hV⟩ : ∃ V, V = wr := ⟨_, rfl⟩
    subst hV
    have HA := hid_mk hA
    have HB := hid_mk hb
    clear hA hb
    by_cases hin : k < sl ∧ k < 16
    · obtain ⟨hlt, h16⟩ := hin
      have hltS : k < S.length := by rw [← HSL.out]; exact hlt
      obtain ⟨b, off, rfl, hbb, hc0⟩ := HV.out.get k hltS
      obtain ⟨t0, ht0⟩ : ∃ t0, t0 = S[k] := ⟨_, rfl⟩
      rw [← ht0] at hc0
      have HT47 : Hid (t0.size ≤ 140737488355328) := by show _ ≤ _; rw [ht0]; exact HS.out _ (List.getElem_mem hltS)
      have HTK : Hid ((S.take (k + 1)).map bl = (S.take k).map bl ++ [bl t0]) := by show _ = _; rw [take_snoc S k hltS, List.map_append, ht0]; rfl
      have HKL : Hid (((S.take k).map bl).length = k) := by show _ = _; rw [List.length_map, List.length_take]; omega
      have hc1 : V.cell? ⟨b, off + k, none⟩ = some (.string t0) := (HB.out.cell (p := ⟨b, off + k, none⟩) hbb).trans hc0
      clear ht0 hc0 hltS
      have HB1 : Hid (Below V.heap.size V (bw V t0)) := below_bw (Below.refl _ _) (Nat.le_refl _) t0
      have HA1 : Hid (Lst Cold (bw V t0) w.heap.size (.slice xo k xc) ((S.take k).map bl)) := HA.out.below HB1.out
      have HE1 : Hid (∀ n c, n = t0.size → ElP Cold (bw V t0) w.heap.size (.slice (some ⟨V.heap.size, 0, none⟩) n c) (bl t0)) := fun n c hn => bw_el V t0 n hn w.heap.size HB.out.size c
      have HBB1 : Hid (Below w.heap.size w (bw V t0)) := HB.out.trans (HB1.out.mono HB.out.size)
      have HKL1 : Hid (((S.take k).map bl ++ [bl t0]).length = k + 1) := by show _ = _; rw [List.length_append, HKL.out]; rfl
      go_wp2_with (at_builtin; refine wpList_add2 Cold 28 Tryd.underlying28 rfl _ _ rfl w.heap.size _ ((S.take k).map bl) rfl (bw V t0) _ _ _ (bl t0) rfl HA1.out (HE1.out _ _ rfl) _ rfl rfl (by rw [HKL.out]; omega) HBB1.out.size ?_; intro v' w4 h1 h2 h3; obtain ⟨zo, zc, hz⟩ := h1.shape; rw [HKL1.out] at hz; subst hz; have H4 := hid_mk h1; have HB4 := hid_mk (HBB1.out.trans h2); clear h1 h2 h3)
      go_roundw
      case rel => exact ⟨zo, zc, k + 1, rfl, by go_num, by omega, by omega, by rw [HTK.out]; exact H4.out, HB4.out⟩
      case measure => simp [intOf]; omega
    · obtain ⟨M, hM⟩ : ∃ M, M = (S.take k).map bl := ⟨_, rfl⟩
      have HML : Hid (M.length = k) := by show _ = _; rw [hM, List.length_map, List.length_take]; have := HSL.out; omega
      have HM47 : Hid (∀ b ∈ M, b.length ≤ 140737488355328) := fun b hb => by
        rw [hM] at hb
        obtain ⟨s, hs1, rfl⟩ := List.mem_map.1 hb
        rw [bl_length]
        exact HS.out s (List.mem_of_mem_take hs1)
      rw [← hM] at HA
      clear hM
      have HTV : Hid (ErrT V) := HT.out.below HB.out hgz
      have HPM : Hid (Calls Tryd.prog 9 #[.slice xo k xc, .int .i64 li] V (PMPost (makeErr M (lv : Int)) (makeL M (lv : Int)) V)) := by
        rw [HLI.out]
        exact parityMake_any M _ (lv : Int) V HTV.out (by rw [HML.out]; omega) HM47.out HA.out.pcs
      have HOD : Hid (∀ W, Below V.heap.size V W → Calls Tryd.prog 10 #[.slice xo k xc] W fun e w' => (∃ r : Bool, e = .returned (.bool r) ∧ (r = true ↔ ¬ ∃ sz, GoodP M sz)) ∧ ∃ m, w' = W.drewN m) := fun W hW => odd_any M V.heap.size _ W (by rw [HML.out]; omega) HM47.out (HA.out.pcs.below hW (Nat.le_refl _))
      have HIF := hid_mk (makeErr_iff M lv hlv2 (by rw [HML.out]; exact hk16))
      have tail : k < sl ∧ ¬ k < 16 ∨ ¬ k < sl := by omega
      clear hin kc
      rcases tail with ⟨h1, h2⟩ | h1
      all_goals
        go_wp2_with fail
        refine (HPK.out _).mono ?_
        rintro e w1 ⟨rfl, rfl⟩
        go_wp2_with fail
        refine HPM.out.mono ?_
        rintro e w2 ⟨vm, rfl, hm, hb2⟩
        by_cases h0 : makeErr M (lv : Int) = 0
        · rw [if_pos h0] at hm
          obtain ⟨sz, hg⟩ := HIF.out.1 h0
          obtain ⟨R, hR⟩ : ∃ R, R = makeL M (lv : Int) := ⟨_, rfl⟩
          have HRL : Hid (R.length = lv) := by show _ = _; rw [hR]; exact makeL_len M lv hlv2
          rw [← hR] at hm
          obtain ⟨mo, mc, hms⟩ := hm.pcs (Nat.le_refl _) |>.shape
          obtain ⟨ml, hml⟩ : ∃ ml, ml = lv := ⟨_, rfl⟩
          rw [HRL.out, ← hml] at hms
          subst hms
          have bml : ((ml : Int) != li) = false := by rw [bne_eq_false_iff_eq, HLI.out, hml]
          have HMLV := hid_mk hml
          have hml2 : ml ≤ 2 := by omega
          have HG := hid_mk hg
          have HR := hid_mk hR
          have HM2 := hid_mk hm
          have HB2 := hid_mk hb2
          have hk1 : 1 ≤ k := by have := hg.2.2.1; rw [HML.out] at this; exact this
          rw [h0]
          clear hg hR hm hb2 h0 hml
          go_wp2_with fail
          refine (HOD.out _ HB2.out).mono ?_
          rintro e w3 ⟨⟨r, rfl, hr⟩, m, hw3⟩
          obtain rfl : r = false := by
            cases r with
            | false => rfl
            | true => exact absurd ⟨sz, HG.out⟩ (hr.1 rfl)
          have HB3 : Hid (Below w2.heap.size w2 w3) := by rw [hw3]; exact drewN_below _ _ _
          have HB3w : Hid (Below w.heap.size w w3) := (HB.out.trans (HB2.out.mono HB.out.size)).trans (HB3.out.mono (Nat.le_trans HB.out.size HB2.out.size))
          have HB3V : Hid (Below w1.heap.size w1 w3) := HB2.out.trans (HB3.out.mono HB2.out.size)
          have HA3 : Hid (Pcs w3.heap.size w3 (.slice xo k xc) M) := (HA.out.pcs.below HB3V.out (Nat.le_refl _)).mono HB3V.out.size
          have HR3 : Hid (Pcs w3.heap.size w3 (.slice mo ml mc) R) := ((HM2.out.pcs (Nat.le_refl _)).below HB3.out (Nat.le_refl _)).mono HB3.out.size
          have HAL3 : Hid (Below w3.heap.size w3 (w3.alloc (.cells #[] 23))) := Below.alloc (Below.refl _ _) (Nat.le_refl _) _
          have HA3' : Hid (Pcs w3.heap.size (w3.alloc (.cells #[] 23)) (.slice xo k xc) M) := HA3.out.below HAL3.out (Nat.le_refl _)
          clear hr hw3
          rcases (show lv = 0 ∨ lv = 1 ∨ lv = 2 by omega) with hlvc | hlvc | hlvc
          · have q0 : ¬ (0 : Int) < li := by have := HLI.out; omega
            have q1 : ¬ (1 : Int) < li := by have := HLI.out; omega
            have q2 : li < 2 := by have := HLI.out; omega
            have HLVC := hid_mk hlvc
            clear hlvc
            go_wp2_with (first
              | (at_builtin; refine wpList_cat rfl _ _ rfl w3.heap.size _ [] rfl (Cpy.made w3 _ rfl) _ M rfl HA3'.out (by rw [List.length_nil, HML.out]; omega) HAL3.out.size ?_; intro v4 w4 g1 g2; rw [List.nil_append] at g1; have HC4 := hid_mk g1; have HB4 := hid_mk (HAL3.out.trans g2); clear g1 g2)
              | (at_builtin; refine wpList_cat rfl _ _ rfl w3.heap.size _ M rfl HC4.out _ R rfl (HR3.out.below HB4.out (Nat.le_refl _)) (by rw [HML.out, HRL.out]; have := HMLV.out; omega) HB4.out.size ?_; intro v5 w5 g1 g2; have HC5 := hid_mk g1; have HB5 := hid_mk (HB4.out.trans g2); clear g1 g2 HC4; obtain ⟨N, hN⟩ : ∃ N, N = k + ml := ⟨_, rfl⟩; obtain ⟨L, hL⟩ : ∃ L, L = M ++ R := ⟨_, rfl⟩; have HLN : Hid (L.length = N) := (by show _ = _; rw [hL, List.length_append, HML.out, HRL.out, hN, HMLV.out]); rw [← hL] at HC5; have HL := hid_mk hL; have HN := hid_mk hN; have hN18 : N ≤ 18 := (by omega); have hN1 : 1 ≤ N := (by omega); obtain ⟨ao5, ac5, h5⟩ := HC5.out.shape; rw [HLN.out] at h5; subst h5; have HP5 : Hid (Pcs w5.heap.size w5 (.slice ao5 N ac5) L) := HC5.out.pcs HB5.out.size (by rw [HLN.out]; omega); have HAL5 : Hid (Below w5.heap.size w5 (w5.alloc (.cells #[] 23))) := Below.alloc (Below.refl _ _) (Nat.le_refl _) _; have HP5' : Hid (Pcs w5.heap.size (w5.alloc (.cells #[] 23)) (.slice ao5 N ac5) L) := HP5.out.below HAL5.out (Nat.le_refl _); clear hL hN)
              | (at_builtin; refine wpList_cat rfl _ _ rfl w5.heap.size _ [] rfl (Cpy.made w5 _ rfl) _ L rfl HP5'.out (by rw [List.length_nil, HLN.out]; omega) HAL5.out.size ?_; intro v6 w6 g1 g2; rw [List.nil_append] at g1; have HC6 := hid_mk g1; have HB6 := hid_mk (HAL5.out.trans g2); clear g1 g2; obtain ⟨ao6, ac6, h6⟩ := HC6.out.shape; rw [HLN.out] at h6; subst h6))
            have HB5w : Hid (Below w.heap.size w w5) := HB3w.out.trans (HB5.out.mono HB3w.out.size)
            have HB6w : Hid (Below w.heap.size w w6) := HB5w.out.trans (HB6.out.mono HB5w.out.size)
            obtain ⟨p1, hp1⟩ : ∃ p : Nat, one % ((N : Nat) : Int) = p := Int.eq_ofNat_of_zero_le (Int.emod_nonneg _ (by omega))
            obtain ⟨p2, hp2⟩ : ∃ p : Nat, two % ((N : Nat) : Int) = p := Int.eq_ofNat_of_zero_le (Int.emod_nonneg _ (by omega))
            have hp1N : p1 < N := by have := Int.emod_lt_of_pos one (b := ((N : Nat) : Int)) (by omega); omega
            have hp2N : p2 < N := by have := Int.emod_lt_of_pos two (b := ((N : Nat) : Int)) (by omega); omega
            have HP1 : Hid (∀ W : World, Calls Tryd.prog 7 #[.int .i64 one, .int .i64 (N : Int)] W fun e w' => e = .returned (.int .i64 (p1 : Int)) ∧ w' = W) := fun W => by
              have h := pick_any one N (by omega) (by omega) HO.out.1 HO.out.2 W
              rw [hp1] at h
              exact h
            have HP2 : Hid (∀ W : World, Calls Tryd.prog 7 #[.int .i64 two, .int .i64 (N : Int)] W fun e w' => e = .returned (.int .i64 (p2 : Int)) ∧ w' = W) := fun W => by
              have h := pick_any two N (by omega) (by omega) HTW.out.1 HTW.out.2 W
              rw [hp2] at h
              exact h
            have HLF : Hid (Lefts M L k lv sz) := by have h := made_lefts HG.out hlv2; rw [← HR.out, ← HL.out, HML.out] at h; exact h
            have HL0 : Hid (lostN L = 0) := by have h := made_lost HG.out hlv2; rw [← HR.out, ← HL.out] at h; exact h
            clear hp1 hp2
            have fin : ∀ (w7 : World) (L' : List (List UInt8)), Cpy w5.heap.size w7 (.slice ao6 N ac6) L' → L'.length = N → Below w5.heap.size w5 w7 → Lefts M L' k lv sz → lostN L' ≤ lv → Calls Tryd.prog 11 #[.slice ao6 N ac6, .int .i64 li] w7 fun e w8 => ∃ go gc, e = .returned (.tuple #[.slice go k gc, .int .i64 0]) ∧ Pcs w8.heap.size w8 (.slice go k gc) M ∧ Below w7.heap.size w7 w8 := by
              intro w7 L' q1 q2 q3 q4 q5
              have hleft := q4.left HG.out HML.out hk16 hlv2 q5
              have hbw : Below w.heap.size w w7 := HB5w.out.trans (q3.mono HB5w.out.size)
              have hall : ∀ b ∈ L', b.length ≤ 140737488355328 := fun b hb => by
                have := hleft.all b hb
                have := HG.out.2.1
                omega
              rw [HLI.out]
              refine (parityMend_any L' _ (lv : Int) w7 (HT.out.below hbw hgz) (by rw [q2]; omega) hall (q1.pcs q3.size (by rw [q2]; omega))).mono ?_
              rintro e w8 ⟨O, hO, u, rfl, hu, hb8⟩
              have he := hleft.err
              have hO' := hleft.back (hO he)
              subst hO'
              rw [he, if_pos rfl] at hu
              obtain ⟨go, gc, e8⟩ := (hu.pcs (Nat.le_refl _)).shape
              rw [HML.out] at e8
              subst e8
              exact ⟨go, gc, by rw [he], hu.pcs (Nat.le_refl _), hb8⟩
            have HFIN := hid_mk fin
            clear fin
            refine (HFIN.out w6 L HC6.out HLN.out HB6.out HLF.out (by rw [HL0.out]; exact Nat.zero_le _)).mono ?_
            rintro e w8 ⟨go, gc, rfl, hgot, hb8⟩
            have HGOT := hid_mk hgot
            have HB58 : Hid (Below w5.heap.size w5 w8) := HB6.out.trans (hb8.mono (HB6.out).size)
            have HB8w : Hid (Below w.heap.size w w8) := HB5w.out.trans (HB58.out.mono HB5w.out.size)
            have HIN8 : Hid (Pcs w8.heap.size w8 (.slice xo k xc) M) := (HA3.out.below (HB5.out.trans (HB58.out.mono HB5.out.size)) (Nat.le_refl _)).mono (Nat.le_trans HB5.out.size HB58.out.size)
            have HALL8 : Hid (Pcs w8.heap.size w8 (.slice ao5 N ac5) L) := (HP5.out.below HB58.out (Nat.le_refl _)).mono HB58.out.size
            clear hgot hb8
            go_wp2
            go_loopw [19] (fun i wr => ∃ j : Nat, i = .int .i64 (j : Int) ∧ j ≤ k ∧ ∃ q, wr = w8.drewN q) (fun i _ => k - (intOf i).toNat)
            case atStart => exact ⟨0, rfl, by omega, 0, rfl⟩
            case round =>
              obtain ⟨j, rfl, hj, q, hq⟩ := hrel
              have HQ := hid_mk hq
              have HUq : Hid (Pcs w8.heap.size wr (.slice go k gc) M) := by show Pcs _ _ _ _; rw [hq]; exact HGOT.out.below (drewN_below w8.heap.size w8 q) (Nat.le_refl _)
              have HVq : Hid (Pcs w8.heap.size wr (.slice xo k xc) M) := by show Pcs _ _ _ _; rw [hq]; exact HIN8.out.below (drewN_below w8.heap.size w8 q) (Nat.le_refl _)
              clear hq
              by_cases hlt : j < k
              · have hjM : j < M.length := by rw [HML.out]; exact hlt
                obtain ⟨b1, of1, ul1, uc1, e1, hb1, hc1, hr1⟩ := HUq.out.get j hjM
                obtain ⟨b2, of2, ul2, uc2, e2, hb2, hc2, hr2⟩ := HVq.out.get j hjM
                subst e1 e2
                have k1 : ∀ n, (convert 23 9 (.slice ul1 M[j].length uc1)).run Tryd.prog (wr.drewN n) = .ok (.string (str M[j])) (wr.drewN n) := fun n => conv_rd (hr1.below (drewN_below _ wr n) (Nat.le_refl _))
                have k2 : ∀ n, (convert 23 9 (.slice ul2 M[j].length uc2)).run Tryd.prog (wr.drewN n) = .ok (.string (str M[j])) (wr.drewN n) := fun n => conv_rd (hr2.below (drewN_below _ wr n) (Nat.le_refl _))
                obtain ⟨mm, hmm⟩ : ∃ mm, mm = M[j].length := ⟨_, rfl⟩
                obtain ⟨tt, htt⟩ : ∃ tt, tt = str M[j] := ⟨_, rfl⟩
                rw [← hmm] at hc1 hc2
                rw [← hmm, ← htt] at k1 k2
                clear hr1 hr2 hmm htt hjM
                go_wp2
                go_quiet (fail)
                go_wp2
                go_roundw
                case rel => exact ⟨j + 1, by go_num, by omega, q + nq, by rw [HQ.out, World.drewN_drewN]⟩
                case measure => simp [intOf]; omega
              · obtain rfl : j = k := by omega
                have HB9 : Hid (Below w.heap.size w wr) := by show Below _ _ _; rw [HQ.out]; exact HB8w.out.trans (drewN_below _ _ _)
                go_wp2
                go_ret
                exact ⟨rfl, HB9.out⟩
          · have q0 : (0 : Int) < li := by have := HLI.out; omega
            have q1 : ¬ (1 : Int) < li := by have := HLI.out; omega
            have q2 : li < 2 := by have := HLI.out; omega
            have HLVC := hid_mk hlvc
            clear hlvc
            go_wp2_with (first
              | (at_builtin; refine wpList_cat rfl _ _ rfl w3.heap.size _ [] rfl (Cpy.made w3 _ rfl) _ M rfl HA3'.out (by rw [List.length_nil, HML.out]; omega) HAL3.out.size ?_; intro v4 w4 g1 g2; rw [List.nil_append] at g1; have HC4 := hid_mk g1; have HB4 := hid_mk (HAL3.out.trans g2); clear g1 g2)
              | (at_builtin; refine wpList_cat rfl _ _ rfl w3.heap.size _ M rfl HC4.out _ R rfl (HR3.out.below HB4.out (Nat.le_refl _)) (by rw [HML.out, HRL.out]; have := HMLV.out; omega) HB4.out.size ?_; intro v5 w5 g1 g2; have HC5 := hid_mk g1; have HB5 := hid_mk (HB4.out.trans g2); clear g1 g2 HC4; obtain ⟨N, hN⟩ : ∃ N, N = k + ml := ⟨_, rfl⟩; obtain ⟨L, hL⟩ : ∃ L, L = M ++ R := ⟨_, rfl⟩; have HLN : Hid (L.length = N) := (by show _ = _; rw [hL, List.length_append, HML.out, HRL.out, hN, HMLV.out]); rw [← hL] at HC5; have HL := hid_mk hL; have HN := hid_mk hN; have hN18 : N ≤ 18 := (by omega); have hN1 : 1 ≤ N := (by omega); obtain ⟨ao5, ac5, h5⟩ := HC5.out.shape; rw [HLN.out] at h5; subst h5; have HP5 : Hid (Pcs w5.heap.size w5 (.slice ao5 N ac5) L) := HC5.out.pcs HB5.out.size (by rw [HLN.out]; omega); have HAL5 : Hid (Below w5.heap.size w5 (w5.alloc (.cells #[] 23))) := Below.alloc (Below.refl _ _) (Nat.le_refl _) _; have HP5' : Hid (Pcs w5.heap.size (w5.alloc (.cells #[] 23)) (.slice ao5 N ac5) L) := HP5.out.below HAL5.out (Nat.le_refl _); clear hL hN)
              | (at_builtin; refine wpList_cat rfl _ _ rfl w5.heap.size _ [] rfl (Cpy.made w5 _ rfl) _ L rfl HP5'.out (by rw [List.length_nil, HLN.out]; omega) HAL5.out.size ?_; intro v6 w6 g1 g2; rw [List.nil_append] at g1; have HC6 := hid_mk g1; have HB6 := hid_mk (HAL5.out.trans g2); clear g1 g2; obtain ⟨ao6, ac6, h6⟩ := HC6.out.shape; rw [HLN.out] at h6; subst h6))
            have HB5w : Hid (Below w.heap.size w w5) := HB3w.out.trans (HB5.out.mono HB3w.out.size)
            have HB6w : Hid (Below w.heap.size w w6) := HB5w.out.trans (HB6.out.mono HB5w.out.size)
            obtain ⟨p1, hp1⟩ : ∃ p : Nat, one % ((N : Nat) : Int) = p := Int.eq_ofNat_of_zero_le (Int.emod_nonneg _ (by omega))
            obtain ⟨p2, hp2⟩ : ∃ p : Nat, two % ((N : Nat) : Int) = p := Int.eq_ofNat_of_zero_le (Int.emod_nonneg _ (by omega))
            have hp1N : p1 < N := by have := Int.emod_lt_of_pos one (b := ((N : Nat) : Int)) (by omega); omega
            have hp2N : p2 < N := by have := Int.emod_lt_of_pos two (b := ((N : Nat) : Int)) (by omega); omega
            have HP1 : Hid (∀ W : World, Calls Tryd.prog 7 #[.int .i64 one, .int .i64 (N : Int)] W fun e w' => e = .returned (.int .i64 (p1 : Int)) ∧ w' = W) := fun W => by
              have h := pick_any one N (by omega) (by omega) HO.out.1 HO.out.2 W
              rw [hp1] at h
              exact h
            have HP2 : Hid (∀ W : World, Calls Tryd.prog 7 #[.int .i64 two, .int .i64 (N : Int)] W fun e w' => e = .returned (.int .i64 (p2 : Int)) ∧ w' = W) := fun W => by
              have h := pick_any two N (by omega) (by omega) HTW.out.1 HTW.out.2 W
              rw [hp2] at h
              exact h
            have HLF : Hid (Lefts M L k lv sz) := by have h := made_lefts HG.out hlv2; rw [← HR.out, ← HL.out, HML.out] at h; exact h
            have HL0 : Hid (lostN L = 0) := by have h := made_lost HG.out hlv2; rw [← HR.out, ← HL.out] at h; exact h
            clear hp1 hp2
            have fin : ∀ (w7 : World) (L' : List (List UInt8)), Cpy w5.heap.size w7 (.slice ao6 N ac6) L' → L'.length = N → Below w5.heap.size w5 w7 → Lefts M L' k lv sz → lostN L' ≤ lv → Calls Tryd.prog 11 #[.slice ao6 N ac6, .int .i64 li] w7 fun e w8 => ∃ go gc, e = .returned (.tuple #[.slice go k gc, .int .i64 0]) ∧ Pcs w8.heap.size w8 (.slice go k gc) M ∧ Below w7.heap.size w7 w8 := by
              intro w7 L' q1 q2 q3 q4 q5
              have hleft := q4.left HG.out HML.out hk16 hlv2 q5
              have hbw : Below w.heap.size w w7 := HB5w.out.trans (q3.mono HB5w.out.size)
              have hall : ∀ b ∈ L', b.length ≤ 140737488355328 := fun b hb => by
                have := hleft.all b hb
                have := HG.out.2.1
                omega
              rw [HLI.out]
              refine (parityMend_any L' _ (lv : Int) w7 (HT.out.below hbw hgz) (by rw [q2]; omega) hall (q1.pcs q3.size (by rw [q2]; omega))).mono ?_
              rintro e w8 ⟨O, hO, u, rfl, hu, hb8⟩
              have he := hleft.err
              have hO' := hleft.back (hO he)
              subst hO'
              rw [he, if_pos rfl] at hu
              obtain ⟨go, gc, e8⟩ := (hu.pcs (Nat.le_refl _)).shape
              rw [HML.out] at e8
              subst e8
              exact ⟨go, gc, by rw [he], hu.pcs (Nat.le_refl _), hb8⟩
            have HFIN := hid_mk fin
            clear fin
            obtain ⟨g6, ul6, uc6, e6, r1, r2, r3, r4, r5⟩ := HC6.out.get p1 (by rw [HLN.out]; exact hp1N)
            subst e6
            have HC7 : Hid (Cpy w5.heap.size (w6.setCell ⟨g6, p1, none⟩ (.slice none 0 0)) (.slice (some ⟨g6, 0, none⟩) N ac6) (L.set p1 [])) := HC6.out.put p1 _ [] (.inl ⟨rfl, rfl⟩)
            have HB7 : Hid (Below w5.heap.size w5 (w6.setCell ⟨g6, p1, none⟩ (.slice none 0 0))) := HB6.out.setCell (p := ⟨g6, p1, none⟩) r1 _
            have HN7 : Hid ((L.set p1 []).length = N) := by show _ = _; rw [List.length_set]; exact HLN.out
            have HF7 := hid_mk (HLF.out.set p1)
            have HZ7 : Hid (lostN (L.set p1 []) ≤ 1) := by have h1 := lostN_set L p1; have h2 := HL0.out; show _ ≤ _; omega
            clear r2 r5
            refine (HP1.out _).mono ?_
            rintro e w7 ⟨rfl, hw7⟩
            subst hw7
            go_wp2_with fail
            refine (HFIN.out _ (L.set p1 []) HC7.out HN7.out HB7.out HF7.out (by have := HZ7.out; have := HLVC.out; omega)).mono ?_
            rintro e w8 ⟨go, gc, rfl, hgot, hb8⟩
            have HGOT := hid_mk hgot
            have HB58 : Hid (Below w5.heap.size w5 w8) := HB7.out.trans (hb8.mono (HB7.out).size)
            have HB8w : Hid (Below w.heap.size w w8) := HB5w.out.trans (HB58.out.mono HB5w.out.size)
            have HIN8 : Hid (Pcs w8.heap.size w8 (.slice xo k xc) M) := (HA3.out.below (HB5.out.trans (HB58.out.mono HB5.out.size)) (Nat.le_refl _)).mono (Nat.le_trans HB5.out.size HB58.out.size)
            have HALL8 : Hid (Pcs w8.heap.size w8 (.slice ao5 N ac5) L) := (HP5.out.below HB58.out (Nat.le_refl _)).mono HB58.out.size
            clear hgot hb8
            go_wp2
            go_loopw [19] (fun i wr => ∃ j : Nat, i = .int .i64 (j : Int) ∧ j ≤ k ∧ ∃ q, wr = w8.drewN q) (fun i _ => k - (intOf i).toNat)
            case atStart => exact ⟨0, rfl, by omega, 0, rfl⟩
            case round =>
              obtain ⟨j, rfl, hj, q, hq⟩ := hrel
              have HQ := hid_mk hq
              have HUq : Hid (Pcs w8.heap.size wr (.slice go k gc) M) := by show Pcs _ _ _ _; rw [hq]; exact HGOT.out.below (drewN_below w8.heap.size w8 q) (Nat.le_refl _)
              have HVq : Hid (Pcs w8.heap.size wr (.slice xo k xc) M) := by show Pcs _ _ _ _; rw [hq]; exact HIN8.out.below (drewN_below w8.heap.size w8 q) (Nat.le_refl _)
              clear hq
              by_cases hlt : j < k
              · have hjM : j < M.length := by rw [HML.out]; exact hlt
                obtain ⟨b1, of1, ul1, uc1, e1, hb1, hc1, hr1⟩ := HUq.out.get j hjM
                obtain ⟨b2, of2, ul2, uc2, e2, hb2, hc2, hr2⟩ := HVq.out.get j hjM
                subst e1 e2
                have k1 : ∀ n, (convert 23 9 (.slice ul1 M[j].length uc1)).run Tryd.prog (wr.drewN n) = .ok (.string (str M[j])) (wr.drewN n) := fun n => conv_rd (hr1.below (drewN_below _ wr n) (Nat.le_refl _))
                have k2 : ∀ n, (convert 23 9 (.slice ul2 M[j].length uc2)).run Tryd.prog (wr.drewN n) = .ok (.string (str M[j])) (wr.drewN n) := fun n => conv_rd (hr2.below (drewN_below _ wr n) (Nat.le_refl _))
                obtain ⟨mm, hmm⟩ : ∃ mm, mm = M[j].length := ⟨_, rfl⟩
                obtain ⟨tt, htt⟩ : ∃ tt, tt = str M[j] := ⟨_, rfl⟩
                rw [← hmm] at hc1 hc2
                rw [← hmm, ← htt] at k1 k2
                clear hr1 hr2 hmm htt hjM
                go_wp2
                go_quiet (fail)
                go_wp2
                go_roundw
                case rel => exact ⟨j + 1, by go_num, by omega, q + nq, by rw [HQ.out, World.drewN_drewN]⟩
                case measure => simp [intOf]; omega
              · obtain rfl : j = k := by omega
                have HB9 : Hid (Below w.heap.size w wr) := by show Below _ _ _; rw [HQ.out]; exact HB8w.out.trans (drewN_below _ _ _)
                go_wp2
                go_ret
                exact ⟨rfl, HB9.out⟩
          · have q0 : (0 : Int) < li := by have := HLI.out; omega
            have q1 : (1 : Int) < li := by have := HLI.out; omega
            have q2 : ¬ li < 2 := by have := HLI.out; omega
            have HMade : Hid (Made (M ++ R) M k sz) := by
              have h := made_made HG.out (by rw [HML.out]; exact hk16)
              rw [HML.out] at h
              show Made _ _ _ _
              rw [HR.out, hlvc]
              exact h
            have HLVC := hid_mk hlvc
            clear hlvc
            go_wp2_with (first
              | (at_builtin; refine wpList_cat rfl _ _ rfl w3.heap.size _ [] rfl (Cpy.made w3 _ rfl) _ M rfl HA3'.out (by rw [List.length_nil, HML.out]; omega) HAL3.out.size ?_; intro v4 w4 g1 g2; rw [List.nil_append] at g1; have HC4 := hid_mk g1; have HB4 := hid_mk (HAL3.out.trans g2); clear g1 g2)
              | (at_builtin; refine wpList_cat rfl _ _ rfl w3.heap.size _ M rfl HC4.out _ R rfl (HR3.out.below HB4.out (Nat.le_refl _)) (by rw [HML.out, HRL.out]; have := HMLV.out; omega) HB4.out.size ?_; intro v5 w5 g1 g2; have HC5 := hid_mk g1; have HB5 := hid_mk (HB4.out.trans g2); clear g1 g2 HC4; obtain ⟨N, hN⟩ : ∃ N, N = k + ml := ⟨_, rfl⟩; obtain ⟨L, hL⟩ : ∃ L, L = M ++ R := ⟨_, rfl⟩; have HLN : Hid (L.length = N) := (by show _ = _; rw [hL, List.length_append, HML.out, HRL.out, hN, HMLV.out]); rw [← hL] at HC5; have HL := hid_mk hL; have HN := hid_mk hN; have hN18 : N ≤ 18 := (by omega); have hN1 : 1 ≤ N := (by omega); obtain ⟨ao5, ac5, h5⟩ := HC5.out.shape; rw [HLN.out] at h5; subst h5; have HP5 : Hid (Pcs w5.heap.size w5 (.slice ao5 N ac5) L) := HC5.out.pcs HB5.out.size (by rw [HLN.out]; omega); have HAL5 : Hid (Below w5.heap.size w5 (w5.alloc (.cells #[] 23))) := Below.alloc (Below.refl _ _) (Nat.le_refl _) _; have HP5' : Hid (Pcs w5.heap.size (w5.alloc (.cells #[] 23)) (.slice ao5 N ac5) L) := HP5.out.below HAL5.out (Nat.le_refl _); clear hL hN)
              | (at_builtin; refine wpList_cat rfl _ _ rfl w5.heap.size _ [] rfl (Cpy.made w5 _ rfl) _ L rfl HP5'.out (by rw [List.length_nil, HLN.out]; omega) HAL5.out.size ?_; intro v6 w6 g1 g2; rw [List.nil_append] at g1; have HC6 := hid_mk g1; have HB6 := hid_mk (HAL5.out.trans g2); clear g1 g2; obtain ⟨ao6, ac6, h6⟩ := HC6.out.shape; rw [HLN.out] at h6; subst h6))
            have HB5w : Hid (Below w.heap.size w w5) := HB3w.out.trans (HB5.out.mono HB3w.out.size)
            have HB6w : Hid (Below w.heap.size w w6) := HB5w.out.trans (HB6.out.mono HB5w.out.size)
            obtain ⟨p1, hp1⟩ : ∃ p : Nat, one % ((N : Nat) : Int) = p := Int.eq_ofNat_of_zero_le (Int.emod_nonneg _ (by omega))
            obtain ⟨p2, hp2⟩ : ∃ p : Nat, two % ((N : Nat) : Int) = p := Int.eq_ofNat_of_zero_le (Int.emod_nonneg _ (by omega))
            have hp1N : p1 < N := by have := Int.emod_lt_of_pos one (b := ((N : Nat) : Int)) (by omega); omega
            have hp2N : p2 < N := by have := Int.emod_lt_of_pos two (b := ((N : Nat) : Int)) (by omega); omega
            have HP1 : Hid (∀ W : World, Calls Tryd.prog 7 #[.int .i64 one, .int .i64 (N : Int)] W fun e w' => e = .returned (.int .i64 (p1 : Int)) ∧ w' = W) := fun W => by
              have h := pick_any one N (by omega) (by omega) HO.out.1 HO.out.2 W
              rw [hp1] at h
              exact h
            have HP2 : Hid (∀ W : World, Calls Tryd.prog 7 #[.int .i64 two, .int .i64 (N : Int)] W fun e w' => e = .returned (.int .i64 (p2 : Int)) ∧ w' = W) := fun W => by
              have h := pick_any two N (by omega) (by omega) HTW.out.1 HTW.out.2 W
              rw [hp2] at h
              exact h
            have HLF : Hid (Lefts M L k lv sz) := by have h := made_lefts HG.out hlv2; rw [← HR.out, ← HL.out, HML.out] at h; exact h
            have HL0 : Hid (lostN L = 0) := by have h := made_lost HG.out hlv2; rw [← HR.out, ← HL.out] at h; exact h
            clear hp1 hp2
            have fin : ∀ (w7 : World) (L' : List (List UInt8)), Cpy w5.heap.size w7 (.slice ao6 N ac6) L' → L'.length = N → Below w5.heap.size w5 w7 → Lefts M L' k lv sz → lostN L' ≤ lv → Calls Tryd.prog 11 #[.slice ao6 N ac6, .int .i64 li] w7 fun e w8 => ∃ go gc, e = .returned (.tuple #[.slice go k gc, .int .i64 0]) ∧ Pcs w8.heap.size w8 (.slice go k gc) M ∧ Below w7.heap.size w7 w8 := by
              intro w7 L' q1 q2 q3 q4 q5
              have hleft := q4.left HG.out HML.out hk16 hlv2 q5
              have hbw : Below w.heap.size w w7 := HB5w.out.trans (q3.mono HB5w.out.size)
              have hall : ∀ b ∈ L', b.length ≤ 140737488355328 := fun b hb => by
                have := hleft.all b hb
                have := HG.out.2.1
                omega
              rw [HLI.out]
              refine (parityMend_any L' _ (lv : Int) w7 (HT.out.below hbw hgz) (by rw [q2]; omega) hall (q1.pcs q3.size (by rw [q2]; omega))).mono ?_
              rintro e w8 ⟨O, hO, u, rfl, hu, hb8⟩
              have he := hleft.err
              have hO' := hleft.back (hO he)
              subst hO'
              rw [he, if_pos rfl] at hu
              obtain ⟨go, gc, e8⟩ := (hu.pcs (Nat.le_refl _)).shape
              rw [HML.out] at e8
              subst e8
              exact ⟨go, gc, by rw [he], hu.pcs (Nat.le_refl _), hb8⟩
            have HFIN := hid_mk fin
            clear fin
            rw [← HL.out] at HMade
            obtain ⟨g6, ul6, uc6, e6, r1, r2, r3, r4, r5⟩ := HC6.out.get p1 (by rw [HLN.out]; exact hp1N)
            subst e6
            have HC7 : Hid (Cpy w5.heap.size (w6.setCell ⟨g6, p1, none⟩ (.slice none 0 0)) (.slice (some ⟨g6, 0, none⟩) N ac6) (L.set p1 [])) := HC6.out.put p1 _ [] (.inl ⟨rfl, rfl⟩)
            have HB7 : Hid (Below w5.heap.size w5 (w6.setCell ⟨g6, p1, none⟩ (.slice none 0 0))) := HB6.out.setCell (p := ⟨g6, p1, none⟩) r1 _
            have HN7 : Hid ((L.set p1 []).length = N) := by show _ = _; rw [List.length_set]; exact HLN.out
            have HF7 := hid_mk (HLF.out.set p1)
            have HZ7 : Hid (lostN (L.set p1 []) ≤ 1) := by have h1 := lostN_set L p1; have h2 := HL0.out; show _ ≤ _; omega
            clear r2 r5
            refine (HP1.out _).mono ?_
            rintro e w7 ⟨rfl, hw7⟩
            subst hw7
            obtain ⟨g6', ul7, uc7, e7, s1, s2, s3, s4, s5⟩ := HC7.out.get p2 (by rw [HN7.out]; exact hp2N)
            cases e7
            have HC8 : Hid (Cpy w5.heap.size ((w7.setCell ⟨g6, p1, none⟩ (.slice none 0 0)).setCell ⟨g6, p2, none⟩ (.slice none 0 0)) (.slice (some ⟨g6, 0, none⟩) N ac6) ((L.set p1 []).set p2 [])) := HC7.out.put p2 _ [] (.inl ⟨rfl, rfl⟩)
            have HB8 : Hid (Below w5.heap.size w5 ((w7.setCell ⟨g6, p1, none⟩ (.slice none 0 0)).setCell ⟨g6, p2, none⟩ (.slice none 0 0))) := HB7.out.setCell (p := ⟨g6, p2, none⟩) r1 _
            have HN8 : Hid (((L.set p1 []).set p2 []).length = N) := by show _ = _; rw [List.length_set]; exact HN7.out
            have HF8 := hid_mk (HF7.out.set p2)
            have HZ8 : Hid (lostN ((L.set p1 []).set p2 []) ≤ 2) := by have h1 := lostN_set (L.set p1 []) p2; have h2 := HZ7.out; show _ ≤ _; omega
            clear s2 s5
            go_wp2_with fail
            refine (HP2.out _).mono ?_
            rintro e w7' ⟨rfl, hw7⟩
            subst hw7
            go_wp2_with fail
            refine (HFIN.out _ ((L.set p1 []).set p2 []) HC8.out HN8.out HB8.out HF8.out (by have := HZ8.out; have := HLVC.out; omega)).mono ?_
            rintro e w8 ⟨go, gc, rfl, hgot, hb8⟩
            have HGOT := hid_mk hgot
            have HB58 : Hid (Below w5.heap.size w5 w8) := HB8.out.trans (hb8.mono (HB8.out).size)
            have HB8w : Hid (Below w.heap.size w w8) := HB5w.out.trans (HB58.out.mono HB5w.out.size)
            have HIN8 : Hid (Pcs w8.heap.size w8 (.slice xo k xc) M) := (HA3.out.below (HB5.out.trans (HB58.out.mono HB5.out.size)) (Nat.le_refl _)).mono (Nat.le_trans HB5.out.size HB58.out.size)
            have HALL8 : Hid (Pcs w8.heap.size w8 (.slice ao5 N ac5) L) := (HP5.out.below HB58.out (Nat.le_refl _)).mono HB58.out.size
            clear hgot hb8
            go_wp2
            go_loopw [19] (fun i wr => ∃ j : Nat, i = .int .i64 (j : Int) ∧ j ≤ k ∧ ∃ q, wr = w8.drewN q) (fun i _ => k - (intOf i).toNat)
            case atStart => exact ⟨0, rfl, by omega, 0, rfl⟩
            case round =>
              obtain ⟨j, rfl, hj, q, hq⟩ := hrel
              have HQ := hid_mk hq
              have HUq : Hid (Pcs w8.heap.size wr (.slice go k gc) M) := by show Pcs _ _ _ _; rw [hq]; exact HGOT.out.below (drewN_below w8.heap.size w8 q) (Nat.le_refl _)
              have HVq : Hid (Pcs w8.heap.size wr (.slice xo k xc) M) := by show Pcs _ _ _ _; rw [hq]; exact HIN8.out.below (drewN_below w8.heap.size w8 q) (Nat.le_refl _)
              clear hq
              by_cases hlt : j < k
              · have hjM : j < M.length := by rw [HML.out]; exact hlt
                obtain ⟨b1, of1, ul1, uc1, e1, hb1, hc1, hr1⟩ := HUq.out.get j hjM
                obtain ⟨b2, of2, ul2, uc2, e2, hb2, hc2, hr2⟩ := HVq.out.get j hjM
                subst e1 e2
                have k1 : ∀ n, (convert 23 9 (.slice ul1 M[j].length uc1)).run Tryd.prog (wr.drewN n) = .ok (.string (str M[j])) (wr.drewN n) := fun n => conv_rd (hr1.below (drewN_below _ wr n) (Nat.le_refl _))
                have k2 : ∀ n, (convert 23 9 (.slice ul2 M[j].length uc2)).run Tryd.prog (wr.drewN n) = .ok (.string (str M[j])) (wr.drewN n) := fun n => conv_rd (hr2.below (drewN_below _ wr n) (Nat.le_refl _))
                obtain ⟨mm, hmm⟩ : ∃ mm, mm = M[j].length := ⟨_, rfl⟩
                obtain ⟨tt, htt⟩ : ∃ tt, tt = str M[j] := ⟨_, rfl⟩
                rw [← hmm] at hc1 hc2
                rw [← hmm, ← htt] at k1 k2
                clear hr1 hr2 hmm htt hjM
                go_wp2
                go_quiet (fail)
                go_wp2
                go_roundw
                case rel => exact ⟨j + 1, by go_num, by omega, q + nq, by rw [HQ.out, World.drewN_drewN]⟩
                case measure => simp [intOf]; omega
              · obtain rfl : j = k := by omega
                have HB9 : Hid (Below w.heap.size w wr) := by show Below _ _ _; rw [HQ.out]; exact HB8w.out.trans (drewN_below _ _ _)
                have HALL9 : Hid (Pcs wr.heap.size wr (.slice ao5 N ac5) L) := by
                  have e := HQ.out
                  show Pcs _ _ _ _
                  rw [e]
                  exact HALL8.out.below (drewN_below w8.heap.size w8 q) (Nat.le_refl _)
                have HFD := hid_mk (finds_any L M j sz p1 _ t wr (HT.out.below HB9.out hgz) HMade.out (by rw [HLN.out]; exact hp1N) ht HALL9.out)
                go_wp2_with fail
                refine (HP1.out _).mono ?_
                rintro e w9 ⟨rfl, rfl⟩
                go_wp2_with fail
                refine HFD.out.mono ?_
                rintro e w9 ⟨rfl, hb9⟩
                have HB10 := hid_mk (HB9.out.trans (hb9.mono HB9.out.size))
                clear hb9
                go_wp2
                go_ret
                exact ⟨rfl, HB10.out⟩
        · rw [if_neg h0] at hm
          obtain ⟨mo, mc, hms⟩ := hm.pcs (Nat.le_refl _) |>.shape
          subst hms
          have hng : ¬ ∃ sz, GoodP M sz := fun h => h0 (HIF.out.2 h)
          have HNG := hid_mk hng
          have HB2 := hid_mk hb2
          obtain ⟨c, hc⟩ : ∃ c, c = makeErr M (lv : Int) := ⟨_, rfl⟩
          rw [← hc] at h0 ⊢
          clear hng hm hb2 hc
          go_wp2_with fail
          refine (HOD.out _ HB2.out).mono ?_
          rintro e w3 ⟨⟨r, rfl, hr⟩, m, rfl⟩
          obtain rfl : r = true := hr.2 HNG.out
          go_wp2
          go_ret
          exact ⟨rfl, (HB.out.trans (HB2.out.mono HB.out.size)).trans (drewN_below _ _ _)⟩
end Go.Proofs.YtigaabhicjcbjafDoor
