/-
  SumPatches: the walk.
-/
import Derived.Test.YtppmjdmdflcoiaaDoorPatch
import Derived.Test.YtppmjdmdflcoiaaDoorCopy
namespace Go.Proofs.YtppmjdmdflcoiaaDoor
open Go.ChangeShapes Go.WideShapes Go.ChangeAt Go.RowKit
set_option linter.unusedVariables false

theorem sumPatches_bad (a now : ByteArray) (at_ : Int) (ha : a.size ≤ 140737488355328) (hn : now.size ≤ 140737488355328) (h1 : -9223372036854775808 ≤ at_) (h2 : at_ ≤ 9223372036854775807) (w : World)
    (h : at_ < 0 ∨ a.size < now.size ∨ (a.size : Int) - now.size < at_) :
    Calls Tryd.prog 4 #[.string a, .int .i64 at_, .string now] w fun e w' => e = .returned (.bool true) ∧ Below w.heap.size w w' := by
  have kc := run_bw
  have ks := bw_size
  have HL : Hid ((bl a).length = a.size) := bl_length a
  have HH : Hid (at_ < 0 ∨ a.size < now.size ∨ (a.size : Int) - now.size < at_) := h
  have HL' : Hid ((bl a).length ≤ 140737488355328) := by have := bl_length a; show (bl a).length ≤ _; omega
  have b1 : Below w.heap.size w (bw w a) := below_bw (Below.refl _ _) (Nat.le_refl _) a
  have b2 : Below w.heap.size w (bw (bw w a) now) := below_bw b1 b1.size now
  have HB : Hid (Below w.heap.size w (bw (bw (bw w a) now) now)) := below_bw b2 b2.size now
  clear b1 b2
  by_cases e1 : at_ < 0
  all_goals by_cases e2 : (a.size : Int) < (now.size : Int)
  all_goals try (have e3 : (a.size : Int) - (now.size : Int) < at_ := by omega)
  all_goals
    clear h
    go_enter Tryd.func4, Tryd.ntmps4
    go_wp2_with fail
    refine (refSum_n (bl a) _ _ 0 _ (bw w a) HL.out.symm (by have := HL'.out; omega) (bw_bytes w a)).mono ?_
    rintro e w1 ⟨rfl, rfl⟩
    go_wp2_with fail
    refine (patch_no (Crc.crc (bl a)) now.size now.size a.size at_ _ _ _ _ _ (by omega) (by omega) h1 h2 (Or.inr HH.out)).mono ?_
    rintro e w1 ⟨rfl, rfl⟩
    go_wp2_with fail
    go_ret
    exact ⟨rfl, HB.out⟩

/-- What is exchanged. -/
def part (l : List UInt8) (k n : Nat) : List UInt8 := (l.drop k).take n
theorem part_length (l : List UInt8) (k n : Nat) (h : k + n ≤ l.length) : (part l k n).length = n := by simp [part]; omega
theorem part_bytes {w : World} {b : Nat} {l : List UInt8} (hc : BytesAt w b 0 l) (k n : Nat) (h : k + n ≤ l.length) : BytesAt w b k (part l k n) := by
  intro i hi
  have hn := part_length l k n h
  have := hc (k + i) (by omega)
  rw [Nat.zero_add] at this
  rw [this]
  simp [part]
theorem part_none (w : World) (b off : Nat) (l : List UInt8) (k : Nat) : BytesAt w b off (part l k 0) := by
  intro i hi
  simp [part] at hi

theorem patch_n (s at_ size n r : Nat) (was now : List UInt8) (hr : s ^^^ Crc.txn (8 * (size - n - at_)) (Crc.crc was ^^^ Crc.crc now) = r) (b off c b' off' d : Nat) (w : World) (hs : s < 4294967296) (hsz : size ≤ 4611686018427387904) (hn : was.length = n) (hn' : now.length = n) (hfit : n + at_ ≤ size)
    (hc : BytesAt w b off was) (hc' : BytesAt w b' off' now) (ht : Tabs w) :
    Calls Tryd.prog 12 #[.int .u32 s, .int .i64 size, .int .i64 at_, .slice (some ⟨b, off, none⟩) n c, .slice (some ⟨b', off', none⟩) n d] w fun e w' =>
      e = .returned (.int .u32 (r : Int)) ∧ ∃ n, w' = w.drewN n := by
  subst hn hr
  exact patch_yes s at_ size was now b off c b' off' d w hs hsz hn' hfit hc hc' ht

/-- What is there behind the exchange. -/
def swapped (l : List UInt8) (k : Nat) (m : List UInt8) : List UInt8 := l.take k ++ m ++ l.drop (k + m.length)
theorem swapped_crc (l m : List UInt8) (k : Nat) (h : k + m.length ≤ l.length) : Crc.crc l ^^^ Crc.txn (8 * (l.length - m.length - k)) (Crc.crc (part l k m.length) ^^^ Crc.crc m) = Crc.crc (swapped l k m) := by
  have hp := part_length l k m.length h
  have hl : l = l.take k ++ part l k m.length ++ l.drop (k + m.length) := by
    rw [part, List.append_assoc, ← List.drop_drop, List.take_append_drop, List.take_append_drop]
  have hq : (l.drop (k + m.length)).length = l.length - m.length - k := by simp; omega
  conv => lhs; rw [← hq]
  conv => lhs; arg 1; rw [hl]
  exact crc_exchange _ _ _ _ hp
theorem swapped_length (l m : List UInt8) (k : Nat) (h : k + m.length ≤ l.length) : (swapped l k m).length = l.length := by simp [swapped]; omega
theorem news_cells {W : World} {b off : Nat} {l : List UInt8} (h : BytesAt W b off l) : ∀ j u, (l.map by8)[j]? = some u → W.cell? ((⟨b, off, none⟩ : Addr).add j) = some u := by
  intro j u hj
  have hj' : j < l.length := by
    have := (List.getElem?_eq_some_iff.1 hj).1
    simpa using this
  simp [hj', by8] at hj
  subst hj
  rw [add_at]; exact h j hj'
theorem news_one (l : List UInt8) : ∀ u ∈ l.map by8, u.oneCell' = true := by
  intro u hu; simp only [List.mem_map] at hu; obtain ⟨x, _, rfl⟩ := hu; rfl
theorem own_slice {w : World} {base n : Nat} {v : Value} {l : List UInt8} (h : w.ownsRow base 5 1 v n (l.map by8)) (hv : v ≠ .slice none 0 0) :
    ∃ g cap, v = .slice (some ⟨g, 0, none⟩) n cap ∧ base ≤ g ∧ n ≤ cap ∧ cap ≤ maxLen ∧ ∃ cur : List Value, w.heap[g]? = some (.cells cur.toArray 5 (0, 0)) ∧ cur.length = cap ∧ cur.take n = l.map by8 := by
  obtain ⟨_, h2⟩ := h
  rcases h2 with ⟨h2, _⟩ | ⟨g, c, cur, h3, h4, h5, h6, h7, h8, h9⟩
  · exact absurd h2 hv
  · exact ⟨g, c, h3, h4, h6, h7, cur.toList, by simpa using h5, by simpa using h8, by simpa using h9⟩
/-- What a copy leaves, byte for byte. -/
theorem swapped_bytes {w : World} {g k n : Nat} {cur : List Value} {l m : List UInt8} (hg : w.heap[g]? = some (.cells (splice cur k (m.map by8)).toArray 5 (0, 0))) (hn : l.length = n) (hcur : cur.take n = l.map by8) (h : k + m.length ≤ n) : BytesAt w g 0 (swapped l k m) := by
  intro i hi
  have hsl : (swapped l k m).length = n := by rw [swapped_length l m k (by omega), hn]
  have hcl : n ≤ cur.length := by
    have := congrArg List.length hcur
    simp at this; omega
  have e : (splice cur k (m.map by8)).take n = (swapped l k m).map by8 := by
    have h1 : cur = l.map by8 ++ cur.drop n := by rw [← hcur, List.take_append_drop]
    rw [splice, h1]
    have hk : k ≤ (l.map by8).length := by simp; omega
    rw [List.take_append_of_le_length hk, List.drop_append_of_le_length (by simp; omega)]
    rw [← List.append_assoc, ← List.append_assoc, List.take_append_of_le_length (by simp; omega), List.take_of_length_le (by simp; omega)]
    simp [swapped, List.map_take, List.map_drop]
  have h2 : (splice cur k (m.map by8))[i]? = some (by8 (swapped l k m)[i]) := by
    have : ((splice cur k (m.map by8)).take n)[i]? = some (by8 (swapped l k m)[i]) := by rw [e, List.getElem?_map, List.getElem?_eq_getElem hi]; rfl
    rwa [List.getElem?_take_of_lt (by omega)] at this
  simp [World.cell?, hg, h2, by8]

theorem elemBytes : Tryd.prog.elem 22 = 5 := by kernel_rfl
theorem size5 (w : World) : (sizeOf 5).run Tryd.prog w = .ok 1 w := by
  obtain ⟨i0, hi, hz0, hz1, hz2⟩ := info_parts Tryd.info5
  simp [sizeOf, typeInfo, hi, hz1]
theorem slice_from (g k len cap : Nat) (w : World) (hk : k ≤ len) :
    ∃ dp, (k < cap → dp = some ⟨g, k, none⟩) ∧ (Instr.slice 22 (.slice (some ⟨g, 0, none⟩) len cap) (some (.int .i64 k)) none none).run Tryd.prog w = .ok (.slice dp (len - k) (cap - k)) w := by
  refine ⟨if cap = k then some ⟨g, 0, none⟩ else (some (⟨g, 0, none⟩ : Addr)).map (·.add (k * 1)), fun h => ?_, ?_⟩
  · rw [if_neg (by omega)]; simp [add_at]
  · rw [run_slice_l w 22 (some ⟨g, 0, none⟩) len cap (by rw [elemBytes]; exact Tryd.underlying22) .i64 k (by omega) (by omega), elemBytes, size5]
    simp [sliced, Result.andThen]

set_option maxHeartbeats 1600000 in
set_option maxRecDepth 1000000 in
theorem sumPatches_good (a now : ByteArray) (k : Nat) (ha : a.size ≤ 140737488355328) (hfit : k + now.size ≤ a.size) (w : World) (h2 : 2 ≤ w.heap.size) (ht : Tabs w) :
    Calls Tryd.prog 4 #[.string a, .int .i64 k, .string now] w fun e w' => e = .returned (.bool true) ∧ Below w.heap.size w w' := by
  have kc := run_bw
  have ks := bw_size
  have HL : Hid ((bl a).length = a.size) := bl_length a
  have HT : Hid (Tabs w) := ht
  have hroom : (a.size : Int) ≤ (room w a : Int) := by have := grownCap_ge w a.size 0 5; unfold room; omega
  clear ht
  have g1 : decide ((k : Int) < 0) = false := by simp
  have g2 : decide ((a.size : Int) < (now.size : Int)) = false := by simp; omega
  have g3 : decide ((a.size : Int) - (now.size : Int) < (k : Int)) = false := by simp; omega
  have b1 : Below w.heap.size w (bw w a) := below_bw (Below.refl _ _) (Nat.le_refl _) a
  go_enter Tryd.func4, Tryd.ntmps4
  go_wp2_with fail
  refine (refSum_n (bl a) _ _ 0 _ (bw w a) HL.out.symm (by have := HL.out; omega) (bw_bytes w a)).mono ?_
  rintro e w1 ⟨rfl, rfl⟩
  have hfit' : k + now.size ≤ (bl a).length := by rw [HL.out]; exact hfit
  have HW : Hid ((part (bl a) k now.size).length = now.size) := part_length _ _ _ hfit'
  have HN : Hid ((bl now).length = now.size) := bl_length now
  have HP : Hid (BytesAt (bw w a) w.heap.size k (part (bl a) k now.size)) := part_bytes (bw_bytes w a) k now.size hfit'
  have H0 : Hid (room w a = k → BytesAt (bw w a) w.heap.size 0 (part (bl a) k now.size)) := fun e => by
    have : now.size = 0 := by omega
    rw [this]; exact part_none _ _ _ _ _
  have HA : Hid (BytesAt (bw w a) w.heap.size 0 (bl a)) := bw_bytes w a
  clear hfit'
  obtain ⟨WAS, hWAS⟩ : ∃ l, l = part (bl a) k now.size := ⟨_, rfl⟩
  rw [← hWAS] at HW HP H0
  obtain ⟨C, hC⟩ : ∃ l, l = swapped (bl a) k (bl now) := ⟨_, rfl⟩
  have HR : Hid (Crc.crc (bl a) ^^^ Crc.txn (8 * (a.size - now.size - k)) (Crc.crc WAS ^^^ Crc.crc (bl now)) = Crc.crc C) := by
    have h := swapped_crc (bl a) (bl now) k (by rw [HN.out, HL.out]; exact hfit)
    rw [HN.out, HL.out, ← hWAS, ← hC] at h
    exact h
  have HCC : Hid (C = swapped (bl a) k (bl now)) := hC
  have HCL : Hid (C.length = a.size) := by
    have h := swapped_length (bl a) (bl now) k (by rw [HN.out, HL.out]; exact hfit)
    rw [← hC, HL.out] at h; exact h
  clear hWAS hC
  obtain ⟨i0, hi, hz0, hz1', hz2'⟩ := info_parts Tryd.info5
  have HI : Hid (Tryd.prog.info? 5 = some i0 ∧ i0.zero = some (.int .u8 0) ∧ i0.size = 1 ∧ i0.bytes = 1) := ⟨hi, hz0, hz1', hz2'⟩
  clear hi hz0 hz1' hz2'
  go_wp2_with fail
  all_goals
    have H1 : ∃ o, BytesAt (bw w a) w.heap.size o WAS := ⟨k, HP.out⟩
    refine (lent_n WAS _ _ _ _ (bw w a) HW.out.symm (by have := HW.out; omega) (by rw [bw_size]; omega) (by first | exact HP.out | exact H0.out (by assumption))).mono ?_
    rintro e w1 ⟨rfl, hB, hbel⟩
    rw [bw_size] at hB hbel
    have b2 : Below w.heap.size w w1 := b1.trans (hbel.mono (by omega))
    have hz1 := hB.size
    have HB : Hid (Block w1 (w.heap.size + 1) (WAS ++ List.replicate 9 77)) := hB
    have HB1 : Hid (Below (w.heap.size + 1) (bw w a) w1) := hbel
    have HBW : Hid (Below w.heap.size w w1) := b2
    clear hB hbel b1 b2 H1
    go_wp2_with fail
    refine (lent_n (bl now) _ _ 0 _ (bw w1 now) HN.out.symm (by have := HN.out; omega) (by rw [bw_size]; omega) (bw_bytes w1 now)).mono ?_
    rintro e w2 ⟨rfl, hB, hbel⟩
    rw [bw_size] at hB hbel
    have hz2 := hB.size
    have b3 : Below w1.heap.size w1 w2 := (below_bw (Below.refl _ _) (Nat.le_refl _) now).trans (hbel.mono (by omega))
    have HC : Hid (Block w2 (w1.heap.size + 1) (bl now ++ List.replicate 9 77)) := hB
    have HB2 : Hid (Block w2 (w.heap.size + 1) (WAS ++ List.replicate 9 77)) := HB.out.below b3 (by omega)
    have HA2 : Hid (Below (w.heap.size + 1) (bw w a) w2) := HB1.out.trans (b3.mono (by omega))
    have HBW2 : Hid (Below w.heap.size w w2) := HBW.out.trans (b3.mono (by omega))
    clear hB hbel b3 HB HB1 HBW
    go_wp2_with fail
    refine (patch_n (Crc.crc (bl a)) k a.size now.size (Crc.crc C) WAS (bl now) HR.out _ 0 _ _ 0 _ w2 (Crc.crc_lt _) (by omega) HW.out HN.out (by omega) HB2.out.bytes HC.out.bytes (HT.out.below HBW2.out h2)).mono ?_
    rintro e w3 ⟨rfl, m, rfl⟩
    have b3 := drewN_below w2.heap.size w2 m
    have HC3 : Hid (Block (w2.drewN m) (w1.heap.size + 1) (bl now ++ List.replicate 9 77)) := HC.out.below b3 hz2
    have HB3 : Hid (Block (w2.drewN m) (w.heap.size + 1) (WAS ++ List.replicate 9 77)) := HB2.out.below b3 (by omega)
    have HA3 : Hid (Below (w.heap.size + 1) (bw w a) (w2.drewN m)) := HA2.out.trans (b3.mono (by omega))
    have HBW3 : Hid (Below w.heap.size w (w2.drewN m)) := HBW2.out.trans (b3.mono (by omega))
    obtain ⟨w3, hw3⟩ : ∃ w3, w3 = w2.drewN m := ⟨_, rfl⟩
    have hz3 : w1.heap.size + 1 < w3.heap.size := by rw [hw3]; exact hz2
    rw [← hw3] at HC3 HB3 HA3 HBW3
    rw [← hw3]
    clear hw3 b3 HC HB2 HA2 HBW2 hz2
    go_wp2_with fail
    refine (back_n WAS _ _ (w.heap.size + 1) _ _ _ w3 HW.out.symm rfl (by have := HW.out; omega) HB3.out (by first | exact HP.out.below HA3.out (by omega) | exact (H0.out (by assumption)).below HA3.out (by omega))).mono ?_
    rintro e w4 ⟨rfl, hg⟩
    have hz4 : w1.heap.size + 1 < w4.heap.size := Nat.lt_of_lt_of_le hz3 hg.size
    have HC4 : Hid (Block w4 (w1.heap.size + 1) (bl now ++ List.replicate 9 77)) := HC3.out.grown hg (by omega)
    have HA4 : Hid (Below (w.heap.size + 1) (bw w a) w4) := HA3.out.trans (grown_below hg (Nat.le_refl _) (by omega))
    have HBW4 : Hid (Below w.heap.size w w4) := HBW3.out.trans (grown_below hg (by omega) (by omega))
    clear hg HC3 HB3 HA3 HBW3 hz3
    go_wp2_with fail
    have b4 := below_bw (Below.refl w4.heap.size w4) (Nat.le_refl _) now
    refine (back_n (bl now) _ _ (w1.heap.size + 1) _ 0 _ (bw w4 now) HN.out.symm rfl (by have := HN.out; omega) (HC4.out.below b4 hz4) (bw_bytes w4 now)).mono ?_
    rintro e w5 ⟨rfl, hg⟩
    have hz5 : w.heap.size + 1 < w5.heap.size := by have := hg.size; rw [bw_size] at this; omega
    have HA5 : Hid (Below (w.heap.size + 1) (bw w a) w5) := (HA4.out.trans (b4.mono (by omega))).trans (grown_below hg (by omega) (by rw [bw_size]; omega))
    have HBW5 : Hid (Below w.heap.size w w5) := (HBW4.out.trans (b4.mono (by omega))).trans (grown_below hg (by omega) (by rw [bw_size]; omega))
    clear hg b4 HC4 HA4 HBW4 hz4
    have hown0 : Hid ((w5.alloc (.cells #[] 5)).ownsRow w5.heap.size 5 1 (.slice (some ⟨w5.heap.size, 0, none⟩) 0 0) 0 (([] : List UInt8).map by8)) := World.ownsRow_lit w5 #[] 0 (Nat.le_refl _) (by unfold maxLen; omega) rfl
    have HA6 : Hid (BytesAt (w5.alloc (.cells #[] 5)) w.heap.size 0 (bl a)) := HA.out.below (HA5.out.alloc (by omega) _) (by omega)
    have hm63 : a.size ≤ maxLen := by unfold maxLen; omega
    go_wp2_with (at_builtin; go_loud (refine wpList_append_own _ rfl (.tmp 80) (.tmp 81) 22 rfl w5.heap.size 5 i0 (.int .u8 0) 1 1 Tryd.underlying22 HI.out.1 HI.out.2.1 HI.out.2.2.1 HI.out.2.2.2 rfl (by decide) _ 0 _ rfl hown0.out ⟨w.heap.size, 0, none⟩ a.size _ ((bl a).map by8) rfl (by rw [List.length_map, HL.out, Nat.mul_one]) (news_cells HA6.out) (news_one _) (by rw [Nat.zero_add]; exact hm63) (by omega) (by simp) ?_; intro v6 w6 hown6 hgrow6 hnil6))
    rw [Nat.zero_add, ← List.map_append, List.nil_append] at hown6
    obtain ⟨g, cap, rfl, hg5, hcap, hmax, cur, hcur, hcl, hct⟩ := own_slice hown6 (fun e => by have := (hnil6.1 e).1; cases this)
    have b6 : Below w5.heap.size w5 w6 := ((Below.refl _ _).alloc (Nat.le_refl _) _).grown hgrow6 (by simp) (fun j hj => by cases hj; exact Nat.le_refl _)
    have hg6 : g < w6.heap.size := (Array.getElem?_eq_some_iff.1 hcur).1
    have HB6 : Hid (Below w.heap.size w w6) := HBW5.out.trans (b6.mono (by omega))
    have HCU : Hid (w6.heap[g]? = some (.cells cur.toArray 5 (0, 0))) := hcur
    have HCLn : Hid (cur.length = cap) := hcl
    have HG5 : Hid (w5.heap.size ≤ g) := hg5
    clear hcl hg5
    have HCT : Hid (cur.take a.size = (bl a).map by8) := hct
    have hcap' : (a.size : Int) ≤ (cap : Int) := by omega
    have hs1 : Hid ((Tryd.prog.info? 5).map (·.size) = some 1) := by show _ = _; rw [HI.out.1]; show some i0.size = _; rw [HI.out.2.2.1]
    obtain ⟨dp, hdp, hsl⟩ := slice_from g k a.size cap w6 (by omega)
    have HDP : Hid (k < cap → dp = some ⟨g, k, none⟩) := hdp
    clear hown6 hgrow6 hnil6 b6 hcur hct hown0 HA6 HA5 HBW5 hdp hm63 hmax
    go_wp2_with fail
    rw [hsl]
    obtain ⟨w7, hcp, hg7, hb7⟩ := copy_str (P := Tryd.prog) w6 w w.heap.size 22 9 3 5 dp g k (a.size - k) (cap - k) now cur 5 Tryd.underlying22 hs1.out HCU.out (by omega) (fun h => HDP.out (by omega)) (by rw [HCLn.out]; omega) HB6.out (Nat.le_trans (by omega) HG5.out)
    have HW7 : Hid (Below w.heap.size w w7) := hb7
    have HB7 : Hid (BytesAt w7 g 0 C) := by rw [HCC.out]; exact swapped_bytes hg7 HL.out HCT.out (by rw [HN.out]; exact hfit)
    have hz7 : g < w7.heap.size := (Array.getElem?_eq_some_iff.1 hg7).1
    have hx : now.size + 1 ≤ 9223372036854775807 := by omega
    have b8 := below_bw (Below.refl w7.heap.size w7) (Nat.le_refl _) (now ++ ByteArray.mk #[120])
    have b9 := below_bw b8 b8.size now
    have HB9 : Hid (BytesAt (bw (bw w7 (now ++ ByteArray.mk #[120])) now) g 0 C) := HB7.out.below b9 hz7
    have HW9 : Hid (Below w.heap.size w (bw (bw w7 (now ++ ByteArray.mk #[120])) now)) := HW7.out.trans (b9.mono HW7.out.size)
    clear b8 b9
    go_wp2_with fail
    refine (patch_no (Crc.crc (bl a)) (now.size + 1) now.size a.size k _ _ _ _ _ (by omega) (by omega) (by omega) (by omega) (Or.inl (by omega))).mono ?_
    rintro e w8 ⟨rfl, rfl⟩
    go_wp2_with fail
    refine (refSum_n C _ _ 0 _ _ HCL.out.symm (by have := HCL.out; omega) HB9.out).mono ?_
    rintro e w8 ⟨rfl, rfl⟩
    go_wp2_with fail
    go_ret
    exact ⟨rfl, HW9.out⟩
end Go.Proofs.YtppmjdmdflcoiaaDoor
