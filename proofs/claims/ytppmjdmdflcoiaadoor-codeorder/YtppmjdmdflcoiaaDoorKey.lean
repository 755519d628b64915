/-
  code.Key: the walks.
-/
import Derived.Test.YtppmjdmdflcoiaaDoorText
import Derived.Test.YtppmjdmdflcoiaaDoorEnc
import Derived.Test.YtppmjdmdflcoiaaDoorTell
namespace Go.Proofs.YtppmjdmdflcoiaaDoor
open Go.ChangeShapes Go.WideShapes Go.ChangeAt Go.RowKit
set_option linter.unusedVariables false

/-- A slice of bytes that the call has made. -/
def Owns (w : World) (base : Nat) (v : Value) (l : List UInt8) : Prop := w.ownsRow base 5 1 v l.length (l.map by8)
theorem owns_nil (w : World) (base : Nat) : Owns w base (.slice none 0 0) [] := World.ownsRow_nil _ _ _ _
theorem Owns.block {w : World} {base : Nat} {v : Value} {l : List UInt8} (h : Owns w base v l) : ∀ k, v.ownBlock = some k → base ≤ k := by
  intro k hk
  obtain ⟨_, h2⟩ := h
  rcases h2 with ⟨rfl, _⟩ | ⟨g, c, cur, rfl, hg, _⟩
  · simp [Value.ownBlock] at hk
  · simp [Value.ownBlock] at hk; omega
theorem add_bytes {W : World} {b off : Nat} {l : List UInt8} (h : BytesAt W b off l) : ∀ j u, (l.map by8)[j]? = some u → W.cell? ((⟨b, off, none⟩ : Addr).add j) = some u := by
  intro j u hj
  have hj' : j < l.length := by
    have := (List.getElem?_eq_some_iff.1 hj).1
    simpa using this
  simp [hj', by8] at hj
  subst hj
  rw [add_at]; exact h j hj'
theorem by8_one (l : List UInt8) : ∀ u ∈ l.map by8, u.oneCell' = true := by
  intro u hu; simp only [List.mem_map] at hu; obtain ⟨x, _, rfl⟩ := hu; rfl

/-- 'append(out, news...)' as a law. -/
theorem wpList_add {w : World} {ops : Array Oper} {rest : List Oper} {o : Oper} {a : Act} {Q : Exit → Act → World → Prop} (hgd : o.guard = none) (s x : Operand)
    (ho : o.op = .call { callee := .builtin .append, args := #[s, x], argTypes := #[22, 22] }) (base : Nat) (v : Value) (l : List UInt8) (hs : a.eval s = v) (hown : Owns w base v l)
    (b off m c : Nat) (news : List UInt8) (hx : a.eval x = .slice (some ⟨b, off, none⟩) m c) (hm : news.length = m) (hnews : BytesAt w b off news) (hb : l.length + news.length ≤ 140737488355328) (hbase : base ≤ w.heap.size)
    (h : ∀ v' w', Owns w' base v' (l ++ news) → Below base w w' → (v' = .slice none 0 0 ↔ v = .slice none 0 0 ∧ m = 0) → wpList Tryd.prog ops Q rest (a.put o.dst v') w') : wpList Tryd.prog ops Q (o :: rest) a w := by
  obtain ⟨i0, hi, hz0, hz1, hz2⟩ := info_parts Tryd.info5
  refine wpList_append_own w hgd s x 22 ho base 5 i0 (.int .u8 0) 1 1 Tryd.underlying22 hi hz0 hz1 hz2 rfl (by decide) v l.length (l.map by8) hs hown ⟨b, off, none⟩ m c (news.map by8) hx (by rw [List.length_map, hm, Nat.mul_one]) (add_bytes hnews) (by8_one _) (by unfold maxLen; omega) (by omega) hbase ?_
  intro v' w' h1 h2 h3
  refine h v' w' ?_ ((Below.refl base w).grown h2 hbase hown.block) h3
  unfold Owns
  rw [List.length_append, List.map_append, hm]
  exact h1

theorem one_bytes (w : World) (x : UInt8) (v : Value) (hv : v = .int .u8 (x.toNat : Int)) (b : Nat) (hb : b = w.heap.size) : BytesAt (w.alloc (.cells #[v] 5)) b 0 [x] := by
  intro i hi
  obtain rfl : i = 0 := by simpa using hi
  subst hv hb
  simp
theorem two_bytes (w : World) (x y : UInt8) (u v : Value) (hu : u = .int .u8 (x.toNat : Int)) (hv : v = .int .u8 (y.toNat : Int)) (b : Nat) (hb : b = w.heap.size) : BytesAt (w.alloc (.cells #[u, v] 5)) b 0 [x, y] := by
  intro i hi
  subst hu hv hb
  match i, hi with
  | 0, _ => simp
  | 1, _ => simp
theorem byte_of (n : Nat) : ((n : Int) % 256) = ((UInt8.ofNat n).toNat : Int) := by simp

set_option maxRecDepth 1000000 in
set_option maxHeartbeats 1600000 in
theorem addNumber_any (n : Nat) (l : List UInt8) (v : Value) (base : Nat) (w : World) (hn : n < 18446744073709551616) (hl : l.length ≤ 1000000) (hbase : base ≤ w.heap.size) (hown : Owns w base v l) :
    Calls Tryd.prog 27 #[v, .int .u64 n] w fun e w' => ∃ v', e = .returned v' ∧ Owns w' base v' (l ++ encNum n) ∧ Below base w w' := by
  have HO : Hid (Owns w base v l) := hown
  clear hown
  go_enter Tryd.func27, Tryd.ntmps27
  go_wp2
  go_loop [5] (fun x => ∃ s : Nat, x = .int .i64 s ∧ s ≤ 8 ∧ s + sz (8 - s) (n / 2 ^ (8 * s)) = sz 8 n) (fun x => 8 - (intOf x).toNat)
  case atStart => exact ⟨0, rfl, by omega, by simp⟩
  case round =>
    obtain ⟨s, rfl, hs, hrel⟩ := hrel
    have HR : Hid (s + sz (8 - s) (n / 2 ^ (8 * s)) = sz 8 n) := hrel
    clear hrel
    have ec : ((n : Int) / 2 ^ (8 * s)) = ((n / 2 ^ (8 * s) : Nat) : Int) := by simp
    by_cases hc : s < 8 ∧ 0 < n / 2 ^ (8 * s)
    · obtain ⟨h8, h0⟩ := hc
      have h0' : (0 : Int) < (n : Int) / 2 ^ (8 * s) := by rw [ec]; exact Int.ofNat_lt.mpr h0
      have H0 : Hid (0 < n / 2 ^ (8 * s)) := h0
      clear h0 ec
      go_wp2
      go_round
      case rel => exact ⟨s + 1, by go_num, by omega, by rw [← HR.out, sz_step s n h8 H0.out]; omega⟩
      case measure => simp [intOf]; omega
    · have HS : Hid (s = sz 8 n) := by
        show s = sz 8 n
        rw [← HR.out]
        by_cases h8 : s < 8
        · rw [Nat.eq_zero_of_not_pos (fun h => hc ⟨h8, h⟩), sz_zero]; rfl
        · rw [show 8 - s = 0 by omega]; rfl
      by_cases h8 : s < 8
      all_goals try (have hd : decide ((0 : Int) < (n : Int) / 2 ^ (8 * s)) = false := by rw [ec, decide_eq_false_iff_not]; exact fun h => hc ⟨h8, Int.ofNat_lt.mp h⟩)
      all_goals
        clear hc HR ec
        have HAL : Hid (Owns (w.alloc (.cells #[.int .u8 (s : Int)] 5)) base v l) := HO.out.alloc _
        go_wp2_with (at_builtin; refine wpList_add rfl (.tmp 18) (.tmp 21) rfl base v l rfl HAL.out w.heap.size 0 1 1 [UInt8.ofNat s] rfl rfl (one_bytes w (UInt8.ofNat s) _ (by rw [← byte_of]; congr 1; omega) _ rfl) (by simp; omega) (by simp; omega) ?_; intro v1 w1 hown1 hbel1 hnil1)
        have HO1 : Hid (Owns w1 base v1 (l ++ [UInt8.ofNat s])) := hown1
        have HB1 : Hid (Below base w w1) := ((Below.refl base w).alloc hbase _).trans hbel1
        have hb1 : base ≤ w1.heap.size := Nat.le_trans hbase HB1.out.size
        clear hown1 hbel1 hnil1 HO HAL
        go_wp2
        go_loopw [0, 6] (fun o i wr => ∃ (k : Nat) (d : List UInt8) (vo : Value), vo = o ∧ i = .int .i64 ((k : Int) - 1) ∧ k ≤ s ∧ d.length + k = s ∧ d ++ be n k = be n s ∧ Owns wr base vo (l ++ [UInt8.ofNat s] ++ d) ∧ Below base w wr) (fun _ i _ => (intOf i + 1).toNat)
        case atStart => exact ⟨s, [], _, rfl, by go_num, by omega, by simp, by simp, by simpa using HO1.out, HB1.out⟩
        case round =>
          obtain ⟨k, d, v0, rfl, rfl, hk, hd2, hbe, hown, hbel⟩ := hrel
          have HBE : Hid (d ++ be n k = be n s) := hbe
          have HOW : Hid (Owns wr base v0 (l ++ [UInt8.ofNat s] ++ d)) := hown
          have HBL : Hid (Below base w wr) := hbel
          clear hbe hown hbel
          by_cases hk0 : k = 0
          · subst hk0
            go_wp2
            go_ret
            refine ⟨_, rfl, ?_, HBL.out⟩
            have h := HOW.out
            have e := HBE.out
            simp only [be, List.append_nil] at e
            rw [e, HS.out, List.append_assoc] at h
            exact h
          · obtain ⟨j, rfl⟩ : ∃ j, k = j + 1 := ⟨k - 1, by omega⟩
            have ej : ((j + 1 : Nat) : Int) - 1 = (j : Int) := by omega
            obtain ⟨x, hx⟩ : ∃ x : UInt8, x = UInt8.ofNat (n / 2 ^ (8 * j)) := ⟨_, rfl⟩
            obtain ⟨X, hX⟩ : ∃ X : Nat, X = x.toNat := ⟨_, rfl⟩
            have eb : ((n : Int) / 2 ^ (8 * j) % 256) = (X : Int) := by rw [hX, hx, ← byte_of]; congr 1
            have HX : Hid (X = x.toNat) := hX
            have HX2 : Hid (x = UInt8.ofNat (n / 2 ^ (8 * j))) := hx
            clear hx hX
            have HAL2 : Hid (Owns (wr.alloc (.cells #[.int .u8 (X : Int)] 5)) base v0 (l ++ [UInt8.ofNat s] ++ d)) := HOW.out.alloc _
            have hbw : base ≤ wr.heap.size := Nat.le_trans hbase HBL.out.size
            rw [ej]
            go_wp2_with (at_builtin; refine wpList_add rfl (.tmp 29) (.tmp 35) rfl base v0 (l ++ [UInt8.ofNat s] ++ d) rfl HAL2.out wr.heap.size 0 1 1 [x] rfl rfl (one_bytes wr x _ (by rw [HX.out]) _ rfl) (by simp; omega) (by simp; omega) ?_; intro v2 w2 hown2 hbel2 hnil2)
            have HO2 : Hid (Owns w2 base v2 (l ++ [UInt8.ofNat s] ++ d ++ [x])) := hown2
            have HB2 : Hid (Below base w w2) := (HBL.out.alloc hbw _).trans hbel2
            clear hown2 hbel2 hnil2
            go_wp2
            go_roundw
            case rel =>
              refine ⟨j, d ++ [x], _, rfl, by go_num, by omega, by simp; omega, ?_, by rw [← List.append_assoc]; exact HO2.out, HB2.out⟩
              rw [← HBE.out, be, HX2.out, List.append_assoc]
              rfl
            case measure => simp [intOf]
end Go.Proofs.YtppmjdmdflcoiaaDoor
