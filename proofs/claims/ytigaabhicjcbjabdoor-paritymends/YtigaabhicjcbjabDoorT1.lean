/-
  Bytes doubled and added in place.
-/
import Derived.Test.YtigaabhicjcbjabDoorOwn
import Derived.Test.YtigaabhicjcbjabDoorVec
import Derived.Laws.BitsAllLaws
namespace Go.Proofs.YtigaabhicjcbjabDoor
open Go.ChangeShapes Go.WideShapes Go.ChangeAt Go.RowKit
set_option linter.unusedVariables false

theorem b8_xor (x y : UInt8) : bits .xor .u8 (x.toNat : Int) (y.toNat : Int) = ((x ^^^ y).toNat : Int) := by
  rw [UInt8.toNat_xor]; exact u8_xor_nat _ _ (u8_lt x) (u8_lt y)
theorem d_int (n : Nat) (h : n < 256) : bits .xor .u8 ((n : Int) * 2 % 256) ((n : Int) / 128 * 29) = ((Gf.d n : Nat) : Int) := by
  have e := u8_xor_nat (2 * n % 256) (n / 128 * 29) (by omega) (by omega)
  rw [show ((n : Int) * 2 % 256) = ((2 * n % 256 : Nat) : Int) by omega, show ((n : Int) / 128 * 29) = ((n / 128 * 29 : Nat) : Int) by omega]
  exact e
theorem double_any (x : UInt8) (w : World) : Calls Tryd.prog 70 #[.int .u8 (x.toNat : Int)] w fun e w' => e = .returned (.int .u8 ((dbl x).toNat : Int)) ∧ w' = w := by
  have hx := u8_lt x
  rw [dbl_toNat]
  generalize x.toNat = n at hx
  go_enter Tryd.func70, Tryd.ntmps70
  go_wp2
  go_ret
  exact ⟨ret_int (d_int n hx), rfl⟩

/-- A slice of bytes that reads as l, in a block of which S holds. -/
def RdS (S : Nat → Prop) (w : World) (v : Value) (l : List UInt8) : Prop := (v = .slice none 0 0 ∧ l = []) ∨ ∃ b off cp, v = .slice (some ⟨b, off, none⟩) l.length cp ∧ S b ∧ BytesAt w b off l
theorem RdS.mono {S T : Nat → Prop} {w : World} {v : Value} {l : List UInt8} (h : RdS S w v l) (hS : ∀ b, S b → T b) : RdS T w v l := by
  rcases h with h | ⟨b, off, cp, h1, h2, h3⟩
  · exact .inl h
  · exact .inr ⟨b, off, cp, h1, hS b h2, h3⟩
theorem RdS.keep {S : Nat → Prop} {w w' : World} {v : Value} {l : List UInt8} (h : RdS S w v l) (hk : ∀ b, S b → w'.heap[b]? = w.heap[b]?) : RdS S w' v l := by
  rcases h with h | ⟨b, off, cp, h1, h2, h3⟩
  · exact .inl h
  · exact .inr ⟨b, off, cp, h1, h2, fun i hi => (World.cell?_of_block (a := ⟨b, off + i, none⟩) (hk b h2)).trans (h3 i hi)⟩
theorem RdS.shape {S : Nat → Prop} {w : World} {v : Value} {l : List UInt8} (h : RdS S w v l) : ∃ ao cp, v = .slice ao l.length cp := by
  rcases h with ⟨rfl, rfl⟩ | ⟨b, off, cp, h1, _⟩
  · exact ⟨none, 0, rfl⟩
  · exact ⟨_, _, h1⟩
/-- .. in a block below n₀. -/
abbrev Rd (n₀ : Nat) (w : World) (v : Value) (l : List UInt8) : Prop := RdS (· < n₀) w v l
theorem RdS.below {n₀ B : Nat} {w w' : World} {v : Value} {l : List UInt8} (h : Rd n₀ w v l) (hb : Below B w w') (hB : n₀ ≤ B) : Rd n₀ w' v l := h.keep (fun b (hlt : b < n₀) => hb.block b (by omega))

theorem Part.get {w : World} {B cap n : Nat} {l : List UInt8} (h : Part w B cap n l) (k : Nat) (hk : k < l.length) : w.cell? ⟨B, k, none⟩ = some (.int .u8 (l[k].toNat : Int)) ∧ w.frozen? ⟨B, k, none⟩ = false := by
  obtain ⟨cur, h1, h2, h3⟩ := h
  have e : (cur.toList.take n)[k]? = some (by8 l[k]) := by rw [h3]; simp [hk]
  have hkn : k < n := by
    rcases Nat.lt_or_ge k n with h | h
    · exact h
    · rw [List.getElem?_eq_none (by simp; omega)] at e; cases e
  rw [List.getElem?_take_of_lt hkn] at e
  have e' : cur[k]? = some (by8 l[k]) := by simpa using e
  exact ⟨by simp [World.cell?, h1, e', by8], by simp [World.frozen?, h1]⟩
theorem Part.put {w : World} {B cap n : Nat} {l : List UInt8} (h : Part w B cap n l) (k : Nat) (x : UInt8) : Part (w.setCell ⟨B, k, none⟩ (.int .u8 (x.toNat : Int))) B cap n (l.set k x) := by
  obtain ⟨cur, h1, h2, h3⟩ := h
  refine ⟨_, heap_set w B k cur _ h1, by simpa using h2, ?_⟩
  rw [Array.toList_setIfInBounds, List.take_set, h3, List.map_set]
  rfl
theorem Part.lt {w : World} {B cap n : Nat} {l : List UInt8} (h : Part w B cap n l) : B < w.heap.size := by
  obtain ⟨cur, h1, _⟩ := h
  exact (Array.getElem?_eq_some_iff.1 h1).1
theorem Part.at {w : World} {B cap n : Nat} {l : List UInt8} (h : Part w B cap n l) : BytesAt w B 0 l := by
  intro i hi
  rw [Nat.zero_add]; exact (h.get i hi).1
theorem Part.keep {w w' : World} {B cap n : Nat} {l : List UInt8} (h : Part w B cap n l) (hk : w'.heap[B]? = w.heap[B]?) : Part w' B cap n l := by
  obtain ⟨cur, h1, h2⟩ := h
  exact ⟨cur, hk.trans h1, h2⟩
theorem vec_set (n k : Nat) (f : Nat → UInt8) (x : UInt8) : (vec n f).set k x = vec n (fun i => if i = k then x else f i) := by
  apply List.ext_getElem
  · simp [vec]
  · intro i h1 h2
    rw [List.getElem_set, vec_get, vec_get]
    by_cases h : k = i
    · simp [h]
    · simp [h, Ne.symm h]
/-- The first k by g, the others by f. -/
def upto (k : Nat) (g f : Nat → UInt8) : Nat → UInt8 := fun i => if i < k then g i else f i
theorem upto_zero (g f : Nat → UInt8) : upto 0 g f = f := by funext i; simp [upto]
theorem upto_all (n : Nat) (g f : Nat → UInt8) : vec n (upto n g f) = vec n g := vec_congr fun i hi => by simp [upto, hi]
theorem upto_set (n k : Nat) (g f : Nat → UInt8) : (vec n (upto k g f)).set k (g k) = vec n (upto (k + 1) g f) := by
  rw [vec_set]
  apply vec_congr
  intro i _
  simp only [upto]
  by_cases h : i = k
  · subst h; simp
  · have : (i < k + 1) ↔ (i < k) := by omega
    simp [h, this]
theorem upto_at (k : Nat) (g f : Nat → UInt8) : upto k g f k = f k := by simp [upto]

/-- What add leaves. -/
def AddPost (w : World) (B cap n : Nat) (l : List UInt8) (e : Ending) (w' : World) : Prop := (∃ v, e = .returned v) ∧ Part w' B cap n l ∧ w.grownBy w' (some B)

theorem add_some (l : List UInt8) (f : Nat → UInt8) (n N B cap b off cp : Nat) (w : World) (hN : N = n) (hn : n ≤ 140737488355328) (hp : Part w B cap n (vec n f)) (hl : l.length = n) (hne : b ≠ B) (hb : b < w.heap.size) (hc : BytesAt w b off l) :
    Calls Tryd.prog 55 #[.slice (some ⟨B, 0, none⟩) N cap, .slice (some ⟨b, off, none⟩) l.length cp] w (AddPost w B cap n (vec n (fun i => f i ^^^ at0 l i))) := by
  subst hN
  have HP : Hid (Part w B cap N (vec N f)) := hp
  have HC : Hid (BytesAt w b off l) := hc
  have HL : Hid (l.length = N) := hl
  clear hp hc hl
  go_enter Tryd.func55, Tryd.ntmps55
  go_wp2
  go_loopw [8] (fun i wr => ∃ k : Nat, i = .int .i64 k ∧ k ≤ N ∧ Part wr B cap N (vec N (upto k (fun i => f i ^^^ at0 l i) f)) ∧ w.grownBy wr (some B)) (fun i _ => N - (intOf i).toNat)
  case atStart => exact ⟨0, rfl, by omega, by rw [upto_zero]; exact HP.out, World.grownBy.refl _ _⟩
  case round =>
    obtain ⟨k, rfl, hk, hpr, hg⟩ := hrel
    have HG : Hid (w.grownBy wr (some B)) := hg
    have HR : Hid (Part wr B cap N (vec N (upto k (fun i => f i ^^^ at0 l i) f))) := hpr
    clear hg hpr HP
    have hll := HL.out
    by_cases hlt : k < N
    · have hg1 := HR.out.get k (by rw [vec_length]; exact hlt)
      rw [vec_get, upto_at] at hg1
      obtain ⟨c1, f1⟩ := hg1
      have c2 : wr.cell? ⟨b, off + k, none⟩ = some (.int .u8 ((at0 l k).toNat : Int)) := by
        rw [at0_lt (by omega)]
        exact (HC.out.grown hb HG.out hne) k (by omega)
      go_wp2
      go_roundw
      case rel =>
        refine ⟨k + 1, by go_num, by omega, ?_, grown_set HG.out _⟩
        rw [b8_xor, ← upto_set]
        exact HR.out.put k _
      case measure => simp [intOf]; omega
    · have hkn : k = N := by omega
      subst hkn
      go_wp2
      go_end0
      exact ⟨⟨_, rfl⟩, by rw [← upto_all _ _ f]; exact HR.out, HG.out⟩
theorem grown_trans {w w' w'' : World} {B : Nat} (h : w.grownBy w' (some B)) (h' : w'.grownBy w'' (some B)) : w.grownBy w'' (some B) :=
  ⟨h'.os.trans h.os, h'.tape.trans h.tape, h'.output.trans h.output, Nat.le_trans h.size h'.size, fun j hj hne => (h'.block j (Nat.lt_of_lt_of_le hj h.size) hne).trans (h.block j hj hne)⟩
theorem add_none (f : Nat → UInt8) (n N B cap : Nat) (ao : Option Addr) (cp : Nat) (w : World) (hN : N = n) (hp : Part w B cap n (vec n f)) :
    Calls Tryd.prog 55 #[.slice (some ⟨B, 0, none⟩) N cap, .slice ao 0 cp] w (AddPost w B cap n (vec n f)) := by
  have HP : Hid (Part w B cap n (vec n f)) := hp
  clear hp
  go_enter Tryd.func55, Tryd.ntmps55
  go_wp2
  refine wp_loop_rounds 1 ?_
  rw [rounds_succ]
  go_wp2
  go_end0
  exact ⟨⟨_, rfl⟩, HP.out, World.grownBy.refl _ _⟩
theorem add_any (l : List UInt8) (f : Nat → UInt8) (n N B cap : Nat) (v : Value) (w : World) (hN : N = n) (hn : n ≤ 140737488355328) (hp : Part w B cap n (vec n f)) (hl : l.length = 0 ∨ l.length = n) (hv : RdS (fun b => b ≠ B ∧ b < w.heap.size) w v l) :
    Calls Tryd.prog 55 #[.slice (some ⟨B, 0, none⟩) N cap, v] w (AddPost w B cap n (vec n (fun i => f i ^^^ at0 l i))) := by
  have hz : l.length = 0 → vec n (fun i => f i ^^^ at0 l i) = vec n f := by
    intro h
    have : l = [] := List.eq_nil_of_length_eq_zero h
    subst this
    exact vec_congr fun i _ => by rw [at0_nil, UInt8.xor_zero]
  rcases hv with ⟨rfl, rfl⟩ | ⟨b, off, cp, rfl, ⟨h1, h2⟩, h3⟩
  · rw [hz rfl]; exact add_none f n N B cap none 0 w hN hp
  · rcases hl with h0 | h0
    · rw [hz h0, h0]; exact add_none f n N B cap _ cp w hN hp
    · exact add_some l f n N B cap b off cp w hN hn hp h0 h1 h2 h3

theorem tdouble_any (f : Nat → UInt8) (n N B cap : Nat) (w : World) (hN : N = n) (hn : n ≤ 140737488355328) (hp : Part w B cap n (vec n f)) :
    Calls Tryd.prog 57 #[.slice (some ⟨B, 0, none⟩) N cap] w (AddPost w B cap n (vec n (fun i => dbl (f i)))) := by
  subst hN
  have HP : Hid (Part w B cap N (vec N f)) := hp
  clear hp
  go_enter Tryd.func57, Tryd.ntmps57
  go_wp2
  go_loopw [6] (fun i wr => ∃ k : Nat, i = .int .i64 k ∧ k ≤ N ∧ Part wr B cap N (vec N (upto k (fun i => dbl (f i)) f)) ∧ w.grownBy wr (some B)) (fun i _ => N - (intOf i).toNat)
  case atStart => exact ⟨0, rfl, by omega, by rw [upto_zero]; exact HP.out, World.grownBy.refl _ _⟩
  case round =>
    obtain ⟨k, rfl, hk, hpr, hg⟩ := hrel
    have HG : Hid (w.grownBy wr (some B)) := hg
    have HR : Hid (Part wr B cap N (vec N (upto k (fun i => dbl (f i)) f))) := hpr
    clear hg hpr HP
    by_cases hlt : k < N
    · have hg1 := HR.out.get k (by rw [vec_length]; exact hlt)
      rw [vec_get, upto_at] at hg1
      obtain ⟨c1, f1⟩ := hg1
      go_wp2_with (go_at_call 70; refine (double_any (f k) _).mono ?_; rintro e w' ⟨rfl, rfl⟩)
      go_roundw
      case rel =>
        refine ⟨k + 1, by go_num, by omega, ?_, grown_set HG.out _⟩
        rw [← upto_set]
        exact HR.out.put k _
      case measure => simp [intOf]; omega
    · have hkn : k = N := by omega
      subst hkn
      go_wp2
      go_end0
      exact ⟨⟨_, rfl⟩, by rw [← upto_all _ _ f]; exact HR.out, HG.out⟩
/-- Whether all bytes are 0. -/
theorem empty_any (f : Nat → UInt8) (n N B cap : Nat) (w : World) (hN : N = n) (hn : n ≤ 140737488355328) (hp : Part w B cap n (vec n f)) :
    Calls Tryd.prog 56 #[.slice (some ⟨B, 0, none⟩) N cap] w fun e w' => (∃ r : Bool, e = .returned (.bool r) ∧ (r = true ↔ ∀ i, i < n → f i = 0)) ∧ w' = w := by
  subst hN
  have HP : Hid (Part w B cap N (vec N f)) := hp
  clear hp
  go_enter Tryd.func56, Tryd.ntmps56
  go_wp2
  go_loopw [7] (fun i wr => ∃ k : Nat, i = .int .i64 k ∧ k ≤ N ∧ (∀ j, j < k → f j = 0) ∧ wr = w) (fun i _ => N - (intOf i).toNat)
  case atStart => exact ⟨0, rfl, by omega, fun j hj => by omega, rfl⟩
  case round =>
    obtain ⟨k, rfl, hk, hz, rfl⟩ := hrel
    have HZ : Hid (∀ j, j < k → f j = 0) := hz
    clear hz
    by_cases hlt : k < N
    · have hg1 := HP.out.get k (by rw [vec_length]; exact hlt)
      rw [vec_get] at hg1
      obtain ⟨c1, f1⟩ := hg1
      by_cases h0 : f k = 0
      · rw [h0] at c1
        have c1' : wr.cell? ⟨B, k, none⟩ = some (.int .u8 0) := c1
        have H0 : Hid (f k = 0) := h0
        clear c1 h0
        go_wp2
        go_roundw
        case rel => exact ⟨k + 1, by go_num, by omega, fun j hj => by
            by_cases h : j = k
            · rw [h]; exact H0.out
            · exact HZ.out j (by omega), trivial⟩
        case measure => simp [intOf]; omega
      · have h0' : ¬ (((f k).toNat : Int) = 0) := by
          intro h
          exact h0 (u8_ext (by show (f k).toNat = 0; omega))
        go_wp2
        go_ret
        exact ⟨⟨false, rfl, by simp; exact ⟨k, hlt, h0⟩⟩, rfl⟩
    · have hkn : k = N := by omega
      subst hkn
      go_wp2
      go_ret
      exact ⟨⟨true, rfl, by simp; exact HZ.out⟩, rfl⟩
theorem power_any (i : Nat) (hi : i ≤ 1000) (w : World) : Calls Tryd.prog 68 #[.int .i64 (i : Int)] w fun e w' => e = .returned (.int .u8 ((dbln i 1).toNat : Int)) ∧ w' = w := by
  go_enter Tryd.func68, Tryd.ntmps68
  go_wp2
  go_loopw [3, 5] (fun x j wr => ∃ k : Nat, x = .int .u8 ((dbln k 1).toNat : Int) ∧ j = .int .i64 k ∧ k ≤ i ∧ wr = w) (fun _ j _ => i - (intOf j).toNat)
  case atStart => exact ⟨0, rfl, rfl, by omega, rfl⟩
  case round =>
    obtain ⟨k, rfl, rfl, hk, rfl⟩ := hrel
    by_cases hlt : k < i
    · go_wp2_with (go_at_call 70; refine (double_any (dbln k 1) _).mono ?_; rintro e w' ⟨rfl, rfl⟩)
      go_roundw
      case rel => exact ⟨k + 1, rfl, by go_num, by omega, trivial⟩
      case measure => simp [intOf]; omega
    · have hkn : k = i := by omega
      subst hkn
      go_wp2
      go_ret
      exact ⟨rfl, rfl⟩
set_option maxRecDepth 100000 in
theorem inverse_any (m : Nat) (hm : m < 255) (w : World) : Calls Tryd.prog 67 #[.int .u8 ((dbln m 1).toNat : Int)] w fun e w' => e = .returned (.int .u8 ((dbln (255 - m) 1).toNat : Int)) ∧ w' = w := by
  go_enter Tryd.func67, Tryd.ntmps67
  go_wp2
  go_loopw [3, 4] (fun j x wr => ∃ k : Nat, x = .int .u8 ((dbln k 1).toNat : Int) ∧ j = .int .i64 k ∧ k ≤ m ∧ wr = w) (fun j _ _ => m - (intOf j).toNat)
  case atStart => exact ⟨0, rfl, rfl, by omega, rfl⟩
  case round =>
    obtain ⟨k, rfl, rfl, hk, rfl⟩ := hrel
    by_cases hlt : k < m
    · have hne : ¬ (((dbln k 1).toNat : Int) = ((dbln m 1).toNat : Int)) := by
        intro h
        have : k = m := power_inj (by omega) hm (u8_ext (by omega))
        omega
      have h255 : (k : Int) < 255 := by omega
      go_wp2_with (go_at_call 70; refine (double_any (dbln k 1) _).mono ?_; rintro e w' ⟨rfl, rfl⟩)
      go_roundw
      case rel => exact ⟨k + 1, rfl, by go_num, by omega, trivial⟩
      case measure => simp [intOf]; omega
    · have hkn : k = m := by omega
      subst hkn
      have hp := power_any (255 - k) (by omega) wr
      rw [show ((255 - k : Nat) : Int) = 255 - (k : Int) by omega] at hp
      go_wp2_with (go_at_call 68; refine hp.mono ?_; rintro e w' ⟨rfl, rfl⟩; clear hp)
      go_ret
      exact ⟨rfl, rfl⟩
end Go.Proofs.YtigaabhicjcbjabDoor
