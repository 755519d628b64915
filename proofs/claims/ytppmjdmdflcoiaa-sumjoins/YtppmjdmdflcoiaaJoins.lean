/-
  The walk of sum.Join; a text's bytes laid in new memory.
-/
import Derived.Test.YtppmjdmdflcoiaaSums
import Derived.Laws.IdiomStrings
namespace Go.Proofs.Ytppmjdmdflcoiaa
open Go.ChangeShapes Go.WideShapes Go.ChangeAt Go.RowKit

theorem join_nat (a b n : Nat) (ha : a < 4294967296) (hb : b < 4294967296) (h2 : n < 9223372036854775808) (w : World) :
    Calls Try.prog 4 #[.int .u32 a, .int .u32 b, .int .i64 n] w fun e w' => e = .returned (.int .u32 ((Crc.txn (8 * n) a ^^^ b : Nat) : Int)) ∧ w' = w := by
  have hn : ¬ (0 : Int) > (n : Int) := by omega
  go_enter Try.func4, Try.ntmps4
  go_wp2_with (go_at_call 6; refine (push_any a n ha h2 _).mono ?_; rintro e w' ⟨rfl, rfl⟩)
  go_ret
  exact ⟨ret_u32 (b_xor _ _ (Crc.txn_lt _ ha) hb), rfl⟩
theorem join_neg (a b : Nat) (n : Int) (ha : a < 4294967296) (hb : b < 4294967296) (h2 : n < 0) (w : World) :
    Calls Try.prog 4 #[.int .u32 a, .int .u32 b, .int .i64 n] w fun e w' => e = .returned (.int .u32 ((a ^^^ b : Nat) : Int)) ∧ w' = w := by
  have hn : (0 : Int) > n := h2
  go_enter Try.func4, Try.ntmps4
  go_wp2_with (go_at_call 6; refine (push_any a 0 ha (by omega) _).mono ?_; rintro e w' ⟨rfl, rfl⟩)
  go_ret
  exact ⟨ret_u32 (b_xor _ _ (Crc.txn_lt _ ha) hb), rfl⟩
/-- With fewer bytes than none as with none. -/
theorem join_any (a b : Nat) (n : Int) (ha : a < 4294967296) (hb : b < 4294967296) (h2 : n ≤ 0) (w : World) :
    Calls Try.prog 4 #[.int .u32 a, .int .u32 b, .int .i64 n] w fun e w' => e = .returned (.int .u32 ((a ^^^ b : Nat) : Int)) ∧ w' = w := by
  by_cases h : n < 0
  · exact join_neg a b n ha hb h w
  · obtain rfl : n = 0 := by omega
    exact join_nat a b 0 ha hb (by omega) w

/-- The bytes of a text. -/
abbrev bl (s : ByteArray) : List UInt8 := s.data.toList
theorem bl_length (s : ByteArray) : (bl s).length = s.size := by rw [bl, Array.length_toList, ByteArray.size]

/-- The room, and the world, behind a text's bytes that are laid in new memory. -/
def room (w : World) (s : ByteArray) : Nat := grownCap w s.size 0 5
def laidRow (w : World) (s : ByteArray) : Obj := .cells (bytesRow s (room w s)) 5 ((bytesRow s (room w s)).size, (bytesRow s (room w s)).size + 1)
def bw (w : World) (s : ByteArray) : World := w.drew.alloc (laidRow w s)
theorem bw_size (w : World) (s : ByteArray) : (bw w s).heap.size = w.heap.size + 1 := by
  show (w.heap.push _).size = _
  simp
theorem run_bw (w : World) (s : ByteArray) : (convert 9 25 (.string s)).run Try.prog w = .ok (.slice (some ⟨w.heap.size, 0, none⟩) s.size (room w s)) (bw w s) :=
  run_bytes_of_string (P := Try.prog) w 9 25 5 s Try.underlying9 Try.underlying25 Try.underlying5
theorem below_bw {B : Nat} {W w : World} (h : Below B W w) (hB : B ≤ w.heap.size) (s : ByteArray) : Below B W (bw w s) := Below.alloc (Below.drew h) hB _

theorem bw_cell (w : World) (s : ByteArray) (i : Nat) (hi : i < (bl s).length) :
    (bw w s).cell? ⟨w.heap.size, 0 + i, none⟩ = some (.int .u8 ((bl s)[i].toNat)) := by
  have h : (bw w s).heap[w.heap.size]? = some (laidRow w s) := by
    show (w.heap.push _)[w.heap.size]? = _
    simp
  have hs : i < s.size := by rw [← bl_length]; exact hi
  simp only [World.cell?, h, Nat.zero_add, laidRow]
  simp [bytesRow, hs, Array.getElem?_append]

theorem refSum_bw (s : ByteArray) (n b : Nat) (w : World) (hb : b = w.heap.size) (hn : n = s.size) (hl : s.size ≤ 4611686018427387904) :
    Calls Try.prog 5 #[.slice (some ⟨b, 0, none⟩) n (room w s)] (bw w s) fun e' w' => e' = .returned (.int .u32 (Crc.crc (bl s) : Nat)) ∧ w' = bw w s := by
  subst hn hb
  have h := refSum_any (bl s) w.heap.size 0 (room w s) (bw w s) (by rw [bl_length]; exact hl) (bw_cell w s)
  rwa [bl_length] at h

theorem bl_append (a b : ByteArray) : bl (a ++ b) = bl a ++ bl b := by simp [bl]
theorem join_texts (a b : ByteArray) (h : b.size < 9223372036854775808) (w : World) :
    Calls Try.prog 4 #[.int .u32 (Crc.crc (bl a) : Nat), .int .u32 (Crc.crc (bl b) : Nat), .int .i64 b.size] w fun e w' => e = .returned (.int .u32 (Crc.crc (bl (a ++ b)) : Nat)) ∧ w' = w := by
  have h := join_nat (Crc.crc (bl a)) (Crc.crc (bl b)) b.size (Crc.crc_lt _) (Crc.crc_lt _) h w
  rwa [← bl_length b, Crc.crc_join, ← bl_append, bl_length] at h

theorem sumJoins_walk (a0 a1 : ByteArray) (x y : Nat) (n : Int) (w0 : a0.size ≤ 2305843009213693952) (w1 : a1.size ≤ 2305843009213693952) (w2 : x < 4294967296) (w3 : y < 4294967296) (w4 : -9223372036854775808 ≤ n) (w5 : n ≤ 9223372036854775807) (w : World) :
    Calls Try.prog 3 #[.string a0, .string a1, .int .u32 x, .int .u32 y, .int .i64 n] w fun e w' => e = .returned (.bool true) ∧ Below w.heap.size w w' := by
  have kc := run_bw
  have ks := bw_size
  have hsum : ¬ (a0.size + a1.size > 9223372036854775807) := by omega
  go_enter Try.func3, Try.ntmps3
  go_wp2_with fail
  refine (refSum_bw a0 _ _ w (by simp) rfl (by omega)).mono ?_; rintro e w' ⟨rfl, rfl⟩
  go_wp2_with fail
  refine (refSum_bw a1 _ _ (bw w a0) (by simp [bw_size]) rfl (by omega)).mono ?_; rintro e w' ⟨rfl, rfl⟩
  go_wp2_with fail
  refine (join_texts a0 a1 (by omega) _).mono ?_; rintro e w' ⟨rfl, rfl⟩
  by_cases hn : n > 0
  all_goals
    go_wp2_with fail
    refine (refSum_bw (a0 ++ a1) _ _ (bw (bw w a0) a1) (by simp [bw_size]) (by simp) (by simp; omega)).mono ?_; rintro e w' ⟨rfl, rfl⟩
    go_wp2_with fail
    refine (join_any x y _ w2 w3 (by omega) _).mono ?_; rintro e w' ⟨rfl, rfl⟩
    go_wp2_with fail
    refine (join_any x y _ w2 w3 (by omega) _).mono ?_; rintro e w' ⟨rfl, rfl⟩
    go_wp2_with fail
    go_ret
    exact ⟨rfl, below_bw (below_bw (below_bw (Below.refl _ _) (by omega) _) (by simp [bw_size]) _) (by simp [bw_size]; omega) _⟩
end Go.Proofs.Ytppmjdmdflcoiaa
