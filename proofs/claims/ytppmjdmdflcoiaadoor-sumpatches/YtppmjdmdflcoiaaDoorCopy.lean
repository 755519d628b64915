/-
  'copy(dst, s)', s a text, as a law for the walk.
-/
import Derived.Test.YtppmjdmdflcoiaaDoorText
import Derived.Laws.CopyOwn
namespace Go.Proofs.YtppmjdmdflcoiaaDoor
open Go.ChangeShapes Go.WideShapes Go.ChangeAt Go.RowKit

theorem by8_cells (s : ByteArray) : (s.data.map fun b => Value.int .u8 (b.toNat : Int)).toList = (bl s).map by8 := by
  rw [Array.toList_map]; rfl
theorem run_copy_str {P : Program} (w : World) (dT sT ty elem : TypeId) (dp : Option Addr) (g o dLen dCap : Nat) (s : ByteArray) (cur : Array Value) (t : TypeId)
    (hu : P.underlying dT = some (.slice elem)) (hs : (P.info? elem).map (·.size) = some 1)
    (hg : w.heap[g]? = some (.cells cur t (0, 0))) (hle : s.size ≤ dLen) (hpos : 0 < s.size → dp = some ⟨g, o, none⟩) (hfit : o + s.size ≤ cur.size) :
    (Builtin.copy_ #[dT, sT] ty #[.slice dp dLen dCap, .string s]).run P w =
      .ok (goInt s.size) (if 0 < s.size then w.setRow g (cur.toList.take o ++ (bl s).map by8 ++ cur.toList.drop (o + ((bl s).map by8).length)).toArray else w) := by
  have hmin : Nat.min s.size dLen = s.size := Nat.min_eq_left hle
  have hlen : ((bl s).map by8).length = s.size := by rw [List.length_map, bl_length]
  cases hq : P.info? elem with
  | none => simp [hq] at hs
  | some i =>
    by_cases h0 : 0 < s.size
    · obtain rfl := hpos h0
      have hst := run_storeCells_at P g o t ((bl s).map by8) 0 cur w hg (by rw [hlen]; simpa using hfit) (by intro v hv; simp only [List.mem_map] at hv; obtain ⟨x, _, rfl⟩ := hv; rfl)
      simp only [Nat.add_zero] at hst
      simp [Builtin.copy_, run_underlying hu, Builtin.lenOf, Builtin.firstCells, sizeOf, typeInfo, hq, hmin, h0, by8_cells, -Array.toList_map]
      rw [List.take_of_length_le (by rw [hlen]; exact Nat.le_refl _), hst, List.append_assoc, hlen]
      rfl
    · have hz : s.size = 0 := by omega
      have hb : bl s = [] := List.eq_nil_of_length_eq_zero (by rw [bl_length]; exact hz)
      have hb' : (s.data.map fun b => Value.int .u8 (b.toNat : Int)).toList = [] := by rw [by8_cells, hb]; rfl
      cases dp with
      | none => simp [Builtin.copy_, run_underlying hu, Builtin.lenOf, Builtin.firstCells, sizeOf, typeInfo, hq, hmin, h0]
      | some a => simp [Builtin.copy_, run_underlying hu, Builtin.lenOf, Builtin.firstCells, sizeOf, typeInfo, hq, hmin, h0, hb', storeCells, -Array.toList_map]

theorem copy_str {P : Program} (w w0 : World) (B dT sT ty elem : TypeId) (dp : Option Addr) (g o dLen dCap : Nat) (s : ByteArray) (cur : List Value) (t : TypeId)
    (hu : P.underlying dT = some (.slice elem)) (hs : (P.info? elem).map (·.size) = some 1)
    (hg : w.heap[g]? = some (.cells cur.toArray t (0, 0))) (hle : s.size ≤ dLen) (hpos : 0 < s.size → dp = some ⟨g, o, none⟩) (hfit : o + s.size ≤ cur.length) (hb : Below B w0 w) (hBg : B ≤ g) :
    ∃ w', (Builtin.copy_ #[dT, sT] ty #[.slice dp dLen dCap, .string s]).run P w = .ok (goInt s.size) w' ∧ w'.heap[g]? = some (.cells (splice cur o ((bl s).map by8)).toArray t (0, 0)) ∧ Below B w0 w' := by
  have hrun := run_copy_str (P := P) w dT sT ty elem dp g o dLen dCap s cur.toArray t hu hs hg hle hpos (by simpa using hfit)
  by_cases h0 : 0 < s.size
  · rw [if_pos h0] at hrun
    refine ⟨_, hrun, ?_, below_setRow hb hBg _⟩
    have := setRow_heap w g _ (cur.take o ++ (bl s).map by8 ++ cur.drop (o + ((bl s).map by8).length)).toArray t _ hg
    simpa [splice] using this
  · rw [if_neg h0] at hrun
    refine ⟨_, hrun, ?_, hb⟩
    have hb' : bl s = [] := List.eq_nil_of_length_eq_zero (by rw [bl_length]; omega)
    rw [hb']
    simpa [splice] using hg
end Go.Proofs.YtppmjdmdflcoiaaDoor
