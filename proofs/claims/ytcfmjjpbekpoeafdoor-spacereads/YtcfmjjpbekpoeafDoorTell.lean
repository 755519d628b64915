/-
  api.Tell and plain.number: an error's number.
-/
import Derived.Test.YtcfmjjpbekpoeafDoorAs
namespace Go.Proofs.YtcfmjjpbekpoeafDoor
open Go.RowKit Go.Extern.Stop Go.Stop Go.Extern

/-- package errors' own variable holds the type 'error'. -/
def ErrT (w : World) : Prop := w.cell? ⟨2, 0, none⟩ = some (.iface 146 (.agg #[.pointer (some ⟨3, 63, none⟩)]))
theorem ErrT.size {w : World} (h : ErrT w) : 2 < w.heap.size := by
  rcases Nat.lt_or_ge 2 w.heap.size with h1 | h1
  · exact h1
  · unfold ErrT at h
    simp [World.cell?, Array.getElem?_eq_none h1] at h
theorem ErrT.below {w w' : World} {B : Nat} (h : ErrT w) (hb : Below B w w') (hB : 2 < B) : ErrT w' := (hb.cell (p := ⟨2, 0, none⟩) hB).trans h

theorem tell_nil (w : World) : Calls Tryd.prog 41 #[.nilIface] w fun e w' => e = .returned (.int .i64 0) ∧ Below w.heap.size w w' := by
  go_enter Tryd.func41, Tryd.ntmps41
  go_wp2
  go_ret
  exact ⟨rfl, (Below.refl _ _).alloc (Nat.le_refl _) _⟩

theorem tell_errno (c : Int) (w : World) (hg : ErrT w) : Calls Tryd.prog 41 #[.iface 29 (.int .i64 c)] w fun e w' => e = .returned (.int .i64 c) ∧ Below w.heap.size w w' := by
  have hz := hg.size
  have h1 : (w.alloc (.cells #[.int .i64 0] 29)).cell? ⟨2, 0, none⟩ = some (.iface 146 (.agg #[.pointer (some ⟨3, 63, none⟩)])) := by
    rw [World.cell?_alloc_lt _ _ ⟨2, 0, none⟩ hz]; exact hg
  have ha := as_hit c ⟨w.heap.size, 0, none⟩ (.int .i64 0) (w.alloc (.cells #[.int .i64 0] 29)) h1 (by simp) (by simp)
  clear hg h1
  go_enter Tryd.func41, Tryd.ntmps41
  go_wp2_with (go_at_call 64; refine ha.mono ?_; rintro e w' ⟨rfl, rfl⟩; clear ha)
  go_ret
  exact ⟨rfl, (((((Below.refl _ _).alloc (Nat.le_refl _) _).alloc (by simp) _).alloc (by simp; omega) _).alloc (by simp; omega) _).alloc (by simp; omega) _⟩

theorem number_nil (w : World) : Calls Tryd.prog 24 #[.nilIface] w fun e w' => e = .returned (.int .i64 0) ∧ Below w.heap.size w w' := by
  go_enter Tryd.func24, Tryd.ntmps24
  go_wp2_with (go_at_call 41; refine (tell_nil _).mono ?_; rintro e w' ⟨rfl, hb⟩)
  go_ret
  exact ⟨rfl, by assumption⟩
theorem number_errno (c : Int) (w : World) (hg : ErrT w) : Calls Tryd.prog 24 #[.iface 29 (.int .i64 c)] w fun e w' => e = .returned (.int .i64 c) ∧ Below w.heap.size w w' := by
  have ht := tell_errno c w hg
  clear hg
  go_enter Tryd.func24, Tryd.ntmps24
  go_wp2_with (go_at_call 41; refine ht.mono ?_; rintro e w' ⟨rfl, hb⟩; clear ht)
  go_ret
  exact ⟨rfl, by assumption⟩
end Go.Proofs.YtcfmjjpbekpoeafDoor
