/-
  'append(out, parts...)' as a law; CodeKeys: the walk.
-/
import Derived.Test.YtppmjdmdflcoiaaDoorCk0
namespace Go.Proofs.YtppmjdmdflcoiaaDoor
open Go.ChangeShapes Go.WideShapes Go.ChangeAt Go.RowKit
set_option linter.unusedVariables false

theorem flat_at {w : World} {b off : Nat} {ps : List PartD} (h : PartsAt w b off ps) : ∀ j u, (ps.flatMap partCells)[j]? = some u → w.cell? ((⟨b, off, none⟩ : Addr).add j) = some u := by
  intro j u hj
  have hl : j < ps.length * 3 := by rw [← partCells_length]; exact (List.getElem?_eq_some_iff.1 hj).1
  have hi : j / 3 < ps.length := by omega
  have f := flat_cells ps (j / 3) hi
  have c := h (j / 3) hi
  rw [add_at]
  obtain hr | hr | hr : j % 3 = 0 ∨ j % 3 = 1 ∨ j % 3 = 2 := by omega
  · have e : j = j / 3 * 3 := by omega
    rw [e, f.1] at hj
    rw [e, c.1, ← hj]
  · have e : j = j / 3 * 3 + 1 := by omega
    rw [e, f.2.1] at hj
    rw [e, ← Nat.add_assoc, c.2.1, ← hj]
  · have e : j = j / 3 * 3 + 2 := by omega
    rw [e, f.2.2] at hj
    rw [e, ← Nat.add_assoc, c.2.2, ← hj]
theorem flat_one (ps : List PartD) : ∀ u ∈ ps.flatMap partCells, u.oneCell' = true := by
  intro u hu
  simp only [List.mem_flatMap] at hu
  obtain ⟨p, _, hu⟩ := hu
  simp only [partCells, List.mem_cons, List.not_mem_nil, or_false] at hu
  rcases hu with rfl | rfl | rfl <;> rfl
theorem wpList_addPS {w : World} {ops : Array Oper} {rest : List Oper} {o : Oper} {a : Act} {Q : Exit → Act → World → Prop} (hgd : o.guard = none) (s x : Operand)
    (ho : o.op = .call { callee := .builtin .append, args := #[s, x], argTypes := #[30, 30] }) (base : Nat) (v : Value) (done : List PartD) (hs : a.eval s = v) (hown : POwns w base v done)
    (sv : Value) (news : List PartD) (hx : a.eval x = sv) (hsv : PSlice w sv news) (hb : (done.length + news.length) * 32 ≤ 140737488355328) (hbase : base ≤ w.heap.size)
    (h : ∀ v' w', POwns w' base v' (done ++ news) → Below base w w' → (v' = .slice none 0 0 → v = .slice none 0 0) → wpList Tryd.prog ops Q rest (a.put o.dst v') w') : wpList Tryd.prog ops Q (o :: rest) a w := by
  obtain ⟨i0, hi, hz0, hz1, hz2⟩ := info_parts Tryd.infoPart
  rcases hsv with ⟨b, off, cap, rfl, hbb, hc⟩ | ⟨ao, cp, rfl, hcp, rfl⟩
  · refine wpList_append_own w hgd s x 30 ho base 54 i0 _ 3 32 Tryd.underlying30 hi hz0 hz1 hz2 rfl (by decide) v done.length (done.flatMap partCells) hs hown ⟨b, off, none⟩ news.length cap (news.flatMap partCells) hx (partCells_length _) (flat_at hc) (flat_one _) (by unfold maxLen; omega) (by omega) hbase ?_
    intro v' w' h1 h2 h3
    refine h v' w' ?_ ((Below.refl base w).grown h2 hbase hown.block) (fun e => (h3.1 e).1)
    unfold POwns
    rw [List.length_append, List.flatMap_append]
    exact h1
  · cases ao with
    | some ad =>
      refine wpList_append_own w hgd s x 30 ho base 54 i0 _ 3 32 Tryd.underlying30 hi hz0 hz1 hz2 rfl (by decide) v done.length (done.flatMap partCells) hs hown ad 0 cp [] hx rfl (fun j u hj => by simp at hj) (fun u hu => by cases hu) (by unfold maxLen; simp at hb; omega) (by simp at hb; omega) hbase ?_
      intro v' w' h1 h2 h3
      refine h v' w' ?_ ((Below.refl base w).grown h2 hbase hown.block) (fun e => (h3.1 e).1)
      unfold POwns
      rw [List.append_nil]
      simpa using h1
    | none =>
     obtain rfl := hcp rfl
     refine wpList_append_own_none hgd s x 30 ho base 54 i0 3 Tryd.underlying30 hi v done.length (done.flatMap partCells) hs hown hx ?_
     exact h v w (by rw [List.append_nil]; exact hown) (Below.refl _ _) (fun e => e)

theorem lent_own (l : List UInt8) (v : Value) (base : Nat) (w : World) (hown : Owns w base v l) (hv : v ≠ .slice none 0 0) (hl : l.length ≤ 140737488355328) :
    Calls Tryd.prog 8 #[v] w fun e w' => e = .returned (.slice (some ⟨w.heap.size, 0, none⟩) l.length (l.length + 9)) ∧ Block w' w.heap.size (l ++ List.replicate 9 77) ∧ Below w.heap.size w w' := by
  obtain ⟨ao, cp, rfl⟩ := hown.shape
  cases ao with
  | none => exact absurd (by obtain ⟨rfl, _, rfl⟩ := hown.none; rfl) hv
  | some x =>
    obtain ⟨g, rfl, _, _, hg, _⟩ := hown.some
    exact lent_any l g 0 cp w hl hg hown.at
end Go.Proofs.YtppmjdmdflcoiaaDoor
