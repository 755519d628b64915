/-
  The program's Mend and Find with their errors as numbers; pick.
-/
import Derived.Test.YtigaabhicjcbjafDoorN6
import Derived.Test.YtigaabhicjcbjafDoorD6b
import Derived.Test.YtigaabhicjcbjafDoorBkB
namespace Go.Proofs.YtigaabhicjcbjafDoor
open Go.ChangeShapes Go.WideShapes Go.ChangeAt Go.RowKit
set_option linter.unusedVariables false

set_option maxRecDepth 100000 in
theorem parityMend_any (L : List (List UInt8)) (v : Value) (level : Int) (w : World) (hT : ErrT w) (hl : L.length ≤ 1000000) (hp : ∀ b ∈ L, b.length ≤ 140737488355328) (hv : Pcs w.heap.size w v L) : Calls Tryd.prog 11 #[v, .int .i64 level] w (fun e w' => ∃ O, (mendErr L level = 0 → MendR L level O) ∧ PMPost (mendErr L level) O w e w') := by
  have HM := hid_mk (mend_any L v level w hl hp hv)
  have hgz := hT.size
  have HT := hid_mk hT
  obtain ⟨ao, cp, rfl⟩ := hv.shape
  clear hv hp hT
  unfold MendPost at HM
  obtain ⟨c, hc⟩ : ∃ c, c = mendErr L level := ⟨_, rfl⟩
  rw [← hc] at HM ⊢
  clear hc
  by_cases h0 : c = 0
  · subst h0
    go_enter Tryd.func11, Tryd.ntmps11
    go_wp2_with fail
    refine HM.out.mono ?_
    rintro e w1 ⟨u, rfl, hu, _, hb⟩
    obtain ⟨O, hO, hu⟩ := hu (by trivial)
    have HU := hid_mk hu
    have HO := hid_mk hO
    have HB := hid_mk hb
    clear hu hb hO
    go_wp2_with fail
    refine (number_nil w1).mono ?_
    rintro e w2 ⟨rfl, hb2⟩
    have HB2 := hid_mk hb2
    clear hb2
    go_wp2
    go_ret2
    exact ⟨O, fun _ => HO.out, u, rfl, by exact (HU.out.keep (fun b _ hb => HB2.out.block b hb)).mono (Nat.le_refl _) HB2.out.size, HB.out.trans (HB2.out.mono HB.out.size)⟩
  · go_enter Tryd.func11, Tryd.ntmps11
    go_wp2_with fail
    refine HM.out.mono ?_
    rintro e w1 ⟨u, rfl, _, hu, hb⟩
    have hu := hu h0
    subst hu
    rw [if_neg h0]
    have HB := hid_mk hb
    clear hb
    go_wp2_with fail
    refine (number_errno c w1 (HT.out.below HB.out hgz)).mono ?_
    rintro e w2 ⟨rfl, hb2⟩
    have HB2 := hid_mk hb2
    clear hb2
    go_wp2
    go_ret2
    exact ⟨[], fun h => absurd h h0, .slice none 0 0, rfl, by rw [if_neg h0]; exact .inl ⟨rfl, rfl⟩, HB.out.trans (HB2.out.mono HB.out.size)⟩
/-- What Find leaves. -/
def RFPost (L : List (List UInt8)) (level : Int) (w : World) (e : Ending) (w' : World) : Prop := ∃ r c : Int, e = .returned (.tuple #[.int .i64 r, .int .i64 c]) ∧ FindAll L level (partErr L level) r c ∧ Below w.heap.size w w'
set_option maxRecDepth 100000 in
theorem parityFind_any (L : List (List UInt8)) (v : Value) (level : Int) (w : World) (hT : ErrT w) (hl : L.length ≤ 1000000) (hp : ∀ b ∈ L, b.length ≤ 140737488355328) (hv : Pcs w.heap.size w v L) : Calls Tryd.prog 26 #[v, .int .i64 level] w (RFPost L level w) := by
  have HM := hid_mk (find_any L v level w hl hp hv)
  have hgz := hT.size
  have HT := hid_mk hT
  obtain ⟨ao, cp, rfl⟩ := hv.shape
  clear hv hp hT
  go_enter Tryd.func26, Tryd.ntmps26
  go_wp2_with fail
  refine HM.out.mono ?_
  rintro e w1 ⟨r, c, rfl, hF, hb⟩
  have HF := hid_mk hF
  have HB := hid_mk hb
  clear hF hb HM
  by_cases h0 : c = 0
  · subst h0
    rw [if_pos rfl]
    go_wp2_with fail
    refine (number_nil w1).mono ?_
    rintro e w2 ⟨rfl, hb2⟩
    have HB2 := hid_mk hb2
    clear hb2
    go_wp2
    go_ret2
    exact ⟨r, 0, rfl, HF.out, HB.out.trans (HB2.out.mono HB.out.size)⟩
  · rw [if_neg h0]
    go_wp2_with fail
    refine (number_errno c w1 (HT.out.below HB.out hgz)).mono ?_
    rintro e w2 ⟨rfl, hb2⟩
    have HB2 := hid_mk hb2
    clear hb2
    go_wp2
    go_ret2
    exact ⟨r, c, rfl, HF.out, HB.out.trans (HB2.out.mono HB.out.size)⟩
theorem tmod_facts (n : Int) (k : Nat) (hk : 0 < k) : (0 ≤ n.tmod k → n.tmod k = n % (k : Int)) ∧ (n.tmod k < 0 → n.tmod k + k = n % (k : Int)) ∧ -(k : Int) < n.tmod k ∧ n.tmod k < k := by
  have h1 := Int.tmod_eq_emod (a := n) (b := k)
  have h2 := Int.emod_nonneg n (b := (k : Int)) (by omega)
  have h3 := Int.emod_lt_of_pos n (b := (k : Int)) (by omega)
  have h4 : ((k : Int).natAbs : Int) = k := by omega
  split at h1 <;> omega

theorem pick_any (n : Int) (k : Nat) (hk : 0 < k) (hk2 : k ≤ 4611686018427387904) (h1 : -9223372036854775808 ≤ n) (h2 : n ≤ 9223372036854775807) (w : World) :
    Calls Tryd.prog 7 #[.int .i64 n, .int .i64 k] w fun e w' => e = .returned (.int .i64 (n % (k : Int))) ∧ w' = w := by
  obtain ⟨f1, f2, f3, f4⟩ := tmod_facts n k hk
  have hne : ((k : Int) == 0) = false := by simp; omega
  have hk0 : ¬ ((k : Int) = 0) := by omega
  by_cases hlt : n.tmod k < 0
  · have HE : Hid (n.tmod k + k = n % (k : Int)) := f2 hlt
    clear f1 f2
    go_enter Tryd.func7, Tryd.ntmps7
    go_wp2
    go_ret
    exact ⟨ret_int HE.out, rfl⟩
  · have HE : Hid (n.tmod k = n % (k : Int)) := f1 (by omega)
    clear f1 f2
    go_enter Tryd.func7, Tryd.ntmps7
    go_wp2
    go_ret
    exact ⟨ret_int HE.out, rfl⟩

end Go.Proofs.YtigaabhicjcbjafDoor
