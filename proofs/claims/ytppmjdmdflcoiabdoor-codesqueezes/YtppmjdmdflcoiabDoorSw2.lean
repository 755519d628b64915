/-
  plain.CodeSwell: the walk; bytes compared.
-/
import Derived.Test.YtppmjdmdflcoiabDoorSw1
namespace Go.Proofs.YtppmjdmdflcoiabDoor
open Go.ChangeShapes Go.WideShapes Go.ChangeAt Go.RowKit
set_option linter.unusedVariables false

/-- Bytes that are the same. -/
theorem same_owns (l : List UInt8) (base base' : Nat) (v v' : Value) (w : World) (h : Owns w base v l) (h' : Owns w base' v' l) : Calls Tryd.prog 9 #[v, v'] w fun e w' => e = .returned (.bool true) ∧ w' = w := by
  obtain ⟨ao, cp, rfl⟩ := h.shape
  obtain ⟨ao', cp', rfl⟩ := h'.shape
  have k1 := owns_text h
  have k2 := owns_text h'
  clear h h'
  go_enter Tryd.func9, Tryd.ntmps9
  go_wp2
  go_ret
  exact ⟨rfl, rfl⟩

/-- What CodeSwell and the document's Swell leave. -/
def CSPost (T : Int × List UInt8) (w : World) (e : Ending) (w' : World) : Prop :=
  ∃ v l, e = .returned (.tuple #[v, .int .i64 T.1]) ∧ l = (if T.1 = 0 then T.2 else []) ∧ Owns w' w.heap.size v l ∧ Below w.heap.size w w'
theorem csp_bad {T : Int × List UInt8} {w w' : World} {c : Int} (h : T.1 = c) (hc : c ≠ 0) (hb : Below w.heap.size w w') : CSPost T w (.returned (.tuple #[.slice none 0 0, .int .i64 c])) w' :=
  ⟨.slice none 0 0, [], by rw [h], by rw [h, if_neg hc], owns_nil _ _, hb⟩
theorem csp_good {T : Int × List UInt8} {w w' : World} {v : Value} {l : List UInt8} (h : T = (0, l)) (ho : Owns w' w.heap.size v l) (hb : Below w.heap.size w w') : CSPost T w (.returned (.tuple #[v, .int .i64 0])) w' :=
  ⟨v, l, by rw [h], by rw [h]; rfl, ho, hb⟩

theorem codeSwell_of (T : Int × List UInt8) (v : Value) (most : Int) (w : World) (hk : Calls Tryd.prog 13 #[v, .int .i64 most] w (SwPost T w)) (hg : ErrT w) : Calls Tryd.prog 6 #[v, .int .i64 most] w (CSPost T w) := by
  have HG : Hid (ErrT w) := hg
  have HK : Hid (Calls Tryd.prog 13 #[v, .int .i64 most] w (SwPost T w)) := hk
  have hgz := hg.size
  clear hg hk
  go_enter Tryd.func6, Tryd.ntmps6
  go_wp2_with fail
  refine HK.out.mono ?_
  rintro e w1 ⟨u, rfl, ho, hb⟩
  have HO : Hid (T.1 = 0 → Owns w1 w.heap.size u T.2) := ho
  have HB : Hid (Below w.heap.size w w1) := hb
  have HG1 : Hid (ErrT w1) := HG.out.below hb hgz
  clear ho hb
  by_cases h0 : T.1 = 0
  · rw [if_pos h0, if_pos h0]
    have H0 : Hid (T.1 = 0) := h0
    clear h0
    go_wp2_with (go_at_call 14; refine (number_nil _).mono ?_; rintro e w2 ⟨rfl, hb2⟩)
    go_ret2
    exact csp_good (Prod.ext H0.out rfl) ((HO.out H0.out).below hb2) (HB.out.trans (hb2.mono HB.out.size))
  · rw [if_neg h0, if_neg h0]
    have H0 : Hid (¬ T.1 = 0) := h0
    obtain ⟨c, hc⟩ : ∃ c, c = T.1 := ⟨_, rfl⟩
    rw [← hc]
    have HCC : Hid (c = T.1) := hc
    clear h0 hc
    go_wp2_with (go_at_call 14; refine (number_errno c _ HG1.out).mono ?_; rintro e w2 ⟨rfl, hb2⟩)
    go_ret2
    exact csp_bad HCC.out.symm (fun h => H0.out (HCC.out.symm.trans h)) (HB.out.trans (hb2.mono HB.out.size))

theorem swPost_neg (w : World) : SwPost (5, []) w (.returned (.tuple #[.slice none 0 0, .iface 24 (.int .i64 5)])) w := swPost_bad rfl (by decide) (Below.refl _ _)
theorem refSwell_neg (most : Int) (v : Value) (w : World) (h : most < 0) : Calls Tryd.prog 8 #[v, .int .i64 most] w (CSPost (5, []) w) := by
  go_enter Tryd.func8, Tryd.ntmps8
  go_wp2
  go_ret2
  exact csp_bad rfl (by decide) (Below.refl _ _)

/-- At any length that may be asked for. -/
def swellI (most : Int) (l : List UInt8) : Int × List UInt8 := if most < 0 then (5, []) else swell most.toNat l []
theorem codeSwell_any (l : List UInt8) (most : Int) (n B cap : Nat) (w : World) (hn : n = l.length) (hl : l.length ≤ 140737488355328) (hcap : l.length ≤ cap) (hM : most ≤ 1048576) (hB : B < w.heap.size) (hc : BytesAt w B 0 l) (hg : ErrT w) :
    Calls Tryd.prog 6 #[.slice (some ⟨B, 0, none⟩) n cap, .int .i64 most] w (CSPost (swellI most l) w) := by
  by_cases h : most < 0
  · refine codeSwell_of _ _ _ _ ?_ hg
    rw [swellI, if_pos h]
    refine (swell_neg most _ w h).mono ?_
    rintro e w' ⟨rfl, rfl⟩
    exact swPost_neg _
  · obtain ⟨M, rfl⟩ := Int.eq_ofNat_of_zero_le (show 0 ≤ most by omega)
    refine codeSwell_of _ _ _ _ ?_ hg
    rw [swellI, if_neg h]
    exact swell_any l n B cap M w hn hl hcap (by omega) hB hc
end Go.Proofs.YtppmjdmdflcoiabDoor
