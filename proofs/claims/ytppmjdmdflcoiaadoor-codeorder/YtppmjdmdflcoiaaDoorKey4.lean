/-
  plain.CodeKey: the walk.
-/
import Derived.Test.YtppmjdmdflcoiaaDoorKey3
namespace Go.Proofs.YtppmjdmdflcoiaaDoor
open Go.ChangeShapes Go.WideShapes Go.ChangeAt Go.RowKit
set_option linter.unusedVariables false

theorem key_nil (ao : Option Addr) (cp : Nat) (w : World) : Calls Tryd.prog 22 #[.slice ao 0 cp] w (KeyPost [] w) := by
  go_enter Tryd.func22, Tryd.ntmps22
  go_wp2
  refine wp_loop_rounds 1 ?_
  rw [rounds_succ]
  go_wp2
  go_ret2
  exact keyPost_good rfl (owns_nil _ _) (Below.refl _ _)

/-- A slice of these parts. -/
def PSlice (w : World) (v : Value) (ps : List PartD) : Prop := (∃ b off cap, v = .slice (some ⟨b, off, none⟩) ps.length cap ∧ b < w.heap.size ∧ PartsAt w b off ps) ∨ (∃ ao cp, v = .slice ao 0 cp ∧ (ao = none → cp = 0) ∧ ps = [])
theorem PSlice.below {w w' : World} {v : Value} {ps : List PartD} (h : PSlice w v ps) (hb : Below w.heap.size w w') : PSlice w' v ps := by
  rcases h with ⟨b, off, cap, rfl, h1, h2⟩ | h
  · exact .inl ⟨b, off, cap, rfl, Nat.lt_of_lt_of_le h1 hb.size, h2.below hb h1⟩
  · exact .inr h

def CodeKeyPost (ps : List PartD) (w : World) (e : Ending) (w' : World) : Prop :=
  ∃ v, e = .returned (.tuple #[v, .int .i64 (keyErr ps)]) ∧ (keyErr ps = 0 → Owns w' w.heap.size v (encKey ps)) ∧ (keyErr ps ≠ 0 → v = .slice none 0 0) ∧ Below w.heap.size w w'
theorem ckp {ps : List PartD} {w w' : World} {v : Value} {c : Int} (hc : keyErr ps = c) (h1 : c = 0 → Owns w' w.heap.size v (encKey ps)) (h2 : c ≠ 0 → v = .slice none 0 0) (hb : Below w.heap.size w w') : CodeKeyPost ps w (.returned (.tuple #[v, .int .i64 c])) w' :=
  ⟨v, by rw [hc], fun e => h1 (hc.symm.trans e), fun e => h2 (fun h => e (hc.trans h)), hb⟩

theorem codeKey_of (ps : List PartD) (v : Value) (w : World) (h8 : ps.length ≤ 8) (hk : Calls Tryd.prog 22 #[v] w (KeyPost ps w)) (hg : ErrT w) : Calls Tryd.prog 13 #[v] w (CodeKeyPost ps w) := by
  have HG : Hid (ErrT w) := hg
  have HK : Hid (Calls Tryd.prog 22 #[v] w (KeyPost ps w)) := hk
  have HE : Hid (keyErr ps = errs ps) := if_neg (by omega)
  have hgz := hg.size
  clear hg hk
  go_enter Tryd.func13, Tryd.ntmps13
  go_wp2_with fail
  refine HK.out.mono ?_
  rintro e w1 ⟨u, rfl, ho, hb⟩
  have HO : Hid (errs ps = 0 → Owns w1 w.heap.size u (encKey ps)) := ho
  have HB : Hid (Below w.heap.size w w1) := hb
  have HG1 : Hid (ErrT w1) := HG.out.below hb hgz
  clear ho hb
  by_cases h0 : errs ps = 0
  · rw [h0, if_pos rfl, errV_zero]
    have H0 : Hid (errs ps = 0) := h0
    clear h0
    go_wp2_with (go_at_call 23; refine (number_nil _).mono ?_; rintro e w2 ⟨rfl, hb2⟩)
    go_ret2
    exact ckp (HE.out.trans H0.out) (fun _ => (HO.out H0.out).below hb2) (fun h => absurd rfl h) (HB.out.trans (hb2.mono HB.out.size))
  · rw [if_neg h0, errV_ne h0]
    have H0 : Hid (¬ errs ps = 0) := h0
    obtain ⟨c, hc⟩ : ∃ c, c = errs ps := ⟨_, rfl⟩
    rw [← hc]
    have HCC : Hid (c = errs ps) := hc
    clear h0 hc
    go_wp2_with (go_at_call 23; refine (number_errno c _ HG1.out).mono ?_; rintro e w2 ⟨rfl, hb2⟩)
    go_ret2
    exact ckp (HE.out.trans HCC.out.symm) (fun h => absurd (HCC.out.symm.trans h) H0.out) (fun _ => rfl) (HB.out.trans (hb2.mono HB.out.size))

theorem codeKey_many (n : Nat) (ps : List PartD) (b off cap : Nat) (w : World) (hn : 8 < n) (hps : ps.length = n) (hg : ErrT w) : Calls Tryd.prog 13 #[.slice (some ⟨b, off, none⟩) n cap] w (CodeKeyPost ps w) := by
  have HE : Hid (keyErr ps = 14) := if_pos (by omega)
  have hno := number_errno 14 w hg
  have hkm := key_many b off cap n w hn
  clear hg hps
  go_enter Tryd.func13, Tryd.ntmps13
  go_wp2_with (first | (go_at_call 22; refine hkm.mono ?_; rintro e w1 ⟨rfl, rfl⟩; clear hkm) | (go_at_call 23; refine hno.mono ?_; rintro e w2 ⟨rfl, hb2⟩; clear hno))
  go_ret2
  exact ckp HE.out (fun h => absurd h (by decide)) (fun _ => rfl) hb2

theorem codeKey_any (ps : List PartD) (v : Value) (w : World) (hps : PSlice w v ps) (hwf : ∀ p ∈ ps, p.wf) (hg : ErrT w) : Calls Tryd.prog 13 #[v] w (CodeKeyPost ps w) := by
  rcases hps with ⟨b, off, cap, rfl, h1, h2⟩ | ⟨ao, cp, rfl, _, rfl⟩
  · by_cases h8 : ps.length ≤ 8
    · exact codeKey_of ps _ w h8 (key_any ps b off cap w h8 hwf h1 h2) hg
    · exact codeKey_many ps.length ps b off cap w (by omega) rfl hg
  · exact codeKey_of [] _ w (by simp) (key_nil ao cp w) hg
end Go.Proofs.YtppmjdmdflcoiaaDoor
