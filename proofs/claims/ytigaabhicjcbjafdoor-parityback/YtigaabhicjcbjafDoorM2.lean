/-
  parity.Make.
-/
import Derived.Test.YtigaabhicjcbjafDoorM1
import Derived.Test.YtigaabhicjcbjafDoorTell
namespace Go.Proofs.YtigaabhicjcbjafDoor
open Go.ChangeShapes Go.WideShapes Go.ChangeAt Go.RowKit
set_option linter.unusedVariables false

/-- A list of pieces that reads as L, all of it in blocks from lo on, and below hi. -/
def PcsR (lo hi : Nat) (w : World) (v : Value) (L : List (List UInt8)) : Prop := (v = .slice none 0 0 ∧ L = []) ∨ ∃ b off cp, v = .slice (some ⟨b, off, none⟩) L.length cp ∧ (lo ≤ b ∧ b < hi) ∧ L.length ≤ cp ∧ ∀ i (hi' : i < L.length), ∃ u, w.cell? ⟨b, off + i, none⟩ = some u ∧ RdS (fun x => lo ≤ x ∧ x < hi) w u L[i]
theorem PcsR.pcs {lo hi n : Nat} {w : World} {v : Value} {L : List (List UInt8)} (h : PcsR lo hi w v L) (hn : hi ≤ n) : Pcs n w v L := by
  rcases h with h | ⟨b, off, cp, e, hb, hcp, hc⟩
  · exact .inl h
  · exact .inr ⟨b, off, cp, e, by omega, hcp, fun i hi' => by obtain ⟨u, h1, h2⟩ := hc i hi'; exact ⟨u, h1, h2.mono (fun x hx => by show x < n; omega)⟩⟩
theorem PcsR.keep {lo hi : Nat} {w w' : World} {v : Value} {L : List (List UInt8)} (h : PcsR lo hi w v L) (hk : ∀ b, lo ≤ b → b < hi → w'.heap[b]? = w.heap[b]?) : PcsR lo hi w' v L := by
  rcases h with h | ⟨b, off, cp, e, hb, hcp, hc⟩
  · exact .inl h
  · exact .inr ⟨b, off, cp, e, hb, hcp, fun i hi' => by obtain ⟨u, h1, h2⟩ := hc i hi'; exact ⟨u, (World.cell?_of_block (a := ⟨b, off + i, none⟩) (hk b hb.1 hb.2)).trans h1, h2.keep (fun x hx => hk x hx.1 hx.2)⟩⟩
theorem PcsR.mono {lo hi lo' hi' : Nat} {w : World} {v : Value} {L : List (List UInt8)} (h : PcsR lo hi w v L) (h1 : lo' ≤ lo) (h2 : hi ≤ hi') : PcsR lo' hi' w v L := by
  rcases h with h | ⟨b, off, cp, e, hb, hcp, hc⟩
  · exact .inl h
  · exact .inr ⟨b, off, cp, e, by omega, hcp, fun i hi' => by obtain ⟨u, h3, h4⟩ := hc i hi'; exact ⟨u, h3, h4.mono (fun x hx => ⟨by omega, by omega⟩)⟩⟩
theorem sowns_pcsR {w : World} {base : Nat} {v : Value} {vs : List Value} {M : List (List UInt8)} (h : SOwns w base v vs) (hl : vs.length = M.length) (hr : ∀ i (h1 : i < vs.length) (h2 : i < M.length), RdS (fun x => base ≤ x ∧ x < w.heap.size) w vs[i] M[i]) : PcsR base w.heap.size w v M := by
  obtain ⟨ao, cp, rfl⟩ := h.shape
  cases M with
  | nil =>
    rcases h.2 with ⟨e, _⟩ | ⟨g, c, cur, h3, hb, h5, h6, h7, h8, h9⟩
    · exact .inl ⟨e, rfl⟩
    · simp at h3
      refine .inr ⟨g, 0, cp, by rw [h3.1, hl], ⟨hb, (Array.getElem?_eq_some_iff.1 h5).1⟩, by simp, fun i hi => by simp at hi⟩
  | cons a M =>
    obtain ⟨g, rfl, hg, hgw, hcp, hc⟩ := h.get 0 (by rw [hl]; exact Nat.zero_lt_succ _)
    refine .inr ⟨g, 0, cp, by rw [hl], ⟨hg, hgw⟩, by omega, fun i hi => ?_⟩
    obtain ⟨g', e, _, _, _, hc'⟩ := h.get i (by omega)
    cases e
    exact ⟨vs[i]'(by omega), by rw [Nat.zero_add]; exact hc', hr i (by omega) hi⟩
theorem Part.rd {w : World} {B cap n : Nat} {l : List UInt8} (h : Part w B cap n l) (hn : n = l.length) (c base : Nat) (hb : base ≤ B) : RdS (fun x => base ≤ x ∧ x < w.heap.size) w (.slice (some ⟨B, 0, none⟩) n c) l := .inr ⟨B, 0, c, by rw [hn], ⟨hb, h.lt⟩, h.at⟩
def makeErr (L : List (List UInt8)) (level : Int) : Int := haveI := decEven L; if level < 0 ∨ 2 < level then 5 else if ((1 ≤ L.length ∧ L.length ≤ 16) ∧ Even L) ∧ lostN L = 0 then 0 else 10
def makeL (L : List (List UInt8)) (level : Int) : List (List UInt8) := [vec (szOf L) (colP L), vec (szOf L) (colQ 0 L)].take level.toNat
/-- What Make leaves. -/
def MakePost (err : Int) (M : List (List UInt8)) (w : World) (e : Ending) (w' : World) : Prop :=
  ∃ v, e = .returned (.tuple #[v, if err = 0 then .nilIface else .iface 29 (.int .i64 err)]) ∧ PcsR w.heap.size w'.heap.size w' v (if err = 0 then M else []) ∧ Below w.heap.size w w'
theorem makePost_bad {err c : Int} {M : List (List UInt8)} {w w' : World} (h : err = c) (hc : c ≠ 0) (hb : Below w.heap.size w w') : MakePost err M w (.returned (.tuple #[.slice none 0 0, .iface 29 (.int .i64 c)])) w' :=
  ⟨.slice none 0 0, by rw [h, if_neg hc], by rw [h, if_neg hc]; exact .inl ⟨rfl, rfl⟩, hb⟩
theorem makePost_good {err : Int} {M : List (List UInt8)} {w w' : World} {v : Value} (h : err = 0) (hp : PcsR w.heap.size w'.heap.size w' v M) (hb : Below w.heap.size w w') : MakePost err M w (.returned (.tuple #[v, .nilIface])) w' :=
  ⟨v, by rw [h, if_pos rfl], by rw [h, if_pos rfl]; exact hp, hb⟩
theorem made_any (L : List (List UInt8)) (v : Value) (level : Int) (w : World) (hl : L.length ≤ 1000000) (h0 : 0 ≤ level) (h2 : level ≤ 2) (hv : Pcs w.heap.size w v L) (he : Even L) : Calls Tryd.prog 40 #[v, .int .i64 level] w fun e w' => ∃ u, e = .returned u ∧ PcsR w.heap.size w'.heap.size w' u (makeL L level) ∧ Below w.heap.size w w' := by
  obtain rfl | rfl | rfl : level = 0 ∨ level = 1 ∨ level = 2 := by omega
  · exact (made_0 v w).mono fun e w' ⟨h, hw⟩ => ⟨_, h, .inl ⟨rfl, rfl⟩, by rw [hw]; exact Below.refl _ _⟩
  · refine (made_1 L v w hl hv he).mono fun e w' ⟨u, B, h1, h2, h3, h4, h5⟩ => ⟨u, h1, ?_, h5⟩
    refine sowns_pcsR h2 rfl fun i h1 h2 => ?_
    obtain rfl : i = 0 := by simpa using h1
    exact h4.rd (vec_length _ _).symm _ _ h3
  · refine (made_2 L v w hl hv he).mono fun e w' ⟨u, B, C, h1, h2, h3, h4, h5, h6, h7⟩ => ⟨u, h1, ?_, h7⟩
    refine sowns_pcsR h2 rfl fun i h1 h2 => ?_
    match i, h1 with
    | 0, _ => exact h5.rd (vec_length _ _).symm _ _ h3
    | 1, _ => exact h6.rd (vec_length _ _).symm _ _ (by omega)
set_option maxRecDepth 100000 in
theorem make_any (L : List (List UInt8)) (v : Value) (level : Int) (w : World) (hl : L.length ≤ 1000000) (hp : ∀ b ∈ L, b.length ≤ 140737488355328) (hv : Pcs w.heap.size w v L) : Calls Tryd.prog 23 #[v, .int .i64 level] w (MakePost (makeErr L level) (makeL L level) w) := by
  by_cases h1 : level < 0
  · have he : makeErr L level = 5 := by unfold makeErr; rw [if_pos (.inl h1)]
    have HE := hid_mk he
    clear he
    go_enter Tryd.func23, Tryd.ntmps23
    go_wp2
    go_ret2
    exact makePost_bad HE.out (by decide) (Below.refl _ _)
  · by_cases h2 : 2 < level
    · have he : makeErr L level = 5 := by unfold makeErr; rw [if_pos (.inr h2)]
      have HE := hid_mk he
      clear he
      go_enter Tryd.func23, Tryd.ntmps23
      go_wp2
      go_ret2
      exact makePost_bad HE.out (by decide) (Below.refl _ _)
    · have HF := hid_mk (fit_any L w.heap.size v w (by omega) hv hp)
      have HLo := hid_mk (lost_any L w.heap.size v w hl (Nat.le_refl _) hv)
      obtain ⟨ao, cp, rfl⟩ := hv.shape
      by_cases hf : (1 ≤ L.length ∧ L.length ≤ 16) ∧ Even L
      · rw [@decide_eq_true _ (@instDecidableAnd _ _ instDecidableAnd (decEven L)) hf] at HF
        by_cases h0 : lostN L = 0
        · have he : makeErr L level = 0 := by unfold makeErr; rw [if_neg (by omega), if_pos ⟨hf, h0⟩]
          have HE := hid_mk he
          have HM : Hid (∀ w', Below w.heap.size w w' → Calls Tryd.prog 40 #[.slice ao L.length cp, .int .i64 level] w' fun e w'' => ∃ u, e = .returned u ∧ PcsR w'.heap.size w''.heap.size w'' u (makeL L level) ∧ Below w'.heap.size w' w'') := fun w' hb => made_any L _ level w' hl (by omega) (by omega) ((hv.below hb (Nat.le_refl _)).mono hb.size) hf.2
          rw [h0] at HLo
          clear he hv hp hf h0
          go_enter Tryd.func23, Tryd.ntmps23
          go_wp2_with fail
          refine HF.out.mono ?_
          rintro e w1 ⟨rfl, rfl⟩
          go_wp2_with fail
          refine HLo.out.mono ?_
          rintro e w2 ⟨rfl, hb2⟩
          have HB2 := hid_mk hb2
          clear hb2
          go_wp2_with fail
          refine (HM.out w2 HB2.out).mono ?_
          rintro e w3 ⟨u, rfl, hu, hb3⟩
          have HU := hid_mk hu
          have HB3 := hid_mk (HB2.out.trans (hb3.mono HB2.out.size))
          clear hu hb3
          go_wp2
          go_ret2
          exact makePost_good HE.out (HU.out.mono HB2.out.size (Nat.le_refl _)) HB3.out
        · have he : makeErr L level = 10 := by unfold makeErr; rw [if_neg (by omega), if_neg (fun h => h0 h.2)]
          have HE := hid_mk he
          have h0' : (0 : Int) < (lostN L : Int) := by omega
          clear he hv hp hf
          go_enter Tryd.func23, Tryd.ntmps23
          go_wp2_with fail
          refine HF.out.mono ?_
          rintro e w1 ⟨rfl, rfl⟩
          go_wp2_with fail
          refine HLo.out.mono ?_
          rintro e w2 ⟨rfl, hb2⟩
          have HB2 := hid_mk hb2
          clear hb2
          go_wp2
          go_ret2
          exact makePost_bad HE.out (by decide) HB2.out
      · rw [@decide_eq_false _ (@instDecidableAnd _ _ instDecidableAnd (decEven L)) hf] at HF
        have he : makeErr L level = 10 := by unfold makeErr; rw [if_neg (by omega), if_neg (fun h => hf h.1)]
        have HE := hid_mk he
        clear he hv hp hf
        go_enter Tryd.func23, Tryd.ntmps23
        go_wp2_with fail
        refine HF.out.mono ?_
        rintro e w1 ⟨rfl, rfl⟩
        go_wp2
        go_ret2
        exact makePost_bad HE.out (by decide) (Below.refl _ _)
/-- What plain.ParityMake leaves. -/
def PMPost (err : Int) (M : List (List UInt8)) (w : World) (e : Ending) (w' : World) : Prop :=
  ∃ v, e = .returned (.tuple #[v, .int .i64 err]) ∧ PcsR w.heap.size w'.heap.size w' v (if err = 0 then M else []) ∧ Below w.heap.size w w'
theorem parityMake_any (L : List (List UInt8)) (v : Value) (level : Int) (w : World) (hT : ErrT w) (hl : L.length ≤ 1000000) (hp : ∀ b ∈ L, b.length ≤ 140737488355328) (hv : Pcs w.heap.size w v L) : Calls Tryd.prog 9 #[v, .int .i64 level] w (PMPost (makeErr L level) (makeL L level) w) := by
  have HM := hid_mk (make_any L v level w hl hp hv)
  have hgz := hT.size
  have HT := hid_mk hT
  obtain ⟨ao, cp, rfl⟩ := hv.shape
  clear hv hp hT
  obtain ⟨c, hc⟩ : ∃ c, c = makeErr L level := ⟨_, rfl⟩
  obtain ⟨M, hM⟩ : ∃ M, M = makeL L level := ⟨_, rfl⟩
  rw [← hc, ← hM] at HM ⊢
  clear hc hM
  by_cases h0 : c = 0
  · subst h0
    go_enter Tryd.func9, Tryd.ntmps9
    go_wp2_with fail
    refine HM.out.mono ?_
    rintro e w1 ⟨u, rfl, hu, hb⟩
    have HU := hid_mk hu
    have HB := hid_mk hb
    clear hu hb
    go_wp2_with fail
    refine (number_nil w1).mono ?_
    rintro e w2 ⟨rfl, hb2⟩
    have HB2 := hid_mk hb2
    clear hb2
    go_wp2
    go_ret2
    exact ⟨u, rfl, (HU.out.keep (fun b _ hb => HB2.out.block b hb)).mono (Nat.le_refl _) HB2.out.size, HB.out.trans (HB2.out.mono HB.out.size)⟩
  · go_enter Tryd.func9, Tryd.ntmps9
    go_wp2_with fail
    refine HM.out.mono ?_
    rintro e w1 ⟨u, rfl, hu, hb⟩
    rw [if_neg h0] at hu ⊢
    have HU := hid_mk hu
    have HB := hid_mk hb
    clear hu hb
    go_wp2_with fail
    refine (number_errno c w1 (HT.out.below HB.out hgz)).mono ?_
    rintro e w2 ⟨rfl, hb2⟩
    have HB2 := hid_mk hb2
    clear hb2
    go_wp2
    go_ret2
    exact ⟨u, rfl, by rw [if_neg h0]; exact (HU.out.keep (fun b _ hb => HB2.out.block b hb)).mono (Nat.le_refl _) HB2.out.size, HB.out.trans (HB2.out.mono HB.out.size)⟩
end Go.Proofs.YtigaabhicjcbjafDoor
