/-
  The document's own finding, at all columns; lists whose rows lie apart.
-/
import Derived.Test.YtigaabhicjcbjabDoorF4
import Derived.Test.YtigaabhicjcbjabDoorN4
import Derived.Deep.AppendLies
namespace Go.Proofs.YtigaabhicjcbjabDoor
open Go.ChangeShapes Go.WideShapes Go.ChangeAt Go.RowKit
set_option linter.unusedVariables false

/-- What is looked at: Q is left out where P tells all. -/
def useOf (L : List (List UInt8)) (n lv : Nat) : List (List UInt8) := if lostN (L.take n) = 1 ∧ lv = 2 ∧ 0 < (pOf L n).length then L.set (n + 1) [] else L
theorem useOf_len (L : List (List UInt8)) (n lv : Nat) : (useOf L n lv).length = L.length := by unfold useOf; split <;> simp
theorem useOf_take (L : List (List UInt8)) (n lv : Nat) : (useOf L n lv).take n = L.take n := by
  unfold useOf
  split
  · rw [List.take_set]
    apply List.set_eq_of_length_le
    rw [List.length_take]; omega
  · rfl
theorem useOf_mem (L : List (List UInt8)) (n lv sz : Nat) (h : ∀ b ∈ L, b.length = 0 ∨ b.length = sz) : ∀ b ∈ useOf L n lv, b.length = 0 ∨ b.length = sz := by
  intro b hb
  unfold useOf at hb
  split at hb
  · rcases List.mem_or_eq_of_mem_set hb with h1 | h1
    · exact h b h1
    · left; rw [h1]; rfl
  · exact h b hb
theorem useOf_p (L : List (List UInt8)) (n lv : Nat) : (useOf L n lv).getD n [] = pOf L n := by
  unfold useOf pOf
  split
  · rw [List.getD_eq_getElem?_getD, List.getElem?_set_ne (by omega)]; rfl
  · rfl
theorem found_any (L O : List (List UInt8)) (n lv i sz : Nat) (v : Value) (w : World) (hn : L.length = n + lv) (hlv : lv ≤ 2) (hn16 : n ≤ 16) (hsz : sz ≤ 4096) (hi : i < sz) (hp : ∀ b ∈ L, b.length = 0 ∨ b.length = sz) (hlost : lostN L ≤ lv) (hM : Mended (L.take n) sz (pOf L n) (qOf L n) O) (hv : Pcs w.heap.size w v (useOf L n lv)) :
    Calls Tryd.prog 33 #[v, .int .i64 (lv : Int), .int .i64 (i : Int)] w (FoundPost (fillOf (L.take n) O i) w) := by
  have hs := lost_split (L := L) n
  have hDl : (L.take n).length ≤ 16 := by rw [List.length_take]; omega
  match hg : gaps 0 (L.take n) with
  | [] =>
    have h0 : lostN (L.take n) = 0 := by unfold lostN; rw [hg]; rfl
    have hf : fillOf (L.take n) O i = [] := by unfold fillOf; rw [hg]; rfl
    rw [hf]
    exact found_0 (useOf L n lv) n lv i v w (by rw [useOf_len]; exact hn) hlv hn16 (by rw [useOf_take]; exact h0) hv
  | [g] =>
    have h1 : lostN (L.take n) = 1 := by unfold lostN; rw [hg]; rfl
    have hf : fillOf (L.take n) O i = [at0 (O.getD g []) i] := by unfold fillOf; rw [hg]; rfl
    rw [hf]
    refine found_1 (useOf L n lv) n lv i sz (at0 (O.getD g []) i) v w (by rw [useOf_len]; exact hn) hlv hn16 hsz hi (useOf_mem L n lv sz hp) (by rw [useOf_take]; exact h1) hv (fun x => ?_)
    rw [useOf_take]
    refine fit_one hM hg hDl hi (fun hp0 => ?_) (fun hp0 => ?_) hlv x
    · have hlv1 : 1 ≤ lv := by omega
      refine ⟨hlv1, useOf_p L n lv, fun h2 => ?_⟩
      unfold useOf
      rw [if_pos ⟨h1, by omega, by omega⟩, List.getD_eq_getElem?_getD, List.getElem?_set_self (by omega)]; rfl
    · have hlv2 : lv = 2 := by
        rcases Nat.lt_or_ge lv 2 with h | h
        · obtain rfl : lv = 1 := by omega
          rw [drop_1 hn, lostN_one, if_pos hp0] at hs
          omega
        · omega
      subst hlv2
      rw [drop_2 hn, lostN_two, if_pos hp0] at hs
      have hu : useOf L n 2 = L := by unfold useOf; rw [if_neg (fun h => by omega)]
      refine ⟨rfl, useOf_p L n 2, by rw [hu]; rfl, fun hq0 => by rw [if_pos hq0] at hs; omega⟩
  | [g, h] =>
    have h1 : lostN (L.take n) = 2 := by unfold lostN; rw [hg]; rfl
    obtain rfl : lv = 2 := by omega
    rw [drop_2 hn, lostN_two] at hs
    have hp0 : (pOf L n).length ≠ 0 := fun h => by rw [if_pos h] at hs; omega
    have hq0 : (qOf L n).length ≠ 0 := fun h => by rw [if_pos h] at hs; omega
    have hu : useOf L n 2 = L := by unfold useOf; rw [if_neg (fun h => by omega)]
    rw [hu] at hv
    have hft := fun x => fit_two (U := L) (n := n) hM hg hDl hi rfl rfl hq0 x
    have hf : fillOf (L.take n) O i = [at0 (O.getD g []) i, at0 (O.getD g []) i ^^^ at0 (pOf L n) i ^^^ colP (L.take n) i] := by
      unfold fillOf
      rw [hg, ← (hft 0).2]; rfl
    rw [hf]
    exact found_2 L n i sz (at0 (O.getD g []) i) v w hn hn16 hsz hi hp h1 (fun h => by
      have e : pOf L n = L[n] := by simp [pOf, h]
      rw [← e]; exact hp0) hv (fun x => (hft x).1)
  | _ :: _ :: _ :: _ => exact absurd hs (by unfold lostN at *; rw [hg]; simp; omega)
/-- A list of lists of bytes that the call has made, each in a block of its own. -/
def LstD (w : World) (base : Nat) (x : Value) (M : List (List UInt8)) (vs : List Value) : Prop := SOwns w base x vs ∧ vs.length = M.length ∧ (∀ i (h1 : i < vs.length) (h2 : i < M.length), Owns w base vs[i] M[i] ∧ ∃ g, vs[i].ownBlock = some g) ∧ ∀ i j (h1 : i < vs.length) (h2 : j < vs.length), i ≠ j → vs[i].ownBlock ≠ vs[j].ownBlock
theorem LstD.below {w w' : World} {base : Nat} {x : Value} {M : List (List UInt8)} {vs : List Value} (h : LstD w base x M vs) (hb : Below w.heap.size w w') : LstD w' base x M vs :=
  ⟨h.1.below hb, h.2.1, fun i a b => ⟨((h.2.2.1 i a b).1).below hb, (h.2.2.1 i a b).2⟩, h.2.2.2⟩
theorem LstD.pcsR {w : World} {base : Nat} {x : Value} {M : List (List UInt8)} {vs : List Value} (h : LstD w base x M vs) : PcsR base w.heap.size w x M :=
  sowns_pcsR h.1 h.2.1 fun i a b => ((h.2.2.1 i a b).1).el.rdR
theorem LstD.old {w : World} {base : Nat} {x : Value} {M : List (List UInt8)} {vs : List Value} (h : LstD w base x M vs) (i : Nat) (h1 : i < vs.length) (h2 : i < M.length) {g : Nat} (hg : vs[i].ownBlock = some g) : g < w.heap.size := by
  have ho := (h.2.2.1 i h1 h2).1
  obtain ⟨ao, cp, e⟩ := ho.shape
  rw [e] at hg ho
  cases ao with
  | none => simp [Value.ownBlock] at hg
  | some a =>
    obtain ⟨g', rfl, _, _, hlt, _⟩ := ho.some
    simp [Value.ownBlock] at hg
    omega
/-- A row that is appended to, in a list whose rows lie apart. -/
theorem LstD.grow {w w1 : World} {base g n c : Nat} {M : List (List UInt8)} {vs : List Value} (h : LstD w base (.slice (some ⟨g, 0, none⟩) n c) M vs) (i : Nat) (h1 : i < vs.length) (h2 : i < M.length) (u : Value) (d : List UInt8) (k : Nat) (hu : Owns w1 base u d) (hk : u.ownBlock = some k) (hgr : w.grownBy w1 vs[i].ownBlock) (hat : vs[i].ownBlock = some k ∨ w.heap.size ≤ k) : LstD (w1.setCell ⟨g, i, none⟩ u) base (.slice (some ⟨g, 0, none⟩) n c) (M.set i d) (vs.set i u) := by
  obtain ⟨ho, hl, hel, hap⟩ := h
  obtain ⟨gi, hgi⟩ := (hel i h1 h2).2
  have hgi5 : ∃ cur fz, w.heap[gi]? = some (Obj.cells cur 5 fz) := by
    have hoi := (hel i h1 h2).1
    obtain ⟨ao, cp, e⟩ := hoi.shape
    rw [e] at hgi hoi
    rcases hoi.2 with ⟨h3, _⟩ | ⟨g', c', cur, h3, _, h5, _⟩
    · rw [h3] at hgi; simp [Value.ownBlock] at hgi
    · rw [h3] at hgi; simp [Value.ownBlock] at hgi; subst hgi; exact ⟨cur, _, h5⟩
  obtain ⟨cur5, fz5, h55⟩ := hgi5
  have hout : SOwns w1 base (.slice (some ⟨g, 0, none⟩) n c) vs := by
    have hne : (Value.slice (some ⟨g, 0, none⟩) n c).ownBlock ≠ some gi := ho.ne5 h55
    rw [hgi] at hgr
    exact ho.grown hgr hne
  have set5 : ∀ {v : Value} {l : List UInt8}, Owns w1 base v l → Owns (w1.setCell ⟨g, i, none⟩ u) base v l := fun hv => by
    refine ⟨hv.1, ?_⟩
    rcases hv.2 with hn | ⟨g', c', cur, h3, h4, h5, h6⟩
    · exact .inl hn
    · refine .inr ⟨g', c', cur, h3, h4, ?_, h6⟩
      rw [heap_set_other _ _ _ _ _ (fun e => by subst e; exact hout.ne5 h5 rfl)]; exact h5
  refine ⟨hout.put i u, by simp [hl], fun j a b => ?_, fun j t a b hne => ?_⟩
  · rw [List.getElem_set, List.getElem_set]
    by_cases hij : i = j
    · subst hij
      simp only [if_true]
      exact ⟨set5 hu, k, hk⟩
    · simp only [if_neg hij]
      have a' : j < vs.length := by simpa using a
      have b' : j < M.length := by simpa using b
      obtain ⟨hoj, gj, hgj⟩ := hel j a' b'
      refine ⟨set5 ?_, gj, hgj⟩
      refine ⟨hoj.1, ?_⟩
      rcases hoj.2 with hn | ⟨g', c', cur, h3, h4, h5, h6⟩
      · exact .inl hn
      · refine .inr ⟨g', c', cur, h3, h4, ?_, h6⟩
        rw [hgr.block g' (Array.getElem?_eq_some_iff.1 h5).1 (fun e => hap i j h1 a' hij (by rw [← e, h3]; rfl))]; exact h5
  · have a' : j < vs.length := by simpa using a
    have b' : t < vs.length := by simpa using b
    have hfar : ∀ s (hs : s < vs.length), s ≠ i → vs[s].ownBlock ≠ some k := fun s hs hsi e => by
      rcases hat with h | h
      · exact hap i s h1 hs (Ne.symm hsi) (by rw [h, e])
      · have := LstD.old ⟨ho, hl, hel, hap⟩ s hs (by omega) e
        omega
    rw [List.getElem_set, List.getElem_set]
    by_cases hij : i = j
    · subst hij
      simp only [if_true, if_neg hne]
      rw [hk]
      exact Ne.symm (hfar t b' (Ne.symm hne))
    · simp only [if_neg hij]
      by_cases hit : i = t
      · subst hit
        simp only [if_true]
        rw [hk]
        exact hfar j a' (Ne.symm hij)
      · simp only [if_neg hit]
        exact hap j t a' b' hne
end Go.Proofs.YtigaabhicjcbjabDoor
