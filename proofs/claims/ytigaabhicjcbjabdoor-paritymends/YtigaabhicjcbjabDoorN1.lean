/-
  A part of a list of pieces; copies; the parting of pieces of data from those made of them.
-/
import Derived.Test.YtigaabhicjcbjabDoorR3
namespace Go.Proofs.YtigaabhicjcbjabDoor
open Go.ChangeShapes Go.WideShapes Go.ChangeAt Go.RowKit
set_option linter.unusedVariables false

theorem Pcs.cap {n₀ : Nat} {w : World} {ao : Option Addr} {n cp : Nat} {L : List (List UInt8)} (h : Pcs n₀ w (.slice ao n cp) L) : n = L.length ∧ L.length ≤ cp := by
  rcases h with ⟨e, rfl⟩ | ⟨b, off, cp', e, hb, hcp, hc⟩
  · simp at e; exact ⟨e.2.1, by simp⟩
  · simp at e; exact ⟨e.2.1, by omega⟩
theorem Pcs.take {n₀ : Nat} {w : World} {ao : Option Addr} {k cp : Nat} {L : List (List UInt8)} (h : Pcs n₀ w (.slice ao L.length cp) L) (n : Nat) (hn : n ≤ L.length) : Pcs n₀ w (.slice ao n cp) (L.take n) := by
  have hl : (L.take n).length = n := by rw [List.length_take]; omega
  rcases h with ⟨e, rfl⟩ | ⟨b, off, cp', e, hb, hcp, hc⟩
  · have : n = 0 := by simpa using hn
    subst this
    simp at e
    exact .inl ⟨by rw [e.1, e.2], by simp⟩
  · simp at e
    refine .inr ⟨b, off, cp, by rw [e.1, hl], hb, by omega, fun i hi => ?_⟩
    rw [hl] at hi
    rw [List.getElem_take]
    exact hc i (by omega)
theorem Pcs.drop {n₀ : Nat} {w : World} {b off cp : Nat} {L : List (List UInt8)} (h : Pcs n₀ w (.slice (some ⟨b, off, none⟩) L.length cp) L) (n : Nat) (hn : n ≤ L.length) : Pcs n₀ w (.slice (some ⟨b, off + n, none⟩) (L.length - n) (cp - n)) (L.drop n) := by
  rcases h with ⟨e, rfl⟩ | ⟨b', off', cp', e, hb, hcp, hc⟩
  · simp at e
  · simp at e
    obtain ⟨⟨rfl, rfl⟩, rfl⟩ := e
    refine .inr ⟨b, off + n, cp - n, by rw [List.length_drop], hb, by rw [List.length_drop]; omega, fun i hi => ?_⟩
    rw [List.length_drop] at hi
    rw [List.getElem_drop, Nat.add_assoc]
    exact hc (n + i) (by omega)
theorem Pcs.some_of {n₀ : Nat} {w : World} {ao : Option Addr} {n cp : Nat} {L : List (List UInt8)} (h : Pcs n₀ w (.slice ao n cp) L) (hL : 0 < L.length) : ∃ b off, ao = some ⟨b, off, none⟩ ∧ b < n₀ := by
  rcases h with ⟨e, rfl⟩ | ⟨b, off, cp', e, hb, hcp, hc⟩
  · simp at hL
  · simp at e
    exact ⟨b, off, e.1, hb⟩
def partErr (L : List (List UInt8)) (level : Int) : Int := haveI := decEven L; if level < 0 ∨ 2 < level then 5 else if (1 ≤ (L.length : Int) - level ∧ (L.length : Int) - level ≤ 16) ∧ Even L then 0 else 10
/-- What part leaves. -/
def PartPost (L : List (List UInt8)) (level : Int) (n₀ : Nat) (w : World) (e : Ending) (w' : World) : Prop :=
  (∃ n : Nat, ∃ a b, partErr L level = 0 ∧ (n : Int) + level = L.length ∧ e = .returned (.tuple #[a, b, .nilIface]) ∧ Pcs n₀ w' a (L.take n) ∧ Pcs n₀ w' b (L.drop n) ∧ ∃ m, w' = w.drewN m) ∨ (partErr L level ≠ 0 ∧ e = .returned (.tuple #[.slice none 0 0, .slice none 0 0, .iface 24 (.int .i64 (partErr L level))]) ∧ w' = w)
set_option maxRecDepth 100000 in
theorem part_any (L : List (List UInt8)) (n₀ : Nat) (v : Value) (level : Int) (w : World) (hl : L.length ≤ 1000000) (hp : ∀ b ∈ L, b.length ≤ 140737488355328) (hv : Pcs n₀ w v L) : Calls Tryd.prog 48 #[v, .int .i64 level] w (PartPost L level n₀ w) := by
  by_cases h1 : level < 0
  · have HE : Hid (partErr L level = 5) := by show _ = _; unfold partErr; rw [if_pos (.inl h1)]
    go_enter Tryd.func48, Tryd.ntmps48
    go_wp2
    refine bodyPost_ret (by simp [results, Tryd.results48, go_sem]; rfl) rfl ?_
    exact .inr ⟨by rw [HE.out]; decide, by rw [HE.out], rfl⟩
  · by_cases h2 : 2 < level
    · have HE : Hid (partErr L level = 5) := by show _ = _; unfold partErr; rw [if_pos (.inr h2)]
      go_enter Tryd.func48, Tryd.ntmps48
      go_wp2
      refine bodyPost_ret (by simp [results, Tryd.results48, go_sem]; rfl) rfl ?_
      exact .inr ⟨by rw [HE.out]; decide, by rw [HE.out], rfl⟩
    · obtain ⟨lv, rfl⟩ := Int.eq_ofNat_of_zero_le (show 0 ≤ level by omega)
      by_cases h3 : L.length < lv + 1
      · have HE : Hid (partErr L (lv : Int) = 10) := by show _ = _; unfold partErr; rw [if_neg (by omega), if_neg (by omega)]
        obtain ⟨ao, cp, rfl⟩ := hv.shape
        have h3' : (L.length : Int) - (lv : Int) < 1 := by omega
        clear hv hp
        go_enter Tryd.func48, Tryd.ntmps48
        go_wp2
        refine bodyPost_ret (by simp [results, Tryd.results48, go_sem]; rfl) rfl ?_
        exact .inr ⟨by rw [HE.out]; decide, by rw [HE.out], rfl⟩
      · obtain ⟨n, hn⟩ : ∃ n, n = L.length - lv := ⟨_, rfl⟩
        have hni : (L.length : Int) - (lv : Int) = (n : Int) := by omega
        have hn1 : ¬ (n : Int) < 1 := by omega
        have hnl : (n : Int) ≤ (L.length : Int) := by omega
        obtain ⟨ao, cp, rfl⟩ := hv.shape
        have hcp := hv.cap.2
        have hnc : (n : Int) ≤ (cp : Int) := by omega
        have HT := hid_mk (hv.take (k := 0) n (by omega))
        have HF := hid_mk (few_any n cp ao w (by omega))
        have HEv := hid_mk (even_any L n₀ _ w (by omega) hv hp)
        obtain ⟨b, off, rfl, hb⟩ := hv.some_of (by omega)
        have HD := hid_mk (hv.drop n (by omega))
        have HN := hid_mk hn
        clear hn hp hv
        by_cases h4 : 1 ≤ n ∧ n ≤ 16
        · rw [decide_eq_true h4] at HF
          by_cases h5 : Even L
          · rw [@decide_eq_true _ (decEven L) h5] at HEv
            have HE : Hid (partErr L (lv : Int) = 0) := by show _ = _; unfold partErr; rw [if_neg (by omega), if_pos ⟨⟨by omega, by omega⟩, h5⟩]
            go_enter Tryd.func48, Tryd.ntmps48
            go_wp2_with (first | (go_at_call 60; refine HF.out.mono ?_; rintro e w' ⟨rfl, rfl⟩) | (go_at_call 61; refine HEv.out.mono ?_; rintro e w' ⟨rfl, rfl⟩))
            go_quiet (fail)
            go_wp2
            · have hcpn : cp = n := by assumption
              refine bodyPost_ret (by simp [results, Tryd.results48, go_sem]; rfl) rfl ?_
              exact .inl ⟨n, .slice (some ⟨b, off, none⟩) n n, .slice (some ⟨b, off, none⟩) (L.length - n) 0, HE.out, by have := HN.out; omega, rfl, by subst hcpn; exact HT.out.below (drewN_below n₀ _ _) (Nat.le_refl _), .inr ⟨b, off, 0, by rw [List.length_drop], hb, by rw [List.length_drop]; omega, fun i hi => by rw [List.length_drop] at hi; omega⟩, _, rfl⟩
            · refine bodyPost_ret (by simp [results, Tryd.results48, go_sem]; rfl) rfl ?_
              exact .inl ⟨n, _, _, HE.out, by have := HN.out; omega, rfl, HT.out.below (drewN_below n₀ _ _) (Nat.le_refl _), HD.out.below (drewN_below n₀ _ _) (Nat.le_refl _), _, rfl⟩
          · rw [@decide_eq_false _ (decEven L) h5] at HEv
            have HE : Hid (partErr L (lv : Int) = 10) := by show _ = _; unfold partErr; rw [if_neg (by omega), if_neg (fun h => h5 h.2)]
            go_enter Tryd.func48, Tryd.ntmps48
            go_wp2_with (first | (go_at_call 60; refine HF.out.mono ?_; rintro e w' ⟨rfl, rfl⟩) | (go_at_call 61; refine HEv.out.mono ?_; rintro e w' ⟨rfl, rfl⟩))
            refine bodyPost_ret (by simp [results, Tryd.results48, go_sem]; rfl) rfl ?_
            exact .inr ⟨by rw [HE.out]; decide, by rw [HE.out], rfl⟩
        · rw [decide_eq_false h4] at HF
          have HE : Hid (partErr L (lv : Int) = 10) := by show _ = _; unfold partErr; rw [if_neg (by omega), if_neg (fun h => h4 ⟨by omega, by omega⟩)]
          go_enter Tryd.func48, Tryd.ntmps48
          go_wp2_with (first | (go_at_call 60; refine HF.out.mono ?_; rintro e w' ⟨rfl, rfl⟩) | (go_at_call 61; refine HEv.out.mono ?_; rintro e w' ⟨rfl, rfl⟩))
          refine bodyPost_ret (by simp [results, Tryd.results48, go_sem]; rfl) rfl ?_
          exact .inr ⟨by rw [HE.out]; decide, by rw [HE.out], rfl⟩
end Go.Proofs.YtigaabhicjcbjabDoor
