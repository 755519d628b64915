/-
  Lists of pieces: how long they are, whether they fit.
-/
import Derived.Test.YtigaabhicjcbjafDoorT3
import Derived.Test.YtigaabhicjcbjafDoorPm
namespace Go.Proofs.YtigaabhicjcbjafDoor
open Go.ChangeShapes Go.WideShapes Go.ChangeAt Go.RowKit
set_option linter.unusedVariables false

/-- A list of pieces that reads as L, all of it in blocks below n₀. -/
def Pcs (n₀ : Nat) (w : World) (v : Value) (L : List (List UInt8)) : Prop := (v = .slice none 0 0 ∧ L = []) ∨ ∃ b off cp, v = .slice (some ⟨b, off, none⟩) L.length cp ∧ b < n₀ ∧ L.length ≤ cp ∧ ∀ i (hi : i < L.length), ∃ u, w.cell? ⟨b, off + i, none⟩ = some u ∧ Rd n₀ w u L[i]
theorem Pcs.shape {n₀ : Nat} {w : World} {v : Value} {L : List (List UInt8)} (h : Pcs n₀ w v L) : ∃ ao cp, v = .slice ao L.length cp := by
  rcases h with ⟨rfl, rfl⟩ | ⟨b, off, cp, rfl, _⟩
  · exact ⟨none, 0, rfl⟩
  · exact ⟨_, _, rfl⟩
theorem Pcs.get {n₀ : Nat} {w : World} {ao : Option Addr} {n cp : Nat} {L : List (List UInt8)} (h : Pcs n₀ w (.slice ao n cp) L) (k : Nat) (hk : k < L.length) : ∃ b off ul ucp, ao = some ⟨b, off, none⟩ ∧ b < n₀ ∧ w.cell? ⟨b, off + k, none⟩ = some (.slice ul L[k].length ucp) ∧ Rd n₀ w (.slice ul L[k].length ucp) L[k] := by
  rcases h with ⟨_, rfl⟩ | ⟨b, off, cp', e, hb, _, hc⟩
  · simp at hk
  · obtain ⟨u, h1, h2⟩ := hc k hk
    obtain ⟨ul, ucp, rfl⟩ := h2.shape
    simp at e
    exact ⟨b, off, ul, ucp, e.1, hb, h1, h2⟩
theorem Pcs.mono {n₀ n₁ : Nat} {w : World} {v : Value} {L : List (List UInt8)} (h : Pcs n₀ w v L) (hn : n₀ ≤ n₁) : Pcs n₁ w v L := by
  rcases h with h | ⟨b, off, cp, e, hb, hcp, hc⟩
  · exact .inl h
  · exact .inr ⟨b, off, cp, e, by omega, hcp, fun i hi => by obtain ⟨u, h1, h2⟩ := hc i hi; exact ⟨u, h1, h2.mono (fun x (hx : x < n₀) => by show x < n₁; omega)⟩⟩
theorem Pcs.below {n₀ B : Nat} {w w' : World} {v : Value} {L : List (List UInt8)} (h : Pcs n₀ w v L) (hb : Below B w w') (hB : n₀ ≤ B) : Pcs n₀ w' v L := by
  rcases h with h | ⟨b, off, cp, e, hbb, hcp, hc⟩
  · exact .inl h
  · exact .inr ⟨b, off, cp, e, hbb, hcp, fun i hi => by obtain ⟨u, h1, h2⟩ := hc i hi; exact ⟨u, (hb.cell (p := ⟨b, off + i, none⟩) (show b < B by omega)).trans h1, h2.below hb hB⟩⟩
theorem szOf_skip {L : List (List UInt8)} {k : Nat} (h : ∀ j (hj : j < L.length), j < k → L[j].length = 0) (hk : k < L.length) (hn : L[k].length ≠ 0) : szOf L = L[k].length := by
  induction L generalizing k with
  | nil => simp at hk
  | cons a L ih =>
    cases k with
    | zero => simp only [szOf]; rw [if_neg (by simpa using hn)]; rfl
    | succ k =>
      simp only [szOf]
      have e0 : a.length = 0 := h 0 (by simp) (by omega)
      rw [if_pos e0]
      exact ih (fun j hj hjk => h (j + 1) (by simpa using hj) (by omega)) (by simpa using hk) (by simpa using hn)
theorem szOf_none {L : List (List UInt8)} (h : ∀ j (hj : j < L.length), L[j].length = 0) : szOf L = 0 := by
  induction L with
  | nil => rfl
  | cons a L ih =>
    simp only [szOf]
    have e0 : a.length = 0 := h 0 (by simp)
    rw [if_pos e0]
    exact ih (fun j hj => h (j + 1) (by simpa using hj))
set_option maxRecDepth 100000 in
theorem size_any (L : List (List UInt8)) (n₀ : Nat) (v : Value) (w : World) (hl : L.length ≤ 140737488355328) (hv : Pcs n₀ w v L) : Calls Tryd.prog 62 #[v] w fun e w' => e = .returned (.int .i64 (szOf L : Nat)) ∧ w' = w := by
  obtain ⟨ao, cp, rfl⟩ := hv.shape
  have HV : Hid (Pcs n₀ w (.slice ao L.length cp) L) := hv
  clear hv
  go_enter Tryd.func62, Tryd.ntmps62
  go_wp2
  go_loopw [7] (fun i wr => ∃ k : Nat, i = .int .i64 k ∧ k ≤ L.length ∧ (∀ j (hj : j < L.length), j < k → L[j].length = 0) ∧ wr = w) (fun i _ => L.length - (intOf i).toNat)
  case atStart => exact ⟨0, rfl, by omega, fun j _ hj => by omega, rfl⟩
  case round =>
    obtain ⟨k, rfl, hk, hz, rfl⟩ := hrel
    have HZ : Hid (∀ j (hj : j < L.length), j < k → L[j].length = 0) := hz
    clear hz
    by_cases hlt : k < L.length
    · obtain ⟨b, off, ul, ucp, rfl, hb, hc, hr⟩ := HV.out.get k hlt
      have HR : Hid (Rd n₀ wr (.slice ul L[k].length ucp) L[k]) := hr
      clear hr
      obtain ⟨m, hm⟩ : ∃ m, m = L[k].length := ⟨_, rfl⟩
      rw [← hm] at hc
      have HM : Hid (m = L[k].length) := hm
      clear hm
      by_cases h0 : m = 0
      · subst h0
        go_wp2
        go_roundw
        case rel => exact ⟨k + 1, by go_num, by omega, fun j hj hjk => by
            by_cases h : j = k
            · subst h; exact HM.out.symm
            · exact HZ.out j hj (by omega), trivial⟩
        case measure => simp [intOf]; omega
      · have h0' : ¬ (m : Int) = 0 := by omega
        go_wp2
        go_ret
        exact ⟨ret_int (by show (m : Int) = _; rw [szOf_skip HZ.out hlt (by rw [← HM.out]; exact h0), ← HM.out]), rfl⟩
    · have hkn : k = L.length := by omega
      subst hkn
      go_wp2
      go_ret
      exact ⟨ret_int (by show (0 : Int) = _; rw [szOf_none (fun j hj => HZ.out j hj hj)]; rfl), rfl⟩
theorem few_any (n cp : Nat) (ao : Option Addr) (w : World) (hn : n ≤ 140737488355328) : Calls Tryd.prog 59 #[.slice ao n cp] w fun e w' => e = .returned (.bool (decide (1 ≤ n ∧ n ≤ 16))) ∧ w' = w := by
  by_cases h1 : 1 ≤ n
  · have h1' : (1 : Int) ≤ (n : Int) := by omega
    by_cases h2 : n ≤ 16
    · have h2' : (n : Int) ≤ 16 := by omega
      rw [decide_eq_true (p := 1 ≤ n ∧ n ≤ 16) ⟨h1, h2⟩]
      go_enter Tryd.func59, Tryd.ntmps59
      go_wp2
      go_ret
      exact ⟨rfl, rfl⟩
    · have h2' : ¬ (n : Int) ≤ 16 := by omega
      rw [decide_eq_false (p := 1 ≤ n ∧ n ≤ 16) (by omega)]
      go_enter Tryd.func59, Tryd.ntmps59
      go_wp2
      go_ret
      exact ⟨rfl, rfl⟩
  · have h1' : ¬ (1 : Int) ≤ (n : Int) := by omega
    rw [decide_eq_false (p := 1 ≤ n ∧ n ≤ 16) (by omega)]
    go_enter Tryd.func59, Tryd.ntmps59
    go_wp2
    go_ret
    exact ⟨rfl, rfl⟩
set_option maxRecDepth 100000 in
theorem even_any (L : List (List UInt8)) (n₀ : Nat) (v : Value) (w : World) (hl : L.length ≤ 140737488355328) (hv : Pcs n₀ w v L) (hp : ∀ b ∈ L, b.length ≤ 140737488355328) : Calls Tryd.prog 60 #[v] w fun e w' => e = .returned (.bool (@decide (Even L) (decEven L))) ∧ w' = w := by
  have HS := hid_mk (size_any L n₀ v w hl hv)
  obtain ⟨ao, cp, rfl⟩ := hv.shape
  have HV : Hid (Pcs n₀ w (.slice ao L.length cp) L) := hv
  clear hv
  obtain ⟨sz, hsz⟩ : ∃ sz, sz = szOf L := ⟨_, rfl⟩
  rw [← hsz] at HS
  have HZ : Hid (sz = szOf L) := hsz
  have HPL : Hid (∀ b ∈ L, b.length ≤ 140737488355328) := hp
  clear hsz hp
  go_enter Tryd.func60, Tryd.ntmps60
  go_wp2_with (go_at_call 62; refine HS.out.mono ?_; rintro e w' ⟨rfl, rfl⟩)
  go_loopw [10] (fun i wr => ∃ k : Nat, i = .int .i64 k ∧ k ≤ L.length ∧ (∀ j (hj : j < L.length), j < k → L[j].length = 0 ∨ L[j].length = sz) ∧ wr = w') (fun i _ => L.length - (intOf i).toNat)
  case atStart => exact ⟨0, rfl, by omega, fun j _ hj => by omega, rfl⟩
  case round =>
    obtain ⟨k, rfl, hk, hz, rfl⟩ := hrel
    have HE : Hid (∀ j (hj : j < L.length), j < k → L[j].length = 0 ∨ L[j].length = sz) := hz
    clear hz HS
    by_cases hlt : k < L.length
    · obtain ⟨b, off, ul, ucp, rfl, hb, hc, hr⟩ := HV.out.get k hlt
      clear hr
      obtain ⟨m, hm⟩ : ∃ m, m = L[k].length := ⟨_, rfl⟩
      rw [← hm] at hc
      have hm47 : m ≤ 140737488355328 := by rw [hm]; exact HPL.out _ (List.getElem_mem hlt)
      have HM : Hid (m = L[k].length) := hm
      clear hm
      have next : (m = 0 ∨ m = sz) → ∀ j (hj : j < L.length), j < k + 1 → L[j].length = 0 ∨ L[j].length = sz := fun hor j hj hjk => by
        by_cases h : j = k
        · subst h; rw [← HM.out]; exact hor
        · exact HE.out j hj (by omega)
      have HN := hid_mk next
      clear next
      by_cases h0 : m = 0
      · subst h0
        go_wp2
        go_roundw
        case rel => exact ⟨k + 1, by go_num, by omega, HN.out (.inl rfl), trivial⟩
        case measure => simp [intOf]; omega
      · have h0' : ¬ (m : Int) = 0 := by omega
        by_cases h1 : m = sz
        · have h1' : (m : Int) = (sz : Int) := by omega
          have H1 := hid_mk h1
          clear h1
          go_wp2
          go_roundw
          case rel => exact ⟨k + 1, by go_num, by omega, HN.out (.inr H1.out), trivial⟩
          case measure => simp [intOf]; omega
        · have h1' : ¬ (m : Int) = (sz : Int) := by omega
          have HF : Hid (@decide (Even L) (decEven L) = false) := @decide_eq_false _ (decEven L) fun he => by
            have := he.1 _ (List.getElem_mem hlt)
            rw [← HM.out, ← HZ.out] at this
            omega
          have b0 : ((m : Int) != 0) = true := by simpa using h0'
          have b1 : ((m : Int) != (sz : Int)) = true := by simpa using h1'
          go_wp2
          go_ret
          exact ⟨by rw [HF.out]; rfl, rfl⟩
    · have hkn : k = L.length := by omega
      subst hkn
      have all : ∀ b ∈ L, b.length = 0 ∨ b.length = szOf L := fun b hb => by
        obtain ⟨j, hj, rfl⟩ := List.getElem_of_mem hb
        rw [← HZ.out]; exact HE.out j hj hj
      have HA := hid_mk all
      clear all
      by_cases h1 : 1 ≤ sz
      · have h1' : (1 : Int) ≤ (sz : Int) := by omega
        by_cases h2 : sz ≤ 4096
        · have h2' : (sz : Int) ≤ 4096 := by omega
          have HF : Hid (@decide (Even L) (decEven L) = true) := @decide_eq_true _ (decEven L) ⟨HA.out, by rw [← HZ.out]; exact h1, by rw [← HZ.out]; exact h2⟩
          go_wp2
          go_ret
          exact ⟨by rw [HF.out]; rfl, rfl⟩
        · have h2' : ¬ (sz : Int) ≤ 4096 := by omega
          have HF : Hid (@decide (Even L) (decEven L) = false) := @decide_eq_false _ (decEven L) fun he => h2 (by rw [HZ.out]; exact he.2.2)
          go_wp2
          go_ret
          exact ⟨by rw [HF.out]; rfl, rfl⟩
      · have h1' : ¬ (1 : Int) ≤ (sz : Int) := by omega
        have HF : Hid (@decide (Even L) (decEven L) = false) := @decide_eq_false _ (decEven L) fun he => h1 (by rw [HZ.out]; exact he.2.1)
        go_wp2
        go_ret
        exact ⟨by rw [HF.out]; rfl, rfl⟩
end Go.Proofs.YtigaabhicjcbjafDoor
