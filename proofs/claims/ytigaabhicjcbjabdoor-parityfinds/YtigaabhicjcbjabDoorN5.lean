/-
  parity.Mend: what it answers; one piece, two pieces as relations.
-/
import Derived.Test.YtigaabhicjcbjabDoorN4
import Derived.BigRegion
import Derived.RegionTactic
import Derived.Deep.RegionWith
import Derived.Handy
namespace Go.Proofs.YtigaabhicjcbjabDoor
open Go.ChangeShapes Go.WideShapes Go.ChangeAt Go.RowKit
set_option linter.unusedVariables false

def pOf (L : List (List UInt8)) (n : Nat) : List UInt8 := L.getD n []
def qOf (L : List (List UInt8)) (n : Nat) : List UInt8 := L.getD (n + 1) []
def mendErr (L : List (List UInt8)) (level : Int) : Int := if partErr L level ≠ 0 then partErr L level else if level < (lostN L : Int) then 11 else 0
def nOf (L : List (List UInt8)) (level : Int) : Nat := ((L.length : Int) - level).toNat
/-- What Mend tells of the bytes. -/
def MendR (L : List (List UInt8)) (level : Int) (O : List (List UInt8)) : Prop := Mended (L.take (nOf L level)) (szOf L) (pOf L (nOf L level)) (qOf L (nOf L level)) O
def MendPost (L : List (List UInt8)) (level : Int) (w : World) (e : Ending) (w' : World) : Prop :=
  ∃ v, e = .returned (.tuple #[v, if mendErr L level = 0 then .nilIface else .iface 24 (.int .i64 (mendErr L level))]) ∧ (mendErr L level = 0 → ∃ O, MendR L level O ∧ PcsR w.heap.size w'.heap.size w' v O) ∧ (mendErr L level ≠ 0 → v = .slice none 0 0) ∧ Below w.heap.size w w'
/-- The pieces behind the data. -/
theorem drop_1 {L : List (List UInt8)} {n : Nat} (h : L.length = n + 1) : L.drop n = [pOf L n] := by
  apply List.ext_getElem
  · simp; omega
  · intro i h1 h2
    have : i = 0 := by simpa using h2
    subst this
    have hn : n < L.length := by omega
    simp [pOf, hn]
theorem drop_2 {L : List (List UInt8)} {n : Nat} (h : L.length = n + 2) : L.drop n = [pOf L n, qOf L n] := by
  apply List.ext_getElem
  · simp; omega
  · intro i h1 h2
    have hi : i < 2 := by simpa using h2
    have hn : n < L.length := by omega
    have hn1 : n + 1 < L.length := by omega
    match i, hi with
    | 0, _ => simp [pOf, hn]
    | 1, _ => simp [qOf, hn1]
theorem p_mem {L : List (List UInt8)} {n : Nat} (h : n < L.length) : pOf L n ∈ L := by
  have e : pOf L n = L[n] := by simp [pOf, h]
  rw [e]; exact List.getElem_mem h
theorem q_mem {L : List (List UInt8)} {n : Nat} (h : n + 1 < L.length) : qOf L n ∈ L := by
  have e : qOf L n = L[n + 1] := by simp [qOf, h]
  rw [e]; exact List.getElem_mem h
theorem lost_split {L : List (List UInt8)} (n : Nat) : lostN L = lostN (L.take n) + lostN (L.drop n) := by
  rw [← lostN_append, List.take_append_drop]
theorem lostN_one (p : List UInt8) : lostN [p] = if p.length = 0 then 1 else 0 := by
  unfold lostN; simp only [gaps]; split <;> rfl
theorem lostN_two (p q : List UInt8) : lostN [p, q] = (if p.length = 0 then 1 else 0) + (if q.length = 0 then 1 else 0) := by
  have := lostN_append [p] [q]
  simp only [List.cons_append, List.nil_append] at this
  rw [this, lostN_one, lostN_one]
/-- One piece is told. -/
def OnePost (w : World) (D : List (List UInt8)) (i sz : Nat) (p q : List UInt8) (e : Ending) (w' : World) : Prop := ∃ X, RowPost w sz X e w' ∧ (p.length ≠ 0 → ∀ k, k < sz → X k = colP D k ^^^ at0 p k) ∧ (p.length = 0 → ∀ k, k < sz → dbln i (X k) = colQ 0 D k ^^^ at0 q k)
theorem one_any (L : List (List UInt8)) (n lv i : Nat) (dv mv : Value) (w : World) (hn : L.length = n + lv) (hlv : lv ≤ 2) (hlost : lostN L ≤ lv) (hg : gaps 0 (L.take n) = [i]) (hi : i < 16) (hl : L.length ≤ 1000000) (hE : Even L) (hd : Pcs w.heap.size w dv (L.take n)) (hm : Pcs w.heap.size w mv (L.drop n)) :
    Calls Tryd.prog 51 #[dv, .int .i64 (i : Int), mv] w (OnePost w (L.take n) i (szOf L) (pOf L n) (qOf L n)) := by
  have hD : ∀ b ∈ L.take n, b.length = 0 ∨ b.length = szOf L := fun b hb => hE.1 b (List.mem_of_mem_take hb)
  have h1 : lostN (L.take n) = 1 := by unfold lostN; rw [hg]; rfl
  have hs := lost_split (L := L) n
  have hDl : (L.take n).length ≤ 1000000 := by rw [List.length_take]; omega
  obtain rfl | rfl | rfl : lv = 0 ∨ lv = 1 ∨ lv = 2 := by omega
  · omega
  · rw [drop_1 hn] at hm hs
    rw [lostN_one] at hs
    have hp0 : (pOf L n).length ≠ 0 := fun h => by rw [if_pos h] at hs; omega
    have hps : (pOf L n).length = szOf L := (hE.1 _ (p_mem (by omega))).resolve_left hp0
    exact (one_P _ i (szOf L) _ [] dv mv w hDl hE.2.2 hE.2.1 hd hm hD hps).mono fun e w' h => ⟨_, h, fun _ k _ => rfl, fun h => absurd h hp0⟩
  · rw [drop_2 hn] at hm hs
    rw [lostN_two] at hs
    by_cases hp0 : (pOf L n).length = 0
    · rw [if_pos hp0] at hs
      have hq0 : (qOf L n).length ≠ 0 := fun h => by rw [if_pos h] at hs; omega
      have hqs : (qOf L n).length = szOf L := (hE.1 _ (q_mem (by omega))).resolve_left hq0
      exact (one_Q _ i (szOf L) _ _ [] dv mv w hi hDl hE.2.2 hE.2.1 hd hm hD hp0 hqs).mono fun e w' h => ⟨_, h, fun h => absurd hp0 h, fun _ k _ => dbln_forth (by omega) _⟩
    · have hps : (pOf L n).length = szOf L := (hE.1 _ (p_mem (by omega))).resolve_left hp0
      exact (one_P _ i (szOf L) _ _ dv mv w hDl hE.2.2 hE.2.1 hd hm hD hps).mono fun e w' h => ⟨_, h, fun _ k _ => rfl, fun h => absurd h hp0⟩
/-- Two pieces are told. -/
def BothPost (w : World) (D : List (List UInt8)) (i j sz : Nat) (p q : List UInt8) (e : Ending) (w' : World) : Prop := ∃ X Y, TwoPost w sz X Y e w' ∧ (∀ k, k < sz → X k ^^^ Y k = colP D k ^^^ at0 p k) ∧ (∀ k, k < sz → dbln i (X k) ^^^ dbln j (Y k) = colQ 0 D k ^^^ at0 q k)
theorem both_any (L : List (List UInt8)) (n lv i j : Nat) (dv mv : Value) (w : World) (hn : L.length = n + lv) (hlv : lv ≤ 2) (hlost : lostN L ≤ lv) (hg : gaps 0 (L.take n) = [i, j]) (hj : j < 16) (hl : L.length ≤ 1000000) (hE : Even L) (hd : Pcs w.heap.size w dv (L.take n)) (hm : Pcs w.heap.size w mv (L.drop n)) :
    Calls Tryd.prog 52 #[dv, .int .i64 (i : Int), .int .i64 (j : Int), mv] w (BothPost w (L.take n) i j (szOf L) (pOf L n) (qOf L n)) := by
  have hsrt := gaps_sorted 0 (L.take n)
  rw [hg] at hsrt
  have hij : i < j := by simpa using hsrt
  have hD : ∀ b ∈ L.take n, b.length = 0 ∨ b.length = szOf L := fun b hb => hE.1 b (List.mem_of_mem_take hb)
  have h1 : lostN (L.take n) = 2 := by unfold lostN; rw [hg]; rfl
  have hs := lost_split (L := L) n
  have hDl : (L.take n).length ≤ 1000000 := by rw [List.length_take]; omega
  obtain rfl : lv = 2 := by omega
  rw [drop_2 hn] at hm hs
  rw [lostN_two] at hs
  have hp0 : (pOf L n).length ≠ 0 := fun h => by rw [if_pos h] at hs; omega
  have hps : (pOf L n).length = szOf L := (hE.1 _ (p_mem (by omega))).resolve_left hp0
  have hq0 : (qOf L n).length ≠ 0 := fun h => by rw [if_pos h] at hs; omega
  have hqs : (qOf L n).length = szOf L := (hE.1 _ (q_mem (by omega))).resolve_left hq0
  obtain ⟨m, hm255, hpow, hall⟩ := two_power i j hij hj
  refine (two_any _ i j m (szOf L) _ _ [] dv mv w (by omega) hj hm255 hpow hDl hE.2.2 hE.2.1 hd hm hD hps hqs).mono fun e w' h => ⟨_, _, h, fun k _ => ?_, fun k _ => ?_⟩
  · generalize (colP (L.take n) k ^^^ at0 (pOf L n) k) = P
    generalize dbln (255 - m) _ = X
    rw [UInt8.xor_comm P X, ← UInt8.xor_assoc, UInt8.xor_self, UInt8.zero_xor]
  · generalize (colP (L.take n) k ^^^ at0 (pOf L n) k) = P
    generalize (colQ 0 (L.take n) k ^^^ at0 (qOf L n) k) = Q
    rw [dbln_xor j P, ← UInt8.xor_assoc, UInt8.xor_comm (dbln i _), UInt8.xor_assoc, hall, dbln_forth (by omega), ← UInt8.xor_assoc, UInt8.xor_self, UInt8.zero_xor]
end Go.Proofs.YtigaabhicjcbjabDoor
