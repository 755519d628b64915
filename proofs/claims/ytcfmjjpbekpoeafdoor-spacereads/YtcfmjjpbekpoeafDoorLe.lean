/-
  Numbers as bytes, the lowest one first; runs of them.
-/
import Derived.Test.YtcfmjjpbekpoeafDoorKl
namespace Go.Proofs.YtcfmjjpbekpoeafDoor
set_option linter.unusedVariables false

/-- The number that bytes are, the lowest one first. -/
def leN : List UInt8 → Nat
  | [] => 0
  | x :: l => x.toNat + 256 * leN l
theorem leN_lt (l : List UInt8) : leN l < 256 ^ l.length := by
  induction l with
  | nil => simp [leN]
  | cons x l ih =>
    have := x.toNat_lt
    simp only [leN, List.length_cons, Nat.pow_succ]
    omega
theorem leN_snoc (l : List UInt8) (x : UInt8) : leN (l ++ [x]) = leN l + x.toNat * 256 ^ l.length := by
  induction l with
  | nil => simp [leN]
  | cons y l ih =>
    simp only [List.cons_append, leN, ih, List.length_cons, Nat.pow_succ]
    rw [Nat.mul_add, ← Nat.mul_assoc, Nat.mul_comm 256 x.toNat, Nat.mul_assoc, Nat.mul_comm 256 (256 ^ l.length)]
    omega
/-- So many bytes of a number. -/
def toLe (n : Nat) : Nat → List UInt8
  | 0 => []
  | k + 1 => toLe n k ++ [UInt8.ofNat (n / 256 ^ k)]
theorem toLe_length (n k : Nat) : (toLe n k).length = k := by
  induction k with
  | zero => rfl
  | succ k ih => simp [toLe, ih]
theorem leN_toLe (n k : Nat) : leN (toLe n k) = n % 256 ^ k := by
  induction k with
  | zero => simp [toLe, leN, Nat.mod_one]
  | succ k ih =>
    rw [toLe, leN_snoc, ih, toLe_length]
    have : (UInt8.ofNat (n / 256 ^ k)).toNat = n / 256 ^ k % 256 := by simp
    rw [this, Nat.pow_succ, Nat.mod_mul, Nat.mul_comm]
theorem leN_inj {l m : List UInt8} (hl : l.length = m.length) (h : leN l = leN m) : l = m := by
  induction l generalizing m with
  | nil => exact (List.eq_nil_of_length_eq_zero hl.symm).symm
  | cons x l ih =>
    cases m with
    | nil => simp at hl
    | cons y m =>
      simp only [leN] at h
      have h1 := x.toNat_lt
      have h2 := y.toNat_lt
      have e : x.toNat = y.toNat := by omega
      have e2 : leN l = leN m := by omega
      rw [ih (by simpa using hl) e2, UInt8.toNat_inj.1 e]
/-- A run's bytes. -/
def runB (p : Pc) : List UInt8 := toLe p.at' 4 ++ toLe p.n 4 ++ toLe p.count 2 ++ toLe p.tag 8
theorem runB_length (p : Pc) : (runB p).length = 18 := by simp [runB, toLe_length]
/-- The run that bytes are. -/
def runP (b : List UInt8) : Pc := ⟨leN (b.take 4), leN ((b.drop 4).take 4), leN ((b.drop 8).take 2), leN (b.drop 10), 1⟩
def spB (rows : Nat) (l : List Pc) : List UInt8 := toLe rows 4 ++ (l.map runB).flatten
/-- What Load reads: pieces one behind the other. -/
def loadL : Nat → List UInt8 → Nat → Nat → Option (List Pc)
  | 0, b, stop, rows => if b.length = 0 then some [] else none
  | k + 1, b, stop, rows => if b.length = 0 then some [] else
      let p := runP (b.take 18)
      if p.at' < stop ∨ p.n < 1 ∨ rows < p.stop ∨ p.count < 1 then none
      else (loadL k (b.drop 18) p.stop rows).map (p :: ·)
theorem leN_take_lt (b : List UInt8) (k : Nat) : leN (b.take k) < 256 ^ k := by
  have h := leN_lt (b.take k)
  have : (b.take k).length ≤ k := by rw [List.length_take]; omega
  exact Nat.lt_of_lt_of_le h (Nat.pow_le_pow_right (by omega) this)
theorem runP_bounds (b : List UInt8) (h : b.length = 18) : (runP b).at' < 4294967296 ∧ (runP b).n < 4294967296 ∧ (runP b).count < 65536 ∧ (runP b).tag < 18446744073709551616 ∧ (runP b).st = 1 := by
  refine ⟨leN_take_lt _ 4, leN_take_lt _ 4, leN_take_lt _ 2, ?_, rfl⟩
  have h1 := leN_lt (b.drop 10)
  rw [List.length_drop, h] at h1
  exact h1
/-- A piece that is as it may be. -/
def Pc.Ok (p : Pc) : Prop := (p.st ≠ 2 → 1 ≤ p.count) ∧ p.count ≤ 65535 ∧ p.tag < 18446744073709551616 ∧ p.st ≤ 2
theorem loadL_fits {k : Nat} {b : List UInt8} {stop rows : Nat} {l : List Pc} (hs : stop ≤ rows) (hb : b.length = 18 * k) (h : loadL k b stop rows = some l) : Fits stop l rows ∧ ∀ p ∈ l, p.Ok ∧ p.st = 1 := by
  induction k generalizing b stop l with
  | zero =>
    unfold loadL at h
    rw [if_pos (by omega)] at h
    cases h
    exact ⟨hs, fun p hp => by cases hp⟩
  | succ k ih =>
    simp only [loadL] at h
    rw [if_neg (by omega)] at h
    have hl : (b.take 18).length = 18 := by rw [List.length_take]; omega
    obtain ⟨b1, b2, b3, b4, b5⟩ := runP_bounds (b.take 18) hl
    split at h
    · cases h
    · rename_i hc
      simp only [not_or, Nat.not_lt] at hc
      obtain ⟨c1, c2, c3, c4⟩ := hc
      match h2 : loadL k (b.drop 18) (runP (b.take 18)).stop rows with
      | none => rw [h2] at h; cases h
      | some m =>
        rw [h2] at h
        cases h
        obtain ⟨g1, g2⟩ := ih (by omega) (by rw [List.length_drop]; omega) h2
        refine ⟨⟨c1, c2, g1⟩, fun p hp => ?_⟩
        rcases List.mem_cons.1 hp with rfl | hp
        · exact ⟨⟨fun _ => c4, by omega, b4, by omega⟩, b5⟩
        · exact g2 p hp
def Pc.keep (p : Pc) : Pc := { p with st := 1 }
theorem take_mid {α : Type} (a b : List α) (k : Nat) (h : a.length = k) : (a ++ b).take k = a := by rw [← h]; exact List.take_left
theorem drop_mid' {α : Type} (a b : List α) (k : Nat) (h : a.length = k) : (a ++ b).drop k = b := by rw [← h]; exact List.drop_left
theorem runP_runB (p : Pc) (h1 : p.at' < 4294967296) (h2 : p.n < 4294967296) (h3 : p.count ≤ 65535) (h4 : p.tag < 18446744073709551616) : runP (runB p) = p.keep := by
  have l1 := toLe_length p.at' 4
  have l2 := toLe_length p.n 4
  have l3 := toLe_length p.count 2
  have l4 := toLe_length p.tag 8
  have e0 : (runB p).take 4 = toLe p.at' 4 := by unfold runB; rw [List.append_assoc, List.append_assoc, take_mid _ _ 4 l1]
  have d4 : (runB p).drop 4 = toLe p.n 4 ++ (toLe p.count 2 ++ toLe p.tag 8) := by unfold runB; rw [List.append_assoc, List.append_assoc, drop_mid' _ _ 4 l1]
  have d8 : (runB p).drop 8 = toLe p.count 2 ++ toLe p.tag 8 := by rw [show (8 : Nat) = 4 + 4 from rfl, ← List.drop_drop, d4, drop_mid' _ _ 4 l2]
  have d10 : (runB p).drop 10 = toLe p.tag 8 := by rw [show (10 : Nat) = 8 + 2 from rfl, ← List.drop_drop, d8, drop_mid' _ _ 2 l3]
  unfold runP
  rw [e0, d4, d8, d10, take_mid _ _ 4 l2, take_mid _ _ 2 l3, leN_toLe, leN_toLe, leN_toLe, leN_toLe]
  rw [Nat.mod_eq_of_lt (a := p.at') (by simpa using h1), Nat.mod_eq_of_lt (a := p.n) (by simpa using h2), Nat.mod_eq_of_lt (a := p.count) (by simp; omega), Nat.mod_eq_of_lt (a := p.tag) (by simpa using h4)]
  rfl
theorem flat_length (l : List Pc) : ((l.map runB).flatten).length = 18 * l.length := by
  induction l with
  | nil => rfl
  | cons p l ih => simp only [List.map_cons, List.flatten_cons, List.length_append, ih, runB_length, List.length_cons]; omega
theorem loadL_back {l : List Pc} {stop rows : Nat} (hr : rows < 4294967296) (hf : Fits stop l rows) (hok : ∀ p ∈ l, p.Ok ∧ p.st ≠ 2) : loadL l.length (l.map runB).flatten stop rows = some (l.map Pc.keep) := by
  induction l generalizing stop with
  | nil => simp [loadL]
  | cons p l ih =>
    obtain ⟨f1, f2, f3⟩ := hf
    obtain ⟨⟨o1, o2, o3, o4⟩, o5⟩ := hok p (by simp)
    have o1 := o1 o5
    have hle := f3.le
    have hst : p.stop = p.at' + p.n := rfl
    have e := runP_runB p (by omega) (by omega) o2 o3
    simp only [List.length_cons, List.map_cons, List.flatten_cons, loadL]
    rw [if_neg (by rw [List.length_append, runB_length]; omega), take_mid _ _ 18 (runB_length p), drop_mid' _ _ 18 (runB_length p), e]
    have k1 : p.keep.at' = p.at' := rfl
    have k2 : p.keep.n = p.n := rfl
    have k3 : p.keep.count = p.count := rfl
    have k4 : p.keep.stop = p.stop := rfl
    rw [if_neg (by rw [k1, k2, k3, k4]; omega), k4, ih f3 (fun q hq => hok q (List.mem_cons_of_mem _ hq))]
    rfl
end Go.Proofs.YtcfmjjpbekpoeafDoor
