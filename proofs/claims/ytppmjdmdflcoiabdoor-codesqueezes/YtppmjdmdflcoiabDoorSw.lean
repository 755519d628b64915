/-
  Plain mathematics: what comes out of a short form.
-/
namespace Go.Proofs.YtppmjdmdflcoiabDoor

/-- So many bytes, each as it stands so far back. -/
def cp (back : Nat) : Nat → List UInt8 → List UInt8
  | 0, out => out
  | n + 1, out => cp back n (out ++ [out.getD (out.length - back) 0])
theorem cp_length (back n : Nat) (out : List UInt8) : (cp back n out).length = out.length + n := by
  induction n generalizing out with
  | zero => rfl
  | succ n ih => rw [cp, ih]; simp; omega
/-- One step: an error, or what is out behind it and what is left. -/
def st (most : Nat) (t : Nat) (r out : List UInt8) : Int × List UInt8 × List UInt8 :=
  if t < 128 then
    if r.length < t + 1 then (7, [], [])
    else if most < (out ++ r.take (t + 1)).length then (6, [], []) else (0, out ++ r.take (t + 1), r.drop (t + 1))
  else
    if r.length < 2 then (7, [], [])
    else if out.length < (r.getD 0 0).toNat + 256 * (r.getD 1 0).toNat + 1 then (7, [], [])
    else if most < (cp ((r.getD 0 0).toNat + 256 * (r.getD 1 0).toNat + 1) (t - 125) out).length then (6, [], []) else (0, cp ((r.getD 0 0).toNat + 256 * (r.getD 1 0).toNat + 1) (t - 125) out, r.drop 2)
/-- What comes out: an error's number, and bytes. -/
def sw (most : Nat) : Nat → List UInt8 → List UInt8 → Int × List UInt8
  | 0, _, out => (0, out)
  | _ + 1, [], out => (0, out)
  | f + 1, t :: r, out => if (st most t.toNat r out).1 = 0 then sw most f (st most t.toNat r out).2.2 (st most t.toNat r out).2.1 else ((st most t.toNat r out).1, [])
theorem st_rest (most t : Nat) (r out : List UInt8) : (st most t r out).2.2.length ≤ r.length := by
  unfold st
  split
  · split
    · simp
    · split <;> simp
  · split
    · simp
    · split
      · simp
      · split <;> simp
theorem sw_nil (most f : Nat) (out : List UInt8) : sw most f [] out = (0, out) := by cases f <;> rfl
theorem sw_fuel (most f : Nat) (r out : List UInt8) (h : r.length ≤ f) : sw most f r out = sw most r.length r out := by
  suffices hh : ∀ n f g (r out : List UInt8), r.length ≤ n → r.length ≤ f → r.length ≤ g → sw most f r out = sw most g r out from hh r.length f r.length r out (Nat.le_refl _) h (Nat.le_refl _)
  intro n
  induction n with
  | zero =>
    intro f g r out h0 _ _
    obtain rfl : r = [] := List.eq_nil_of_length_eq_zero (by omega)
    rw [sw_nil, sw_nil]
  | succ n ih =>
    intro f g r out hn hf hg
    cases r with
    | nil => rw [sw_nil, sw_nil]
    | cons t r =>
      simp only [List.length_cons] at hn hf hg
      obtain ⟨f, rfl⟩ : ∃ f', f = f' + 1 := ⟨f - 1, by omega⟩
      obtain ⟨g, rfl⟩ : ∃ g', g = g' + 1 := ⟨g - 1, by omega⟩
      rw [sw, sw]
      have hr := st_rest most t.toNat r out
      split
      · exact ih f g _ _ (by omega) (by omega) (by omega)
      · rfl
/-- From any stage on. -/
def swell (most : Nat) (r out : List UInt8) : Int × List UInt8 := sw most r.length r out
theorem swell_nil (most : Nat) (out : List UInt8) : swell most [] out = (0, out) := sw_nil _ _ _
theorem swell_ok (most : Nat) (t : UInt8) (r out o' r' : List UInt8) (h : st most t.toNat r out = (0, o', r')) : swell most (t :: r) out = swell most r' o' := by
  unfold swell
  rw [List.length_cons, sw, h]
  simp only [if_true]
  apply sw_fuel
  have := st_rest most t.toNat r out
  rw [h] at this; exact this
theorem swell_bad (most : Nat) (t : UInt8) (r out o' r' : List UInt8) (c : Int) (hc : c ≠ 0) (h : st most t.toNat r out = (c, o', r')) : swell most (t :: r) out = (c, []) := by
  unfold swell
  rw [List.length_cons, sw, h]
  simp only [if_neg hc]
end Go.Proofs.YtppmjdmdflcoiabDoor
