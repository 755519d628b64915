/-
  Bytes copied, and multiplied in place.
-/
import Derived.Test.YtigaabhicjcbjabDoorT1
import Derived.Lib.SliceRun
namespace Go.Proofs.YtigaabhicjcbjabDoor
open Go.ChangeShapes Go.WideShapes Go.ChangeAt Go.RowKit
set_option linter.unusedVariables false

/-- 'append(out, news...)' as a law, at every type of lists of bytes. -/
theorem wpList_addT (T : TypeId) (hT : Tryd.prog.underlying T = some (.slice 5)) {w : World} {ops : Array Oper} {rest : List Oper} {o : Oper} {a : Act} {Q : Exit → Act → World → Prop} (hgd : o.guard = none) (s x : Operand)
    (ho : o.op = .call { callee := .builtin .append, args := #[s, x], argTypes := #[T, T] }) (base : Nat) (v : Value) (l : List UInt8) (hs : a.eval s = v) (hown : Owns w base v l)
    (b off m c : Nat) (news : List UInt8) (hx : a.eval x = .slice (some ⟨b, off, none⟩) m c) (hm : news.length = m) (hnews : BytesAt w b off news) (hb : l.length + news.length ≤ 140737488355328) (hbase : base ≤ w.heap.size)
    (h : ∀ v' w', Owns w' base v' (l ++ news) → Below base w w' → (v' = .slice none 0 0 ↔ v = .slice none 0 0 ∧ m = 0) → wpList Tryd.prog ops Q rest (a.put o.dst v') w') : wpList Tryd.prog ops Q (o :: rest) a w := by
  obtain ⟨i0, hi, hz0, hz1, hz2⟩ := info_parts Tryd.info5
  refine wpList_append_own w hgd s x T ho base 5 i0 (.int .u8 0) 1 1 hT hi hz0 hz1 hz2 rfl (by decide) v l.length (l.map by8) hs hown ⟨b, off, none⟩ m c (news.map by8) hx (by rw [List.length_map, hm, Nat.mul_one]) (add_bytes hnews) (by8_one _) (by unfold maxLen; omega) (by omega) hbase ?_
  intro v' w' h1 h2 h3
  refine h v' w' ?_ ((Below.refl base w).grown h2 hbase hown.block) h3
  unfold Owns
  rw [List.length_append, List.map_append, hm]
  exact h1
theorem owns_made (w : World) (k : Nat) (hk : k = w.heap.size) : Owns (w.alloc (.cells #[] 5)) w.heap.size (.slice (some ⟨k, 0, none⟩) 0 0) [] := by
  subst hk
  refine ⟨rfl, .inr ⟨w.heap.size, 0, #[], rfl, Nat.le_refl _, ?_, Nat.le_refl _, by unfold maxLen; omega, rfl, rfl⟩⟩
  show (w.heap.push _)[w.heap.size]? = _
  simp
theorem eql_nilT (a : Option Addr) (n c : Nat) (w : World) : (binOp .eql 82 (.slice a n c) (.slice none 0 0)).run Tryd.prog w = .ok (.bool a.isNone) w := Lib.run_eql_slice_nil (P := Tryd.prog) w 82 5 a n c 0 0 Tryd.underlying82
theorem eql_nilB (a : Option Addr) (n c : Nat) (w : World) : (binOp .eql 22 (.slice a n c) (.slice none 0 0)).run Tryd.prog w = .ok (.bool a.isNone) w := Lib.run_eql_slice_nil (P := Tryd.prog) w 22 5 a n c 0 0 Tryd.underlying22
/-- What Clone leaves. -/
def ClonePost (w : World) (l : List UInt8) (e : Ending) (w' : World) : Prop := ∃ v, e = .returned v ∧ Owns w' w.heap.size v l ∧ Below w.heap.size w w'
set_option maxRecDepth 100000 in
theorem cloneT_some (l : List UInt8) (n b off cap : Nat) (w : World) (hn : n = l.length) (hl : l.length ≤ 140737488355328) (hb : b < w.heap.size) (hc : BytesAt w b off l) :
    Calls Tryd.prog 69 #[.slice (some ⟨b, off, none⟩) n cap] w fun e w' => ∃ v, e = .returned v ∧ v ≠ .slice none 0 0 ∧ Owns w' w.heap.size v l ∧ Below w.heap.size w w' := by
  have HC : Hid (BytesAt w b off l) := hc
  clear hc
  have heq := eql_nilT
  go_enter Tryd.func69, Tryd.ntmps69
  go_wp2_with (at_builtin; refine wpList_addT 82 Tryd.underlying82 rfl _ _ rfl w.heap.size _ [] rfl (owns_made w _ rfl) b off n cap l rfl hn.symm (HC.out.below ((Below.refl _ _).alloc (Nat.le_refl _) _) hb) (by simpa using hl) (by simp) ?_; intro v' w' h1 h2 h3)
  have h2' : Below w.heap.size w w' := ((Below.refl _ _).alloc (Nat.le_refl _) _).trans h2
  have HO : Hid (Owns w' w.heap.size v' l) := h1
  have H3 : Hid (v' ≠ .slice none 0 0) := fun e => by cases (h3.1 e).1
  clear h1 h2 h3
  go_wp2
  go_ret
  exact ⟨v', rfl, H3.out, HO.out, h2'⟩
set_option maxRecDepth 100000 in
theorem cloneB_some (l : List UInt8) (n b off cap : Nat) (w : World) (hn : n = l.length) (hl : l.length ≤ 140737488355328) (hb : b < w.heap.size) (hc : BytesAt w b off l) :
    Calls Tryd.prog 65 #[.slice (some ⟨b, off, none⟩) n cap] w (ClonePost w l) := by
  have HC : Hid (BytesAt w b off l) := hc
  clear hc
  have heq := eql_nilB
  go_enter Tryd.func65, Tryd.ntmps65
  go_wp2_with (at_builtin; refine wpList_addT 22 Tryd.underlying22 rfl _ _ rfl w.heap.size _ [] rfl (owns_made w _ rfl) b off n cap l rfl hn.symm (HC.out.below ((Below.refl _ _).alloc (Nat.le_refl _) _) hb) (by simpa using hl) (by simp) ?_; intro v' w' h1 h2 h3)
  have h2' : Below w.heap.size w w' := ((Below.refl _ _).alloc (Nat.le_refl _) _).trans h2
  have HO : Hid (Owns w' w.heap.size v' l) := h1
  clear h1 h2 h3
  go_wp2
  go_ret
  exact ⟨v', rfl, HO.out, h2'⟩
set_option maxRecDepth 100000 in
theorem cloneB_nil (w : World) : Calls Tryd.prog 65 #[.slice none 0 0] w (ClonePost w []) := by
  have heq := eql_nilB
  go_enter Tryd.func65, Tryd.ntmps65
  go_wp2
  go_ret
  exact ⟨_, rfl, owns_nil _ _, Below.refl _ _⟩
theorem cloneB_any (l : List UInt8) (v : Value) (w : World) (hl : l.length ≤ 140737488355328) (hv : Rd w.heap.size w v l) : Calls Tryd.prog 65 #[v] w (ClonePost w l) := by
  rcases hv with ⟨rfl, rfl⟩ | ⟨b, off, cp, rfl, h2, h3⟩
  · exact cloneB_nil w
  · exact cloneB_some l _ b off cp w rfl hl h2 h3

theorem part_zero (B cap n : Nat) (k : Nat) : ∀ (f : Nat → UInt8) (w : World), k ≤ n → Part w B cap n (vec n f) → Part (w.setCells B (n - k) (List.replicate k (.int .u8 0))) B cap n (vec n (upto (n - k) f (fun _ => 0))) ∧ w.grownBy (w.setCells B (n - k) (List.replicate k (.int .u8 0))) (some B) := by
  induction k with
  | zero =>
    intro f w hk h
    refine ⟨?_, World.grownBy.refl _ _⟩
    show Part w B cap n _
    rw [Nat.sub_zero, upto_all]; exact h
  | succ k ih =>
    intro f w hk h
    have h1 : Part (w.setCell ⟨B, n - (k + 1), none⟩ (.int .u8 0)) B cap n (vec n (fun i => if i = n - (k + 1) then 0 else f i)) := by
      rw [← vec_set]; exact h.put _ 0
    obtain ⟨g1, g2⟩ := ih _ _ (by omega) h1
    rw [show n - k = n - (k + 1) + 1 by omega] at g1 g2
    refine ⟨?_, grown_trans (grown_set (World.grownBy.refl _ _) _) g2⟩
    refine (congrArg (Part _ B cap n) (vec_congr fun i hi => ?_)).mp g1
    simp only [upto]
    by_cases h1 : i < n - (k + 1)
    · rw [if_pos (by omega), if_pos h1, if_neg (by omega)]
    · by_cases h2 : i = n - (k + 1)
      · rw [if_pos (by omega), if_pos h2, if_neg h1]
      · rw [if_neg (by omega), if_neg h1]
theorem zero5 (w : World) : (zeroValue 5).run Tryd.prog w = .ok (.int .u8 0) w := by kernel_rfl
theorem run_clear (n N B cap : Nat) (f : Nat → UInt8) (w : World) (hN : N = n) (hn : 0 < n) (hp : Part w B cap n (vec n f)) : ∃ w', (∀ ty, (Builtin.clear_ #[82] ty #[.slice (some ⟨B, 0, none⟩) N cap]).run Tryd.prog w = .ok (.tuple #[]) w') ∧ Part w' B cap n (vec n (fun _ => 0)) ∧ w.grownBy w' (some B) := by
  subst hN
  obtain ⟨g1, g2⟩ := part_zero B cap N N f w (Nat.le_refl _) hp
  rw [Nat.sub_self] at g1 g2
  refine ⟨_, fun ty => Lib.run_clear_slice w 82 5 ty (.int .u8 0) Tryd.underlying82 zero5 rfl rfl B 0 N cap hn (fun j hj => ?_) (fun j hj => ?_), ?_, g2⟩
  · rw [Nat.zero_add, (hp.get j (by rw [vec_length]; exact hj)).1]; rfl
  · rw [Nat.zero_add]; exact (hp.get j (by rw [vec_length]; exact hj)).2
  · rw [upto_zero] at g1; exact g1
theorem Owns.part {w : World} {base g cp n : Nat} {l : List UInt8} (h : Owns w base (.slice (Option.some ⟨g, 0, Option.none⟩) n cp) l) (hn : n = l.length) : Part w g cp n l := by
  subst hn; exact Part.of_owns h

theorem b8_and1 (c : Nat) (hc : c < 256) : bits .and .u8 (c : Int) 1 = ((c % 2 : Nat) : Int) := by
  have h := u8_and_nat c 1 hc (by omega)
  rw [Nat.and_one_is_mod] at h
  simpa using h
theorem ml_fuel (m : Nat) : ∀ n c x, c < 2 ^ m → m ≤ n → Gf.ml n c x = Gf.ml m c x := by
  induction m with
  | zero => intro n c x hc _; obtain rfl : c = 0 := by simpa using hc
            rw [Gf.ml_stop, Gf.ml_stop]
  | succ m ih =>
    intro n c x hc hn
    obtain ⟨n, rfl⟩ : ∃ n', n = n' + 1 := ⟨n - 1, by omega⟩
    simp only [Gf.ml]
    rw [ih n (c / 2) _ (by rw [Nat.pow_succ] at hc; omega) (by omega)]
/-- The rest of a product, at a byte. -/
def mlU (c : Nat) (x : UInt8) : UInt8 := UInt8.ofNat (Gf.ml 8 c x.toNat)
theorem mlU_step (c : Nat) (hc : c < 256) (x : UInt8) : mlU c x = (if c % 2 = 1 then x else 0) ^^^ mlU (c / 2) (dbl x) := by
  apply u8_ext
  rw [UInt8.toNat_xor]
  unfold mlU
  rw [u8_ofNat (Gf.ml_lt _ _ (u8_lt x)), u8_ofNat (Gf.ml_lt _ _ (u8_lt _)), dbl_toNat]
  have e : Gf.ml 8 c x.toNat = (if c % 2 = 1 then x.toNat else 0) ^^^ Gf.ml 7 (c / 2) (Gf.d x.toNat) := rfl
  rw [e, ml_fuel 7 8 (c / 2) _ (by omega) (by omega)]
  split <;> rfl
theorem mlU_zero (x : UInt8) : mlU 0 x = 0 := by unfold mlU; rw [Gf.ml_stop]; rfl
theorem mlU_mulc (c x : UInt8) : mlU c.toNat x = mulc c x := rfl
end Go.Proofs.YtigaabhicjcbjabDoor
