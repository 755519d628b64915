/-
  Bytes multiplied in place.
-/
import Derived.Test.YtigaabhicjcbjabDoorT2
namespace Go.Proofs.YtigaabhicjcbjabDoor
open Go.ChangeShapes Go.WideShapes Go.ChangeAt Go.RowKit
set_option linter.unusedVariables false

theorem hid_mk {p : Prop} (h : p) : Hid p := h
theorem grown_of_below {w w' : World} (B : Nat) (h : Below w.heap.size w w') : w.grownBy w' (some B) := ⟨h.os, h.tape, h.output, h.size, fun k hk _ => h.block k hk⟩
theorem grown_new {w w' w'' : World} {B D : Nat} (h : w.grownBy w' (some B)) (h' : w'.grownBy w'' (some D)) (hD : w.heap.size ≤ D) : w.grownBy w'' (some B) :=
  ⟨h'.os.trans h.os, h'.tape.trans h.tape, h'.output.trans h.output, Nat.le_trans h.size h'.size, fun j hj hne => (h'.block j (Nat.lt_of_lt_of_le hj h.size) (fun e => by cases e; omega)).trans (h.block j hj hne)⟩
theorem Part.grown {w w' : World} {B D cap n : Nat} {l : List UInt8} (h : Part w D cap n l) (hg : w.grownBy w' (some B)) (hne : D ≠ B) : Part w' D cap n l := h.keep (hg.block D h.lt (by simpa using hne))
theorem Part.below {w w' : World} {D cap n K : Nat} {l : List UInt8} (h : Part w D cap n l) (hb : Below K w w') (hD : D < K) : Part w' D cap n l := h.keep (hb.block D hD)
theorem Owns.ptr {w : World} {base : Nat} {v : Value} {l : List UInt8} (h : Owns w base v l) (hv : v ≠ .slice Option.none 0 0) : ∃ g cp, v = .slice (Option.some ⟨g, 0, Option.none⟩) l.length cp ∧ base ≤ g ∧ Part w g cp l.length l := by
  obtain ⟨ao, cp, rfl⟩ := h.shape
  cases ao with
  | none => exact absurd (by obtain ⟨rfl, _, rfl⟩ := h.none; rfl) hv
  | some x =>
    obtain ⟨g, rfl, _, hb, _, _⟩ := h.some
    exact ⟨g, cp, rfl, hb, h.part rfl⟩
theorem mul_odd {C : Nat} (hC : C < 256) (ho : C % 2 = 1) {a g r : UInt8} (h : a ^^^ mlU C g = r) : (a ^^^ g) ^^^ mlU (C / 2) (dbl g) = r := by
  rw [← h, mlU_step C hC, if_pos ho, UInt8.xor_assoc]
theorem mul_even {C : Nat} (hC : C < 256) (ho : ¬ C % 2 = 1) {a g r : UInt8} (h : a ^^^ mlU C g = r) : a ^^^ mlU (C / 2) (dbl g) = r := by
  rw [← h, mlU_step C hC, if_neg ho, UInt8.zero_xor]
set_option maxRecDepth 100000 in
theorem times_any (c : UInt8) (f : Nat → UInt8) (n N B cap : Nat) (w : World) (hN : N = n) (h0 : 0 < n) (hn : n ≤ 140737488355328) (hp : Part w B cap n (vec n f)) :
    Calls Tryd.prog 66 #[.slice (some ⟨B, 0, none⟩) N cap, .int .u8 (c.toNat : Int)] w (AddPost w B cap n (vec n (fun i => mulc c (f i)))) := by
  subst hN
  have hBw := hp.lt
  have HP : Hid (Part w B cap N (vec N f)) := hp
  clear hp
  have hcl := cloneT_some (vec N f) N B 0 cap w (vec_length _ _).symm (by rw [vec_length]; exact hn) hBw HP.out.at
  have HCL := hid_mk hcl
  clear hcl
  go_enter Tryd.func66, Tryd.ntmps66
  go_wp2_with fail
  refine HCL.out.mono ?_
  rintro e w1 ⟨v, rfl, hv, hown, hb1⟩
  obtain ⟨D, dc, rfl, hD, hpD⟩ := hown.ptr hv
  rw [vec_length] at hpD ⊢
  have HB1 : Hid (Below w.heap.size w w1) := hb1
  have HD1 : Hid (Part w1 D dc N (vec N f)) := hpD
  obtain ⟨w2, hclr, hp2, hg2⟩ := run_clear N N B cap f w1 rfl h0 (HP.out.below hb1 hBw)
  have HP2 : Hid (Part w2 B cap N (vec N (fun _ => 0))) := hp2
  have HG2 : Hid (w.grownBy w2 (some B)) := grown_trans (grown_of_below B hb1) hg2
  have HD2 : Hid (Part w2 D dc N (vec N f)) := hpD.grown hg2 (by omega)
  clear hown hv hb1 hpD hp2 hg2 HCL HP
  go_wp2
  clear hclr
  go_loopw [1] (fun x wr => ∃ (C : Nat) (a g : Nat → UInt8), x = .int .u8 (C : Int) ∧ C < 256 ∧ (∀ i, a i ^^^ mlU C (g i) = mulc c (f i)) ∧ Part wr B cap N (vec N a) ∧ Part wr D dc N (vec N g) ∧ w.grownBy wr (some B)) (fun x _ => (intOf x).toNat)
  case atStart => exact ⟨c.toNat, fun _ => 0, f, rfl, u8_lt c, fun i => by rw [UInt8.zero_xor]; rfl, HP2.out, HD2.out, HG2.out⟩
  case round =>
    obtain ⟨C, a, g, rfl, hC, hinv, hpa, hpg, hg⟩ := hrel
    have HI : Hid (∀ i, a i ^^^ mlU C (g i) = mulc c (f i)) := hinv
    have HA : Hid (Part wr B cap N (vec N a)) := hpa
    have HGg : Hid (Part wr D dc N (vec N g)) := hpg
    have HG : Hid (w.grownBy wr (some B)) := hg
    clear hinv hpa hpg hg HP2 HG2 HD2 HB1 HD1
    by_cases hz : C = 0
    · subst hz
      go_wp2
      go_end0
      refine ⟨⟨_, rfl⟩, ?_, HG.out⟩
      rw [vec_congr (g := a) (fun i _ => by rw [← HI.out i, mlU_zero, UInt8.xor_zero])]
      exact HA.out
    · have hz' : ¬ (C : Int) = 0 := by omega
      have hDB : D ≠ B := by omega
      have ha1 := b8_and1 C hC
      by_cases ho : C % 2 = 1
      · have h1 : (bits .and .u8 (C : Int) 1 == 1) = true := by rw [ha1, ho]; rfl
        have HO : Hid (C % 2 = 1) := ho
        clear ha1 ho
        have hadd := hid_mk (add_any (vec N g) a N N B cap (.slice (some ⟨D, 0, none⟩) N dc) wr rfl hn HA.out (.inr (vec_length _ _)) (.inr ⟨D, 0, dc, by rw [vec_length], ⟨hDB, HGg.out.lt⟩, HGg.out.at⟩))
        go_wp2_with fail
        refine hadd.out.mono ?_
        rintro e w3 ⟨⟨v, rfl⟩, hp3, hg3⟩
        have HP3 : Hid (Part w3 B cap N (vec N (fun i => a i ^^^ at0 (vec N g) i))) := hp3
        have HD3 : Hid (Part w3 D dc N (vec N g)) := HGg.out.grown hg3 hDB
        have HG3 : Hid (w.grownBy w3 (some B)) := grown_trans HG.out hg3
        clear hp3 hg3 hadd
        have hd := hid_mk (tdouble_any g N N D dc w3 rfl hn HD3.out)
        go_wp2_with fail
        refine hd.out.mono ?_
        rintro e w4 ⟨⟨v, rfl⟩, hp4, hg4⟩
        have HP4 : Hid (Part w4 B cap N (vec N (fun i => a i ^^^ at0 (vec N g) i))) := HP3.out.grown hg4 (Ne.symm hDB)
        have HD4 : Hid (Part w4 D dc N (vec N (fun i => dbl (g i)))) := hp4
        have HG4 : Hid (w.grownBy w4 (some B)) := grown_new HG3.out hg4 hD
        clear hp4 hg4 hd
        go_wp2
        go_roundw
        case rel =>
          refine ⟨C / 2, fun i => a i ^^^ g i, fun i => dbl (g i), by go_num, by omega, fun i => mul_odd hC HO.out (HI.out i), ?_, HD4.out, HG4.out⟩
          rw [vec_congr (g := fun i => a i ^^^ at0 (vec N g) i) (fun i hi => by rw [vec_at hi])]
          exact HP4.out
        case measure => simp [intOf]; omega
      · have h1 : (bits .and .u8 (C : Int) 1 == 1) = false := by rw [ha1, show C % 2 = 0 by omega]; rfl
        have HO : Hid (¬ C % 2 = 1) := ho
        clear ha1 ho
        have hd := hid_mk (tdouble_any g N N D dc wr rfl hn HGg.out)
        go_wp2_with fail
        refine hd.out.mono ?_
        rintro e w4 ⟨⟨v, rfl⟩, hp4, hg4⟩
        have HP4 : Hid (Part w4 B cap N (vec N a)) := HA.out.grown hg4 (Ne.symm hDB)
        have HD4 : Hid (Part w4 D dc N (vec N (fun i => dbl (g i)))) := hp4
        have HG4 : Hid (w.grownBy w4 (some B)) := grown_new HG.out hg4 hD
        clear hp4 hg4 hd
        go_wp2
        go_roundw
        case rel => exact ⟨C / 2, a, fun i => dbl (g i), by go_num, by omega, fun i => mul_even hC HO.out (HI.out i), HP4.out, HD4.out, HG4.out⟩
        case measure => simp [intOf]; omega
end Go.Proofs.YtigaabhicjcbjabDoor
