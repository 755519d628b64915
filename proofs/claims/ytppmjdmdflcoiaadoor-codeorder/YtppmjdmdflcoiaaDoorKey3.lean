/-
  code.Key and plain.CodeKey: the walks.
-/
import Derived.Test.YtppmjdmdflcoiaaDoorKey2
namespace Go.Proofs.YtppmjdmdflcoiaaDoor
open Go.ChangeShapes Go.WideShapes Go.ChangeAt Go.RowKit
set_option linter.unusedVariables false

/-- A text of these bytes. -/
def str (l : List UInt8) : ByteArray := ⟨l.toArray⟩
theorem bl_str (l : List UInt8) : bl (str l) = l := by simp [bl, str]
theorem str_bl (t : ByteArray) : str (bl t) = t := by simp [bl, str]
theorem str_size (l : List UInt8) : (str l).size = l.length := by simp [str, ByteArray.size]

/-- A part that a Go value can be. -/
def PartD.wf (p : PartD) : Prop := -9223372036854775808 ≤ p.kind ∧ p.kind ≤ 9223372036854775807 ∧ p.num < 18446744073709551616 ∧ p.text.length ≤ 9223372036854775807
/-- Parts that lie somewhere. -/
def PartsAt (w : World) (b off : Nat) (ps : List PartD) : Prop := ∀ i (hi : i < ps.length), w.cell? ⟨b, off + i * 3, none⟩ = some (.int .i64 ps[i].kind) ∧ w.cell? ⟨b, off + i * 3 + 1, none⟩ = some (.int .u64 (ps[i].num : Int)) ∧ w.cell? ⟨b, off + i * 3 + 2, none⟩ = some (.string (str ps[i].text))
theorem PartsAt.below {w w' : World} {b B off : Nat} {ps : List PartD} (h : PartsAt w b off ps) (hb : Below B w w') (hB : b < B) : PartsAt w' b off ps := fun i hi =>
  ⟨(hb.cell (p := ⟨b, _, none⟩) hB).trans (h i hi).1, (hb.cell (p := ⟨b, _, none⟩) hB).trans (h i hi).2.1, (hb.cell (p := ⟨b, _, none⟩) hB).trans (h i hi).2.2⟩

theorem Owns.below {w w' : World} {base : Nat} {v : Value} {l : List UInt8} (h : Owns w base v l) (hb : Below w.heap.size w w') : Owns w' base v l := by
  refine ⟨h.1, ?_⟩
  rcases h.2 with hn | ⟨g, c, cur, h3, h4, h5, h6⟩
  · exact .inl hn
  · exact .inr ⟨g, c, cur, h3, h4, by rw [hb.block g (Array.getElem?_eq_some_iff.1 h5).1]; exact h5, h6⟩
theorem errV_zero : errV 0 = .nilIface := rfl
theorem errV_ne {c : Int} (h : c ≠ 0) : errV c = .iface 31 (.int .i64 c) := if_neg h

theorem key_many (b off cap n : Nat) (w : World) (hn : 8 < n) :
    Calls Tryd.prog 22 #[.slice (some ⟨b, off, none⟩) n cap] w fun e w' => e = .returned (.tuple #[.slice none 0 0, .iface 31 (.int .i64 14)]) ∧ w' = w := by
  have hn' : (8 : Int) < (n : Int) := by omega
  go_enter Tryd.func22, Tryd.ntmps22
  go_wp2
  go_ret2
  exact ⟨rfl, rfl⟩

/-- What Key leaves. -/
def KeyPost (ps : List PartD) (w : World) (e : Ending) (w' : World) : Prop :=
  ∃ v, e = .returned (.tuple #[if errs ps = 0 then v else .slice none 0 0, errV (errs ps)]) ∧ (errs ps = 0 → Owns w' w.heap.size v (encKey ps)) ∧ Below w.heap.size w w'
theorem keyPost_bad {ps : List PartD} {w w' : World} {c : Int} (h : errs ps = c) (hc : c ≠ 0) (hb : Below w.heap.size w w') : KeyPost ps w (.returned (.tuple #[.slice none 0 0, .iface 31 (.int .i64 c)])) w' :=
  ⟨.slice none 0 0, by rw [h, if_neg hc, errV_ne hc], fun e => absurd (h.symm.trans e) hc, hb⟩
theorem keyPost_good {ps : List PartD} {w w' : World} {v : Value} (h : errs ps = 0) (ho : Owns w' w.heap.size v (encKey ps)) (hb : Below w.heap.size w w') : KeyPost ps w (.returned (.tuple #[v, .nilIface])) w' :=
  ⟨v, by rw [h, if_pos rfl]; rfl, fun _ => ho, hb⟩

set_option maxRecDepth 1000000 in
set_option maxHeartbeats 1600000 in
theorem key_any (ps : List PartD) (b off cap : Nat) (w : World) (h8 : ps.length ≤ 8) (hwf : ∀ p ∈ ps, p.wf) (hb : b < w.heap.size) (hc : PartsAt w b off ps) :
    Calls Tryd.prog 22 #[.slice (some ⟨b, off, none⟩) ps.length cap] w (KeyPost ps w) := by
  have HC : Hid (PartsAt w b off ps) := hc
  have HW : Hid (∀ p ∈ ps, p.wf) := hwf
  have h8' : ¬ (8 : Int) < (ps.length : Int) := by omega
  clear hc hwf
  go_enter Tryd.func22, Tryd.ntmps22
  go_wp2
  go_loopw [4, 14] (fun o i wr => ∃ (k : Nat) (vo : Value), vo = o ∧ i = .int .i64 k ∧ k ≤ ps.length ∧ errs (ps.take k) = 0 ∧ (encKey (ps.take k)).length ≤ 122 * k ∧ Owns wr w.heap.size vo (encKey (ps.take k)) ∧ Below w.heap.size w wr) (fun _ i _ => ps.length - (intOf i).toNat)
  case atStart => exact ⟨0, _, rfl, rfl, by omega, rfl, by simp [encKey], owns_nil _ _, Below.refl _ _⟩
  case round =>
    obtain ⟨k, v0, rfl, rfl, hk, herr, hlen, hown, hbel⟩ := hrel
    have HE : Hid (errs (ps.take k) = 0) := herr
    have HOW : Hid (Owns wr w.heap.size v0 (encKey (ps.take k))) := hown
    have HBL : Hid (Below w.heap.size w wr) := hbel
    obtain ⟨D, hD⟩ : ∃ D, D = encKey (ps.take k) := ⟨_, rfl⟩
    have HD : Hid (D = encKey (ps.take k)) := hD
    rw [← hD] at hlen HOW
    clear herr hown hbel hD
    by_cases hlt : k < ps.length
    · obtain ⟨p, hp⟩ : ∃ p, p = ps[k] := ⟨_, rfl⟩
      obtain ⟨c1, c2, c3⟩ := (HC.out.below HBL.out hb) k hlt
      rw [← hp] at c1 c2 c3
      have hpw : p.wf := by rw [hp]; exact HW.out _ (List.getElem_mem hlt)
      have HP : Hid (p = ps[k]) := hp
      clear hp
      obtain ⟨pk, pn, pt⟩ := p
      simp only at c1 c2 c3
      have hch := check_any pk pn (str pt) (wr.alloc (.cells #[.int .i64 pk, .int .u64 pn, .string (str pt)] 54)) hpw.2.2.1
      have hpd : partD pk pn (str pt) = ⟨pk, pn, pt⟩ := by simp [partD, bl_str]
      rw [hpd] at hch
      unfold partV at hch
      have HCH : Hid (Calls Tryd.prog 26 #[.agg #[.int .i64 pk, .int .u64 pn, .string (str pt)]] (wr.alloc (.cells #[.int .i64 pk, .int .u64 pn, .string (str pt)] 54)) fun e w' => e = .returned (errV (PartD.mk pk pn pt).err) ∧ Below (wr.alloc (.cells #[.int .i64 pk, .int .u64 pn, .string (str pt)] 54)).heap.size (wr.alloc (.cells #[.int .i64 pk, .int .u64 pn, .string (str pt)] 54)) w') := hch
      have HPW : Hid ((PartD.mk pk pn pt).wf) := hpw
      clear hch hpd hpw
      have hsz : w.heap.size ≤ wr.heap.size := HBL.out.size
      by_cases he : (PartD.mk pk pn pt).err = 0
      · have HEE : Hid ((PartD.mk pk pn pt).err = 0) := he
        have htk : Hid (errs (ps.take (k + 1)) = 0) := by
          have h := (errs_take ps k hlt HE.out).1
          rw [← HP.out, he] at h; exact h
        have henc : Hid (encKey (ps.take (k + 1)) = D ++ encPart (PartD.mk pk pn pt)) := by
          show encKey _ = _
          rw [List.take_succ_eq_append_getElem hlt, encKey, List.flatMap_append, HD.out, HP.out]; simp [encKey]
        have hel := encPart_length _ he
        have HEL : Hid ((encPart (PartD.mk pk pn pt)).length ≤ 122) := hel
        have HKK : Hid (pk = 1 ∨ (¬ pk = 1 ∧ pk = 2 ∧ pt.length ≤ 60)) := by
          show pk = 1 ∨ (¬ pk = 1 ∧ pk = 2 ∧ pt.length ≤ 60)
          unfold PartD.err at he
          by_cases h1 : pk = 1
          · exact .inl h1
          · by_cases h2 : pk = 2
            · refine .inr ⟨h1, h2, ?_⟩
              simp [h2] at he
              by_cases h0 : pn = 0
              · simp [h0] at he
                by_cases h60 : pt.length ≤ 60
                · exact h60
                · exfalso; omega
              · simp [h0] at he
            · simp [h1, h2] at he
        clear he hel
        go_wp2_with fail
        refine HCH.out.mono ?_
        rintro e w1 ⟨rfl, hb1⟩
        rw [HEE.out, errV_zero]
        clear c1 c2 c3
        have d1 : w1.cell? ⟨wr.heap.size, 0, none⟩ = some (.int .i64 pk) := by rw [hb1.cell (p := ⟨wr.heap.size, 0, none⟩) (by simp)]; simp
        have d2 : w1.cell? ⟨wr.heap.size, 1, none⟩ = some (.int .u64 (pn : Int)) := by rw [hb1.cell (p := ⟨wr.heap.size, 1, none⟩) (by simp)]; simp
        have d3 : w1.cell? ⟨wr.heap.size, 2, none⟩ = some (.string (str pt)) := by rw [hb1.cell (p := ⟨wr.heap.size, 2, none⟩) (by simp)]; simp
        have hz1 : wr.heap.size < w1.heap.size := by have := hb1.size; simp at this; omega
        have bel1 : Below wr.heap.size wr w1 := ((Below.refl _ _).alloc (Nat.le_refl _) _).trans (hb1.mono (by simp))
        have HO1 : Hid (Owns w1 w.heap.size v0 D) := HOW.out.below bel1
        have HB1 : Hid (Below w.heap.size w w1) := HBL.out.trans (bel1.mono hsz)
        clear hb1 bel1
        have hbs : w.heap.size ≤ w1.heap.size := by omega
        rcases HKK.out with hk1 | ⟨hk1, hk2, h60⟩
        · have hk1' : (pk == 1) = true := by simp [hk1]
          have HEN : Hid (encPart (PartD.mk pk pn pt) = encNum pn) := if_pos hk1
          have han := addNumber_any pn D v0 w.heap.size w1 HPW.out.2.2.1 (by omega) hbs HO1.out
          clear hk1
          go_wp2_with (go_at_call 27; refine han.mono ?_; rintro e w2 ⟨v2, rfl, hown2, hbel2⟩)
          have HO2 : Hid (Owns w2 w.heap.size v2 (encKey (ps.take (k + 1)))) := by show Owns _ _ _ _; rw [henc.out, HEN.out]; exact hown2
          have HB2 : Hid (Below w.heap.size w w2) := HB1.out.trans hbel2
          clear hown2 hbel2 han
          go_wp2
          go_roundw
          case rel => exact ⟨k + 1, _, rfl, by go_num, by omega, htk.out, by rw [henc.out, List.length_append]; have := HEL.out; omega, HO2.out, HB2.out⟩
          case measure => simp [intOf]; omega
        · have hk1' : (pk == 1) = false := by simpa using hk1
          have hk2' : (pk == 2) = true := by simp [hk2]
          have HEN : Hid (encPart (PartD.mk pk pn pt) = encText pt) := if_neg hk1
          have hat := addText_any (str pt) D v0 w.heap.size w1 (by rw [str_size]; omega) (by omega) hbs HO1.out
          rw [bl_str] at hat
          clear hk1 hk2 h60
          go_wp2_with (go_at_call 28; refine hat.mono ?_; rintro e w2 ⟨v2, rfl, hown2, hbel2, hne2⟩)
          have HO2 : Hid (Owns w2 w.heap.size v2 (encKey (ps.take (k + 1)))) := by show Owns _ _ _ _; rw [henc.out, HEN.out]; exact hown2
          have HB2 : Hid (Below w.heap.size w w2) := HB1.out.trans hbel2
          clear hown2 hbel2 hat hne2
          go_wp2
          go_roundw
          case rel => exact ⟨k + 1, _, rfl, by go_num, by omega, htk.out, by rw [henc.out, List.length_append]; have := HEL.out; omega, HO2.out, HB2.out⟩
          case measure => simp [intOf]; omega
      · have HER : Hid (errs ps = (PartD.mk pk pn pt).err ∧ (PartD.mk pk pn pt).err ≠ 0) := by
          refine ⟨?_, he⟩
          have h := errs_bad ps k hlt HE.out (by rw [← HP.out]; exact he)
          rw [← HP.out] at h; exact h
        clear he
        go_wp2_with fail
        refine HCH.out.mono ?_
        rintro e w1 ⟨rfl, hb1⟩
        rw [errV_ne HER.out.2]
        have HB1 : Hid (Below w.heap.size w w1) := (HBL.out.alloc hsz _).trans (hb1.mono (by simp; omega))
        clear hb1
        go_wp2
        go_ret2
        exact keyPost_bad HER.out.1 HER.out.2 HB1.out
    · have hkk : k = ps.length := by omega
      have HF : Hid (errs ps = 0 ∧ Owns wr w.heap.size v0 (encKey ps)) := by
        have h1 := HE.out
        have h2 := HOW.out
        rw [HD.out] at h2
        rw [hkk, List.take_length] at h1 h2
        exact ⟨h1, h2⟩
      clear hkk
      go_wp2
      go_ret2
      exact keyPost_good HF.out.1 HF.out.2 HBL.out
end Go.Proofs.YtppmjdmdflcoiaaDoor
