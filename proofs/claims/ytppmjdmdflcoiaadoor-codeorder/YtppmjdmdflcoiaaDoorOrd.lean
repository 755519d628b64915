/-
  The document's own Order: the walk.
-/
import Derived.Test.YtppmjdmdflcoiaaDoorRf
import Derived.RegionTactic
import Derived.BigRegion
import Derived.Handy
namespace Go.Proofs.YtppmjdmdflcoiaaDoor
open Go.ChangeShapes Go.WideShapes Go.ChangeAt Go.RowKit
set_option linter.unusedVariables false

/-- Whether a part that is not the same is ahead (as the document's answer has it). -/
def ltP (p q : PartD) : Prop := (p.kind ≠ q.kind ∧ p.kind = 1) ∨ (p.kind = q.kind ∧ (p.num < q.num ∨ Op.bytesLess p.text q.text = true))
/-- The order of two keys: by the first part that differs; else by their lengths. -/
def OrdR (ps qs : List PartD) (r : Int) : Prop :=
  (∃ k, ∃ (h1 : k < ps.length) (h2 : k < qs.length), ps.take k = qs.take k ∧ ps[k] ≠ qs[k] ∧ ((ltP ps[k] qs[k] ∧ r = -1) ∨ (¬ ltP ps[k] qs[k] ∧ r = 1))) ∨
  (∃ k, ps.take k = qs.take k ∧ ((k = ps.length ∧ k < qs.length ∧ r = -1) ∨ (k = qs.length ∧ k < ps.length ∧ r = 1) ∨ (k = ps.length ∧ k = qs.length ∧ r = 0)))
theorem ordR_same {ps : List PartD} {r : Int} (h : OrdR ps ps r) : r = 0 := by
  rcases h with ⟨k, h1, h2, _, hne, _⟩ | ⟨k, _, h | h | h⟩
  · exact absurd rfl hne
  · omega
  · omega
  · exact h.2.2
theorem str_toList (l : List UInt8) : (str l).toList = l := by rw [ByteArray.toList_eq]; exact bl_str l

set_option maxRecDepth 1000000 in
set_option maxHeartbeats 3200000 in
theorem order_any (ps qs : List PartD) (n m b off cap b' off' cap' : Nat) (w : World) (hn : n = ps.length) (hm : m = qs.length) (hps : ps.length ≤ 140737488355328) (hqs : qs.length ≤ 140737488355328) (hb : b < w.heap.size) (hb' : b' < w.heap.size) (hc : PartsAt w b off ps) (hc' : PartsAt w b' off' qs) :
    Calls Tryd.prog 15 #[.slice (some ⟨b, off, none⟩) n cap, .slice (some ⟨b', off', none⟩) m cap'] w fun e w' => ∃ r, e = .returned (.int .i64 r) ∧ OrdR ps qs r ∧ Below w.heap.size w w' := by
  subst hn hm
  have HC : Hid (PartsAt w b off ps) := hc
  have HC' : Hid (PartsAt w b' off' qs) := hc'
  clear hc hc'
  go_enter Tryd.func15, Tryd.ntmps15
  go_wp2
  go_loopw [5] (fun i wr => ∃ k : Nat, i = .int .i64 k ∧ k ≤ ps.length ∧ k ≤ qs.length ∧ ps.take k = qs.take k ∧ Below w.heap.size w wr) (fun i _ => ps.length - (intOf i).toNat)
  case atStart => exact ⟨0, rfl, by omega, by omega, rfl, Below.refl _ _⟩
  case round =>
    obtain ⟨k, rfl, hk, hk', htk, hbel⟩ := hrel
    have HTK : Hid (ps.take k = qs.take k) := htk
    have HBL : Hid (Below w.heap.size w wr) := hbel
    have hsz : w.heap.size ≤ wr.heap.size := hbel.size
    clear htk hbel
    by_cases hlt : k < ps.length ∧ k < qs.length
    · obtain ⟨hl1, hl2⟩ := hlt
      obtain ⟨p, hp⟩ : ∃ p, p = ps[k] := ⟨_, rfl⟩
      obtain ⟨c1, c2, c3⟩ := (HC.out.below HBL.out hb) k hl1
      rw [← hp] at c1 c2 c3
      obtain ⟨q, hq⟩ : ∃ q, q = qs[k] := ⟨_, rfl⟩
      obtain ⟨d1, d2, d3⟩ := (HC'.out.below HBL.out hb') k hl2
      rw [← hq] at d1 d2 d3
      have HP : Hid (p = ps[k]) := hp
      have HQ : Hid (q = qs[k]) := hq
      have HLT : Hid (p ≠ q → ltP p q → OrdR ps qs (-1)) := fun hne h => .inl ⟨k, hl1, hl2, HTK.out, by rw [← HP.out, ← HQ.out]; exact hne, .inl ⟨by rw [← HP.out, ← HQ.out]; exact h, rfl⟩⟩
      have HGT : Hid (p ≠ q → ¬ ltP p q → OrdR ps qs 1) := fun hne h => .inl ⟨k, hl1, hl2, HTK.out, by rw [← HP.out, ← HQ.out]; exact hne, .inr ⟨by rw [← HP.out, ← HQ.out]; exact h, rfl⟩⟩
      have HEQ : Hid (p = q → ps.take (k + 1) = qs.take (k + 1)) := fun h => by rw [List.take_succ_eq_append_getElem hl1, List.take_succ_eq_append_getElem hl2, HTK.out, ← HP.out, ← HQ.out, h]
      clear hp hq
      obtain ⟨pk, pn, pt⟩ := p
      obtain ⟨qk, qn, qt⟩ := q
      simp only at c1 c2 c3 d1 d2 d3
      have hb1 : b < wr.heap.size := by omega
      have hb2 : b' < wr.heap.size := by omega
      have eP := str_toList pt
      have eQ := str_toList qt
      by_cases hkk : pk = qk
      · subst hkk
        by_cases hnn : pn = qn
        · subst hnn
          by_cases htt : pt = qt
          · subst htt
            have HE2 := HEQ.out rfl
            have HE3 : Hid (ps.take (k + 1) = qs.take (k + 1)) := HE2
            clear HE2 HEQ HLT HGT HP HQ
            go_wp2
            go_region
            all_goals go_wp2
            all_goals
              go_roundw
              case rel => exact ⟨k + 1, by go_num, by omega, by omega, HE3.out, by have h := HBL.out; go_grown⟩
              case measure => simp [intOf]; omega
          · have hne : (PartD.mk pk pn pt) ≠ ⟨pk, pn, qt⟩ := fun e => htt (by injection e)
            cases hbl : Op.bytesLess pt qt with
            | true =>
              have HF : Hid (OrdR ps qs (-1)) := HLT.out hne (.inr ⟨rfl, .inr hbl⟩)
              clear HEQ HLT HGT HP HQ hne
              go_wp2
              go_region
              all_goals go_wp2
              all_goals (go_ret; exact ⟨-1, rfl, HF.out, by have h := HBL.out; go_grown⟩)
            | false =>
              have HF : Hid (OrdR ps qs 1) := HGT.out hne (by rintro (h | h); exact h.1 rfl; rcases h.2 with h2 | h2; simp only at h2; omega; simp only at h2; rw [hbl] at h2; cases h2)
              clear HEQ HLT HGT HP HQ hne
              go_wp2
              go_region
              all_goals go_wp2
              all_goals (go_ret; exact ⟨1, rfl, HF.out, by have h := HBL.out; go_grown⟩)
        · have hne : (PartD.mk pk pn pt) ≠ ⟨pk, qn, qt⟩ := fun e => hnn (by injection e)
          have hnn' : ¬ (pn : Int) = (qn : Int) := by omega
          by_cases hlt : pn < qn
          · have hlt' : (pn : Int) < (qn : Int) := by omega
            have HF : Hid (OrdR ps qs (-1)) := HLT.out hne (.inr ⟨rfl, .inl hlt⟩)
            clear HEQ HLT HGT HP HQ hne
            go_wp2
            go_region
            all_goals go_wp2
            all_goals (go_ret; exact ⟨-1, rfl, HF.out, by have h := HBL.out; go_grown⟩)
          · have hlt' : ¬ (pn : Int) < (qn : Int) := by omega
            have hltd : decide ((pn : Int) < (qn : Int)) = false := by simpa using hlt'
            cases hbl : Op.bytesLess pt qt with
            | true =>
              have HF : Hid (OrdR ps qs (-1)) := HLT.out hne (.inr ⟨rfl, .inr hbl⟩)
              clear HEQ HLT HGT HP HQ hne
              go_wp2
              go_region
              all_goals go_wp2
              all_goals (go_ret; exact ⟨-1, rfl, HF.out, by have h := HBL.out; go_grown⟩)
            | false =>
              have HF : Hid (OrdR ps qs 1) := HGT.out hne (by rintro (h | h); exact h.1 rfl; rcases h.2 with h2 | h2; exact hlt h2; simp only at h2; rw [hbl] at h2; cases h2)
              clear HEQ HLT HGT HP HQ hne
              go_wp2
              go_region
              all_goals go_wp2
              all_goals (go_ret; exact ⟨1, rfl, HF.out, by have h := HBL.out; go_grown⟩)
      · have hne : (PartD.mk pk pn pt) ≠ ⟨qk, qn, qt⟩ := fun e => hkk (by injection e)
        have hkk1 : (pk != qk) = true := by simpa using hkk
        have hkk2 : (pk == qk) = false := by simpa using hkk
        by_cases hk1 : pk = 1
        · have hk1' : (pk == 1) = true := by simp [hk1]
          have HF : Hid (OrdR ps qs (-1)) := HLT.out hne (.inl ⟨hkk, hk1⟩)
          clear HEQ HLT HGT HP HQ hne hk1
          go_wp2
          go_region
          all_goals go_wp2
          all_goals (go_ret; exact ⟨-1, rfl, HF.out, by have h := HBL.out; go_grown⟩)
        · have hk1' : (pk == 1) = false := by simpa using hk1
          have HF : Hid (OrdR ps qs 1) := HGT.out hne (by rintro (h | h); exact hk1 h.2; exact hkk h.1)
          clear HEQ HLT HGT HP HQ hne hk1
          go_wp2
          go_region
          all_goals go_wp2
          all_goals (go_ret; exact ⟨1, rfl, HF.out, by have h := HBL.out; go_grown⟩)
    · have HFE : Hid ((ps.length < qs.length → OrdR ps qs (-1)) ∧ (qs.length < ps.length → OrdR ps qs 1) ∧ (ps.length = qs.length → OrdR ps qs 0)) := by
        refine ⟨fun h => .inr ⟨k, HTK.out, .inl ⟨by omega, by omega, rfl⟩⟩, fun h => .inr ⟨k, HTK.out, .inr (.inl ⟨by omega, by omega, rfl⟩)⟩, fun h => .inr ⟨k, HTK.out, .inr (.inr ⟨by omega, by omega, rfl⟩)⟩⟩
      have hB2 := HBL.out
      have HBB : Hid (Below w.heap.size w wr) := hB2
      clear hB2
      by_cases h1 : (ps.length : Int) < (qs.length : Int)
      · by_cases hkl : (k : Int) < (ps.length : Int)
        · omega
        · go_wp2
          go_ret
          exact ⟨-1, rfl, HFE.out.1 (by omega), HBB.out⟩
      · by_cases h2 : (qs.length : Int) < (ps.length : Int)
        · have hkl : (k : Int) < (ps.length : Int) := by omega
          go_wp2
          go_ret
          exact ⟨1, rfl, HFE.out.2.1 (by omega), HBB.out⟩
        · go_wp2
          go_ret
          exact ⟨0, rfl, HFE.out.2.2 (by omega), HBB.out⟩
end Go.Proofs.YtppmjdmdflcoiaaDoor
