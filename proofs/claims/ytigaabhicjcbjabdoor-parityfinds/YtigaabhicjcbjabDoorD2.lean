/-
  The document's own 'whole', and fits where one piece is taken away.
-/
import Derived.Test.YtigaabhicjcbjabDoorF7
import Derived.Test.YtigaabhicjcbjabDoorD1
namespace Go.Proofs.YtigaabhicjcbjabDoor
open Go.ChangeShapes Go.WideShapes Go.ChangeAt Go.RowKit
set_option linter.unusedVariables false

/-- Pieces of which none is lost. -/
structure Full (L : List (List UInt8)) (n lv sz : Nat) : Prop where
  len : L.length = n + lv
  lv2 : lv ≤ 2
  n16 : n ≤ 16
  sz4 : sz ≤ 4096
  all : ∀ b ∈ L, b.length = 0 ∨ b.length = sz
  gap : gaps 0 (L.take n) = []
  p0 : 1 ≤ lv → (pOf L n).length ≠ 0
  q0 : 2 ≤ lv → (qOf L n).length ≠ 0
/-- What a question leaves. -/
def AskPost (P : Prop) (w : World) (e : Ending) (w' : World) : Prop := ∃ r : Bool, e = .returned (.bool r) ∧ (r = true ↔ P) ∧ Below w.heap.size w w'
theorem lost_of_gaps {D : List (List UInt8)} (h : gaps 0 D = []) : lostN D = 0 := by unfold lostN; rw [h]; rfl
theorem full_fits {L : List (List UInt8)} {n lv sz i : Nat} (h : Full L n lv sz) (hi : i < sz) {v : Value} {V : World} (hv : Pcs V.heap.size V v L) :
    Calls Tryd.prog 36 #[v, .int .i64 (lv : Int), .int .i64 (i : Int), .slice none 0 0] V (AskPost (Whole1 L n lv i) V) :=
  (fits_any L n lv i sz [] v _ V h.len h.lv2 h.n16 h.sz4 hi h.all (by rw [lost_of_gaps h.gap]; rfl) hv (.inl ⟨rfl, rfl⟩)).mono fun e w' ⟨r, he, hr, hb⟩ => ⟨r, he, hr.trans (fit_none h.lv2 h.gap h.p0 h.q0), hb⟩
theorem set_all {L : List (List UInt8)} {sz j : Nat} (h : ∀ b ∈ L, b.length = 0 ∨ b.length = sz) : ∀ b ∈ L.set j [], b.length = 0 ∨ b.length = sz := fun b hb => by
  rcases List.mem_or_eq_of_mem_set hb with h1 | h1
  · exact h b h1
  · subst h1; exact .inl rfl
theorem more_fits {L : List (List UInt8)} {n sz i j : Nat} (h : Full L n 2 sz) (hi : i < sz) (hj : n ≤ j) (hj2 : j < n + 2) {v : Value} {V : World} (hv : Pcs V.heap.size V v (L.set j [])) :
    Calls Tryd.prog 36 #[v, .int .i64 2, .int .i64 (i : Int), .slice none 0 0] V (AskPost (Cand1 L n j i) V) := by
  have hm := fit_more (i := i) h.len hj hj2 h.gap (h.p0 (by omega)) (h.q0 (by omega))
  refine (fits_any (L.set j []) n 2 i sz [] v _ V (by rw [List.length_set]; exact h.len) (by omega) h.n16 h.sz4 hi (set_all h.all) (by rw [hm.1, lost_of_gaps h.gap]; rfl) hv (.inl ⟨rfl, rfl⟩)).mono fun e w' ⟨r, he, hr, hb⟩ => ⟨r, he, ?_, hb⟩
  rw [hm.1] at hr
  exact hr.trans hm.2
theorem data_fits {L : List (List UInt8)} {n sz i j : Nat} (h : Full L n 2 sz) (hi : i < sz) (hj : j < n) {v : Value} {V : World} (x : UInt8) (b : Nat) (hb : b = V.heap.size) (hv : Pcs V.heap.size V v (L.set j [])) :
    Calls Tryd.prog 36 #[v, .int .i64 2, .int .i64 (i : Int), .slice (some ⟨b, 0, none⟩) 1 1] (V.alloc (.cells #[.int .u8 (x.toNat : Int)] 5)) (AskPost (Cand1 L n j i ∧ x = at0 (L.getD j []) i ^^^ dP L n i) (V.alloc (.cells #[.int .u8 (x.toNat : Int)] 5))) := by
  have hlen := h.len
  have hB : Below V.heap.size V (V.alloc (.cells #[.int .u8 (x.toNat : Int)] 5)) := (Below.refl _ _).alloc (Nat.le_refl _) _
  have hl1 : lostN ((L.set j []).take n) = 1 := by
    rw [List.take_set]
    unfold lostN
    rw [gaps_set_one h.gap (by rw [List.length_take]; omega)]
    rfl
  refine (fits_any (L.set j []) n 2 i sz [x] v _ _ (by rw [List.length_set]; exact h.len) (by omega) h.n16 h.sz4 hi (set_all h.all) (by rw [hl1]; rfl) ((hv.below hB (Nat.le_refl _)).mono hB.size) (fill_one V x b hb)).mono fun e w' ⟨r, he, hr, hb⟩ => ⟨r, he, ?_, hb⟩
  exact hr.trans (fit_data h.len hj h.n16 h.gap (h.p0 (by omega)) (h.q0 (by omega)) x)
set_option maxRecDepth 100000 in
theorem whole_any {L : List (List UInt8)} {n lv sz : Nat} (h : Full L n lv sz) {v : Value} {w : World} (hv : Pcs w.heap.size w v L) :
    Calls Tryd.prog 35 #[v, .int .i64 (lv : Int), .int .i64 (sz : Int)] w (AskPost (Whole L n lv sz) w) := by
  have HF := hid_mk h
  have hsz := h.sz4
  have HV := hid_mk hv
  obtain ⟨ao, cp, rfl⟩ := hv.shape
  clear h hv
  go_enter Tryd.func35, Tryd.ntmps35
  go_wp2
  go_loopw [7] (fun kk wr => ∃ k : Nat, kk = .int .i64 (k : Int) ∧ k ≤ sz ∧ (∀ i, i < k → Whole1 L n lv i) ∧ Below w.heap.size w wr) (fun kk _ => sz - (intOf kk).toNat)
  case atStart => exact ⟨0, rfl, by omega, fun i hi => by omega, Below.refl _ _⟩
  case round =>
    obtain ⟨k, rfl, hk, hall, hb⟩ := hrel
    obtain ⟨V, hV⟩ : ∃ V, V = wr := ⟨_, rfl⟩
    subst hV
    have HALL := hid_mk hall
    have HB := hid_mk hb
    clear hall hb
    by_cases hks : k < sz
    · have hks' : (k : Int) < (sz : Int) := by omega
      have HC := hid_mk (full_fits HF.out hks ((HV.out.below HB.out (Nat.le_refl _)).mono HB.out.size))
      go_wp2_with fail
      refine HC.out.mono ?_
      rintro e w2 ⟨r, rfl, hr, hb2⟩
      have HR := hid_mk hr
      have HB2 : Hid (Below w.heap.size w w2) := HB.out.trans (hb2.mono HB.out.size)
      clear hr hb2 HC
      cases r with
      | true =>
        go_wp2
        go_roundw
        case rel => exact ⟨k + 1, by go_num, by omega, fun i hi => by rcases Nat.lt_or_ge i k with h | h; exact HALL.out i h; exact (show i = k by omega) ▸ HR.out.1 (by trivial), HB2.out⟩
        case measure => simp [intOf]; omega
      | false =>
        go_wp2
        go_ret
        exact ⟨false, rfl, ⟨fun h => (by cases h), fun h => absurd (HR.out.2 (h k hks)) (by decide)⟩, HB2.out⟩
    · have hkz : k = sz := by omega
      subst hkz
      go_wp2
      go_ret
      exact ⟨true, rfl, ⟨fun _ => HALL.out, fun _ => rfl⟩, HB.out⟩
/-- A copy of the pieces with one of them taken away. -/
theorem set_pcs {w1 w2 : World} {L : List (List UInt8)} {vals : List Value} {gu m uc j : Nat} (hu : SOwns w2 w1.heap.size (.slice (some ⟨gu, 0, none⟩) m uc) vals) (hvl : vals.length = L.length) (hL : 0 < L.length) (hvr : ∀ i (h1 : i < vals.length) (h2 : i < L.length), Rd w1.heap.size w1 vals[i] L[i]) (hb : Below w1.heap.size w1 w2) :
    Pcs w2.heap.size (w2.setCell ⟨gu, j, none⟩ (.slice none 0 0)) (.slice (some ⟨gu, 0, none⟩) m uc) (L.set j []) := by
  have hs := hu.put j (.slice none 0 0)
  have hsz : (w2.setCell ⟨gu, j, none⟩ (.slice none 0 0)).heap.size = w2.heap.size := by simp [World.setCell]
  have h := sowns_pcs0 hs (M := L.set j []) (by rw [List.length_set, List.length_set]; exact hvl) (by rw [List.length_set]; omega) (fun i h1 h2 => by
    rw [List.getElem_set, List.getElem_set]
    by_cases hi : j = i
    · simp only [if_pos hi]; exact .inl ⟨rfl, rfl⟩
    · simp only [if_neg hi]
      rw [hsz]
      have hlow := hvr i (by simpa using h1) (by simpa using h2)
      have hgu : w1.heap.size ≤ gu := hu.block gu rfl
      exact ((hlow.below hb (Nat.le_refl _)).keep (fun x (hx : x < _) => heap_set_other _ _ _ _ _ (by omega))).mono (fun x (hx : x < _) => Nat.lt_of_lt_of_le hx hb.size))
  rw [hsz] at h
  exact h
end Go.Proofs.YtigaabhicjcbjabDoor
