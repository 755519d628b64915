import Derived.Test.YtcpdnalmoaojlaaDoorHQ15

/-
  SpacePlays: loads.
-/
namespace Go.Proofs.YtcpdnalmoaojlaaDoor
open Go.RowKit Go.Shelf
set_option linter.unusedVariables false
set_option linter.unusedSimpArgs false

theorem owns_all {w : World} {B : Nat} {v : Value} {bs : List UInt8} (h : Owns w B v bs) (hl : 0 < bs.length) : ∃ g N c cur, v = .slice (some ⟨g, 0, none⟩) N c ∧ N = bs.length ∧ B ≤ g ∧ w.heap[g]? = some (.cells cur 5 (0, 0)) ∧ N ≤ c ∧ cur.size = c ∧ c ≤ 9223372036854775807 := by
  rcases h.2 with ⟨_, hn⟩ | ⟨g, c, cur, rfl, h4, h5, h6, h7, h8, _⟩
  · omega
  · exact ⟨g, bs.length, c, cur, rfl, rfl, h4, h5, h6, by omega, by unfold maxLen at h7; omega⟩
/-- Another space is put in its place, and what it should be is turned. -/
theorem PJ.load {w0 : World} {P s' : Nat} {c : PR} {ks : List PR} {kv : Value} {W W1 W2 : World} (h : PJ w0 P c c.rows c.l ks kv W) (hok : SpOk c.rows c.l) (hb : Below W.heap.size W W1) (hs : SpAt W1 s' c.rows (turnL c.l)) (hlt : W.heap.size ≤ s') :
    PJ w0 P ⟨s', c.r, c.v, c.rows, c.l⟩ c.rows (turnL c.l) ks kv (W1.setCell ⟨P, 0, none⟩ (.pointer (some ⟨s', 0, none⟩))) := by
  have h1 := h.keepN hb
  have hPl := (Array.getElem?_eq_some_iff.1 h.box).1
  have hk : Kept (fun k => k ≠ P) W1 (W1.setCell ⟨P, 0, none⟩ (.pointer (some ⟨s', 0, none⟩))) := ⟨rfl, rfl, rfl, by simp [World.setCell], fun k _ hk => Below.heap_setCell _ _ _ _ hk⟩
  have hPs : P ≠ s' := by omega
  have hdis := (List.pairwise_cons.1 h.dis).1
  have hw := h.below.size
  have hgi := h.gi
  have hlo := h.lo
  obtain ⟨p, hs1, hs2⟩ := hs
  have hrP := rf_type h1.rf h1.box (by decide) (by decide)
  refine ⟨?_, h1.kow.kept hk (fun k hk e => ?_), ⟨p, (Below.heap_setCell _ _ _ _ (fun e => hPs e.symm)).trans hs1, KT.keepc hs2 h1.box⟩, h1.rf.kept hk (fun e => hrP.1 e.symm) (fun k hk e => hrP.2 (e ▸ hk)), fun k hk => ?_, fun q hq => ⟨⟨?_, (h1.oth q hq).1.ok, ?_⟩, (h1.oth q hq).2⟩, ?_, ?_, h1.below.setCell (p := ⟨P, 0, none⟩) h.lo _, h.gi, h.lo⟩
  · rw [heap_put h1.box]; simp
  · obtain ⟨_, c', e3⟩ := h1.kow.type hk
    rw [e] at e3
    have := e3.symm.trans h1.box
    simp at this
  · rcases hk with hk | hk | hk
    · have e : k = s' := hk; omega
    · exact h.low k (.inr (.inl hk))
    · exact h.low k (.inr (.inr hk))
  · exact (h1.oth q hq).1.sp.kept hk (fun e => sp_type (h1.oth q hq).1.sp h1.box (by decide) e.symm) (fun k c' e e2 => by rw [e2] at e; have := e.symm.trans h1.box; simp at this)
  · have hqP := rf_type (h1.oth q hq).1.rf h1.box (by decide) (by decide)
    exact (h1.oth q hq).1.rf.kept hk (fun e => hqP.1 e.symm) (fun k hk e => hqP.2 (e ▸ hk))
  · refine List.pairwise_cons.2 ⟨fun q hq k hk hq2 => ?_, (List.pairwise_cons.1 h.dis).2⟩
    rcases hk with hk | hk | hk
    · have e : k = s' := hk
      have hlt2 : k < W.heap.size := by
        rcases hq2 with e2 | e2 | e2
        · rw [e2]; exact (h.oth q hq).1.sp.lt
        · rw [e2]; exact (h.oth q hq).1.rf.lt
        · exact (h.oth q hq).1.rf.ownlt e2
      omega
    · exact hdis q hq k (.inr (.inl hk)) hq2
    · exact hdis q hq k (.inr (.inr hk)) hq2
  · exact (World.cell?_of_block (w := W1) (Below.heap_setCell _ _ _ _ (show 0 ≠ P by omega))).trans h1.err
theorem turnTo_ref {rows : Nat} {l : List Pc} (h : Fits 0 l rows) : ∀ i, i < rows → turnTo (refR l) rows i = refR (turnL l) i := fun i hi => by
  unfold turnTo turn1
  rw [if_pos hi, refR_turn h]
def StepP (w0 : World) (P : Nat) (W : World) (e : Ending) (w' : World) : Prop :=
  e = .returned (.bool true) ∧ ∃ c ks kv, PJ w0 P c c.rows c.l ks kv w' ∧ SpOk c.rows c.l ∧ (∀ q ∈ ks, True) ∧ ks.length ≤ 4
set_option maxRecDepth 100000 in
set_option maxHeartbeats 8000000 in
theorem loads_any {w0 : World} {P : Nat} {c : PR} {ks : List PR} {kv : Value} {W0 : World} (h : PJ w0 P c c.rows c.l ks kv W0) (hok : SpOk c.rows c.l) (hks : ks.length ≤ 4) :
    Calls Tryd.prog 33 #[.pointer (some ⟨P, 0, none⟩)] W0 (StepP w0 P W0) := by
  have HJ := hid_mk h
  have HOK := hid_mk hok
  have HKS := hid_mk hks
  have HPB : Hid (Calls Tryd.prog 17 #[.agg #[.pointer (some ⟨c.s, 0, none⟩)]] W0 fun e w' => ∃ v, e = .returned v ∧ Owns w' W0.heap.size v (spB c.rows (fil c.l)) ∧ Below W0.heap.size W0 w') := pbytes_any c.s c.rows c.l W0 h.sp hok
  have hbl : (spB c.rows (fil c.l)).length = 4 + 18 * (fil c.l).length := spB_length _ _
  have hfl : (fil c.l).length ≤ c.rows := by
    have h1 := fits_len hok.fits
    have h2 := fil_le c.l
    omega
  have h30 := hok.rows30
  have HLB := hid_mk (load_back hok)
  obtain ⟨bs, hbs⟩ : ∃ bs, bs = spB c.rows (fil c.l) := ⟨_, rfl⟩
  rw [← hbs] at HPB hbl HLB
  obtain ⟨M, hM⟩ : ∃ M, M = (fil c.l).length := ⟨_, rfl⟩
  rw [← hM] at hbl hfl
  have HM := hid_mk hM
  have HBL : Hid (bs.length = 4 + 18 * M ∧ M ≤ 1073741824) := ⟨hbl, by omega⟩
  have HPC : Hid (∀ W, Below W0.heap.size W0 W → W.cell? ⟨P, 0, none⟩ = some (.pointer (some ⟨c.s, 0, none⟩)) ∧ W.cell? ⟨P, 1, none⟩ = some (.pointer (some ⟨c.r, 0, none⟩))) := fun W hW => ⟨(h.keepN hW).cells.1, (h.keepN hW).cells.2.1⟩
  obtain ⟨p0, p1⟩ := HPC.out W0 (Below.refl _ _)
  obtain ⟨s, hs⟩ : ∃ s, s = c.s := ⟨_, rfl⟩
  obtain ⟨r, hr⟩ : ∃ r, r = c.r := ⟨_, rfl⟩
  rw [← hs] at HPB HPC p0
  rw [← hr] at HPC p1
  have HR' := hid_mk hr
  clear h hok hbs hM hbl hfl hs hr hks h30
  go_enter Tryd.func33, Tryd.ntmps33
  go_upto_region 3 with (first
    | (go_at_call 17; refine HPB.out.mono ?_; clear HPB; rintro e w1 ⟨v, rfl, o1, b1⟩; obtain ⟨g, N, cc, cur, hv, hN, hg, hcur, hNc, hsz, hcm⟩ := owns_all o1 (by have := HBL.out; omega); subst hv; have HO1 := hid_mk o1; have HB1 := hid_mk b1; have HN := hid_mk hN; have HG := hid_mk hg; have HCU := hid_mk hcur; have HNC := hid_mk hNc; have HSZ := hid_mk hsz; have HCM := hid_mk hcm; have HLE : Hid (Calls Tryd.prog 50 #[.slice (some ⟨g, 0, none⟩) N cc] w1 fun e w' => e = .returned (.slice (some ⟨w1.heap.size, 0, none⟩) N (N + 9)) ∧ Block w' w1.heap.size (bs ++ List.replicate 9 77) ∧ Below w1.heap.size w1 w') := (by have h := lent_any bs g 0 cc w1 (by have := HBL.out; omega) (Array.getElem?_eq_some_iff.1 hcur).1 (by rw [hN] at o1; exact Owns.at o1); rw [← hN] at h; exact h); clear o1 b1 hN hg hcur hNc hsz hcm)
    | (go_at_call 50; refine HLE.out.mono ?_; clear HLE; rintro e w2 ⟨rfl, k2, b2⟩; have HK2 := hid_mk k2; have HB2 := hid_mk b2; clear k2 b2))
  have HB02 : Hid (Below W0.heap.size W0 w2) := HB1.out.trans (HB2.out.mono HB1.out.size)
  have HJ2 := hid_mk (HJ.out.keepN HB02.out)
  have HL : Hid (Calls Tryd.prog 16 #[.slice (some ⟨w1.heap.size, 0, none⟩) N (N + 9)] w2 fun e w' => Below w2.heap.size w2 w' ∧ ((loadR bs = none ∧ e = .returned (.tuple #[.agg #[.pointer none], .int .i64 7])) ∨ ∃ s rows l, loadR bs = some (rows, l) ∧ e = .returned (.tuple #[plv s, .int .i64 0]) ∧ w2.heap.size ≤ s ∧ SpAt w' s rows l)) :=
    pload_any bs N w1.heap.size 0 (N + 9) w2 HJ2.out.err HN.out (by have := HBL.out; omega) (by rw [← HN.out]; omega) (Array.getElem?_eq_some_iff.1 HK2.out).1 (HK2.out.bytes)
  clear p0 p1
  go_upto_region 4 with (first
    | (go_at_call 16; refine HL.out.mono ?_; clear HL; rintro e w3 ⟨b3, hor⟩; obtain ⟨s3, he3, hs3, hsp3⟩ : ∃ s3, e = .returned (.tuple #[.agg #[.pointer (some ⟨s3, 0, none⟩)], .int .i64 0]) ∧ w2.heap.size ≤ s3 ∧ SpAt w3 s3 c.rows (turnL c.l) := (by rcases hor with ⟨h1, _⟩ | ⟨s8, r8, l8, h1, h2, h3, h4⟩; exact absurd (h1.symm.trans HLB.out) (by simp); obtain ⟨e1, e2⟩ : r8 = c.rows ∧ l8 = turnL c.l := (by have := h1.symm.trans HLB.out; simpa using this); rw [e1, e2] at h4; exact ⟨s8, h2, h3, h4⟩); subst he3; have HB3 := hid_mk b3; have HS3 := hid_mk hs3; have HSP3 := hid_mk hsp3; clear b3 hor hs3 hsp3))
  obtain ⟨X3, hX3⟩ : ∃ X3, X3 = w3.alloc (.cells #[.pointer (some ⟨s3, 0, none⟩)] 26) := ⟨_, rfl⟩
  obtain ⟨b3, hb3⟩ : ∃ b3, b3 = w3.heap.size := ⟨_, rfl⟩
  have bX3 : Below w3.heap.size w3 X3 := by rw [hX3]; exact Below.alloc (Below.refl _ _) (Nat.le_refl _) _
  have eX3 : X3.heap[b3]? = some (.cells #[.pointer (some ⟨s3, 0, none⟩)] 26 (0, 0)) := by rw [hX3, hb3]; exact heap_alloc_new _ _
  obtain ⟨B1, hB1⟩ : ∃ B1, B1 = w1.heap.size := ⟨_, rfl⟩
  have hw12 : B1 < w2.heap.size := by rw [hB1]; exact (Array.getElem?_eq_some_iff.1 HK2.out).1
  have hgB : g < B1 := by rw [hB1]; exact (Array.getElem?_eq_some_iff.1 HCU.out).1
  have h23 := HB3.out.size
  have h3X : w3.heap.size ≤ X3.heap.size := bX3.size
  have hb3w : w2.heap.size ≤ b3 := by omega
  have HB2X : Hid (Below w2.heap.size w2 X3) := HB3.out.trans (bX3.mono h23)
  have HB0X : Hid (Below W0.heap.size W0 X3) := HB02.out.trans (HB2X.out.mono HB02.out.size)
  have HKX : Hid (Block X3 B1 (bs ++ List.replicate 9 77)) := by have h := HK2.out.below HB2X.out (by rw [← hB1]; exact hw12); rw [← hB1] at h; exact h
  have HCX : Hid (X3.heap[g]? = some (.cells cur 5 (0, 0))) := (HB2X.out.block g (by omega)).trans ((HB2.out.block g (by omega)).trans HCU.out)
  have HOX : Hid (BytesAt X3 g 0 bs) := by
    have h : BytesAt w1 g 0 bs := by have h := HO1.out; rw [HN.out] at h; exact Owns.at h
    exact (h.below HB2.out (by omega)).below HB2X.out (by omega)
  have HBA : Hid (Calls Tryd.prog 51 #[.slice (some ⟨B1, 0, none⟩) N (N + 9), .slice (some ⟨g, 0, none⟩) N cc] X3 fun e w' => e = .returned (.bool true) ∧ X3.grownBy w' (some B1)) := by
    have h := back_any bs B1 g 0 cc X3 (by have := HBL.out; omega) HKX.out HOX.out
    rw [← HN.out] at h
    exact h
  have HGB := hid_mk hgB
  have HSPX := hid_mk (HSP3.out.below bX3)
  have HEX := hid_mk eX3
  have HN1 : Hid (s3 ≠ B1 ∧ s3 ≠ g ∧ b3 ≠ B1 ∧ b3 ≠ g ∧ W0.heap.size ≤ B1) := by have h1 := HS3.out; have h2 := HB1.out.size; exact ⟨by omega, by omega, by omega, by omega, by omega⟩
  rw [← hX3, ← hb3, ← hB1]
  clear hX3 hb3 bX3 eX3 hB1 hw12 hgB h23 h3X hb3w
  go_upto_region 6 with (first
    | (go_at_call 51; refine HBA.out.mono ?_; clear HBA; rintro e w4 ⟨rfl, g4⟩; have k4 : Kept (fun k => k ≠ B1) X3 w4 := ⟨g4.os, g4.tape, g4.output, g4.size, fun k hk hn => g4.block k hk (fun e => hn (by simpa using e))⟩; have HK4 := hid_mk k4; have HC4 : Hid (w4.heap[g]? = some (.cells cur 5 (0, 0))) := (k4.block g (Array.getElem?_eq_some_iff.1 HCX.out).1 (by have := HGB.out; omega)).trans HCX.out; have HWI := hid_mk (wipe_any g N cc cur w4 HC4.out HSZ.out HNC.out HCM.out); clear g4 k4)
    | (go_at_call 52; refine HWI.out.mono ?_; clear HWI; rintro e w5 ⟨⟨u5, rfl⟩, k5⟩; have HK5 : Hid (Kept (fun k => k ≠ B1 ∧ k ≠ g) X3 w5) := (HK4.out.sub fun k _ hk => hk.1).trans (k5.sub fun k _ hk => hk.2); clear k5))
  have HSP5 : Hid (SpAt w5 s3 c.rows (turnL c.l)) := by
    refine HSPX.out.kept HK5.out ⟨HN1.out.1, HN1.out.2.1⟩ fun k c' e => ⟨?_, ?_⟩
    · rintro rfl
      have := e.symm.trans HKX.out
      simp at this
    · rintro rfl
      have := e.symm.trans HCX.out
      simp at this
  have HE5 : Hid (w5.heap[b3]? = some (.cells #[.pointer (some ⟨s3, 0, none⟩)] 26 (0, 0))) := (HK5.out.block b3 (Array.getElem?_eq_some_iff.1 HEX.out).1 ⟨HN1.out.2.2.1, HN1.out.2.2.2.1⟩).trans HEX.out
  have HB05 : Hid (Below W0.heap.size W0 w5) := HB0X.out.trans (HK5.out.below HB0X.out.size fun k hk => ⟨by have := HN1.out.2.2.2.2; omega, by have := HG.out; omega⟩)
  have HJ5 := hid_mk (HJ.out.keepN HB05.out)
  have HRU := hid_mk (rruns_any c.r c.rows c.v c.l w5 HJ5.out.rf HOK.out)
  rw [← HR'.out] at HRU
  obtain ⟨q0, q1⟩ := HPC.out w5 HB05.out
  have x1 : IntKind.i64.wrap (20 * (M : Int)) = 20 * (M : Int) := by have := HBL.out; rw [IntKind.wrap_i64]; omega
  have x2 : IntKind.i64.wrap (16 + 20 * (M : Int)) = 16 + 20 * (M : Int) := by have := HBL.out; rw [IntKind.wrap_i64]; omega
  have x3 : ¬ (16 + 20 * (M : Int) < (N : Int)) := by have h1 := HBL.out; have h2 := HN.out; omega
  have HS0 : Hid (W0.heap.size ≤ s3) := Nat.le_trans HB02.out.size HS3.out
  clear HK5 HEX HSPX HKX HCX HOX HB0X HB2X HK4 HC4
  go_upto_region 8 with (first
    | (go_at_call 23; refine HRU.out.mono ?_; clear HRU; rintro e w6 ⟨u6, rfl, o6, b6⟩; obtain ⟨a6, c6, hu6⟩ := o6.frm; rw [← HM.out] at hu6; subst hu6; have HB6 := hid_mk b6; clear o6 b6))
  have HB06 : Hid (Below W0.heap.size W0 w6) := HB05.out.trans (HB6.out.mono HB05.out.size)
  have HE6 : Hid (w6.heap[b3]? = some (.cells #[.pointer (some ⟨s3, 0, none⟩)] 26 (0, 0))) := (HB6.out.block b3 (Array.getElem?_eq_some_iff.1 HE5.out).1).trans HE5.out
  have HJ6 := hid_mk (HJ.out.load (W2 := w6) HOK.out HB06.out (HSP5.out.below HB6.out) HS0.out)
  have e0 : w6.cell? ⟨b3, 0, none⟩ = some (.pointer (some ⟨s3, 0, none⟩)) := by simp [World.cell?, HE6.out]
  obtain ⟨q0, q1⟩ := HPC.out w6 HB06.out
  have qf := unfrozen (HJ.out.keepN HB06.out).box 0
  obtain ⟨W7, hW7⟩ : ∃ W7, W7 = w6.setCell ⟨P, 0, none⟩ (.pointer (some ⟨s3, 0, none⟩)) := ⟨_, rfl⟩
  rw [← hW7] at HJ6
  have y1 := HJ6.out.cells.2.1
  have HTU := hid_mk (rturn_any c.r c.rows c.v (refR c.l) W7 HJ6.out.rf HOK.out.rows30)
  rw [← HR'.out] at y1 HTU
  clear x1 x2 x3 HSP5 HE5 HE6
  go_upto_region 9 with fail
  rw [← hW7]
  clear hW7 e0 q0 q1 qf
  go_wp2_with (first
    | (go_at_call 27; refine HTU.out.mono ?_; clear HTU; rintro e w8 ⟨⟨u8, rfl⟩, k8, r8⟩; have HK8 := hid_mk k8; have HR8 := hid_mk r8; clear k8 r8))
  go_ret
  have hr8 : RfAt w8 c.r c.v c.rows (refR (turnL c.l)) := by have h := HR8.out; rw [HR'.out] at h; exact h.congr (turnTo_ref HOK.out.fits)
  have hfin := HJ6.out.rfN (l' := turnL c.l) (rows' := c.rows) (v' := c.v) (HK8.out.sub fun k _ hk e => hk (.inr e)) (fun k hk => .inl hk) hr8
  exact ⟨rfl, ⟨s3, c.r, c.v, c.rows, turnL c.l⟩, ks, kv, hfin, turn_ok HOK.out, fun _ _ => trivial, HKS.out⟩
end Go.Proofs.YtcpdnalmoaojlaaDoor
