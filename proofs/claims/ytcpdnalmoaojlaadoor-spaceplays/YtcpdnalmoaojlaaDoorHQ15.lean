import Derived.Test.YtcpdnalmoaojlaaDoorHQ14
import Derived.Test.YtcpdnalmoaojlaaDoorHSp25
import Derived.BigQuiet

/-
  SpacePlays: a space and what it should be, and others.
-/
namespace Go.Proofs.YtcpdnalmoaojlaaDoor
open Go.RowKit Go.Shelf
set_option linter.unusedVariables false
set_option linter.unusedSimpArgs false

/-- A space, and what it should be. -/
structure PR where
  s : Nat
  r : Nat
  v : Value
  rows : Nat
  l : List Pc
/-- Its blocks (but for the knots, that never change). -/
def ft (p : PR) (k : Nat) : Prop := k = p.s ∨ k = p.r ∨ own p.v k
structure PRok (W : World) (p : PR) : Prop where
  sp : SpAt W p.s p.rows p.l
  ok : SpOk p.rows p.l
  rf : RfAt W p.r p.v p.rows (refR p.l)
theorem SpAt.kept {U : Nat → Prop} {w w' : World} {s rows : Nat} {l : List Pc} (h : SpAt w s rows l) (hk : Kept U w w') (hs : U s) (hn : ∀ k c, w.heap[k]? = some (.cells c 118 (0, 0)) → U k) : SpAt w' s rows l := by
  have hlt := h.lt
  obtain ⟨p, h1, k, h2⟩ := h
  exact ⟨p, (hk.block s hlt hs).trans h1, k, KD.keep (fun b cur e => hk.block b (Array.getElem?_eq_some_iff.1 e).1 (hn b cur e)) k _ _ h2⟩
theorem sp_type {w : World} {s rows k : Nat} {l : List Pc} {c : Array Value} {t : TypeId} {z : Nat × Nat} (h : SpAt w s rows l) (hk : w.heap[k]? = some (.cells c t z)) (ht : t ≠ 87) : k ≠ s := by
  rintro rfl
  obtain ⟨p, h1, _⟩ := h
  have := h1.symm.trans hk
  simp at this
  exact ht this.2.1.symm
theorem rf_type {w : World} {r rows k : Nat} {v : Value} {f : Nat → RR} {c : Array Value} {t : TypeId} {z : Nat × Nat} (h : RfAt w r v rows f) (hk : w.heap[k]? = some (.cells c t z)) (ht : t ≠ 67) (ht2 : t ≠ 89) : k ≠ r ∧ ¬ own v k := by
  refine ⟨?_, fun e => ?_⟩
  · rintro rfl
    have := h.head.symm.trans hk
    simp at this
    exact ht this.2.1.symm
  · rcases h.rows.2 with ⟨h1, _⟩ | ⟨g, c', cur, h1, h4, h5, _⟩
    · rw [h1] at e; simp [own, Value.ownBlock] at e
    · rw [h1] at e
      have e' : g = k := by simpa [own, Value.ownBlock] using e
      subst e'
      have := h5.symm.trans hk
      simp at this
      exact ht2 this.2.1.symm
def kvL (ks : List PR) : List Value := ks.flatMap fun p => [.pointer (some ⟨p.s, 0, none⟩), .pointer (some ⟨p.r, 0, none⟩)]
def KOwns (W : World) (n0 : Nat) (kv : Value) (ks : List PR) : Prop := W.ownsRow n0 73 2 kv ks.length (kvL ks)
theorem KOwns.kept {U : Nat → Prop} {W W' : World} {n0 : Nat} {kv : Value} {ks : List PR} (h : KOwns W n0 kv ks) (hK : Kept U W W') (hu : ∀ k, own kv k → U k) : KOwns W' n0 kv ks := by
  refine ⟨h.1, ?_⟩
  rcases h.2 with hn | ⟨g, c, cur, rfl, h4, h5, h6⟩
  · exact .inl hn
  · exact .inr ⟨g, c, cur, rfl, h4, (hK.block g (Array.getElem?_eq_some_iff.1 h5).1 (hu g rfl)).trans h5, h6⟩
theorem KOwns.type {W : World} {n0 : Nat} {kv : Value} {ks : List PR} (h : KOwns W n0 kv ks) {k : Nat} (hk : own kv k) : n0 ≤ k ∧ ∃ c, W.heap[k]? = some (.cells c 73 (0, 0)) := by
  rcases h.2 with ⟨rfl, _⟩ | ⟨g, c, cur, rfl, h4, h5, _⟩
  · simp [own, Value.ownBlock] at hk
  · have e : g = k := by simpa [own, Value.ownBlock] using hk
    subst e
    exact ⟨h4, _, h5⟩
theorem KOwns.frm {W : World} {n0 : Nat} {kv : Value} {ks : List PR} (h : KOwns W n0 kv ks) : ∃ ao cp, kv = .slice ao ks.length cp := by
  rcases h.2 with ⟨rfl, hn⟩ | ⟨g, c, cur, rfl, _⟩
  · exact ⟨none, 0, by rw [hn]⟩
  · exact ⟨_, _, rfl⟩
/-- All that is kept; of the first pair the space may be ahead of what it should be. -/
structure PJ (w0 : World) (P : Nat) (c : PR) (rows : Nat) (l : List Pc) (ks : List PR) (kv : Value) (W : World) : Prop where
  box : W.heap[P]? = some (.cells #[.pointer (some ⟨c.s, 0, none⟩), .pointer (some ⟨c.r, 0, none⟩), kv] 35 (0, 0))
  kow : KOwns W w0.heap.size kv ks
  sp : SpAt W c.s rows l
  rf : RfAt W c.r c.v c.rows (refR c.l)
  low : ∀ k, ft c k → w0.heap.size ≤ k
  oth : ∀ q ∈ ks, PRok W q ∧ ∀ k, ft q k → w0.heap.size ≤ k
  dis : (c :: ks).Pairwise fun p q => ∀ k, ft p k → ¬ ft q k
  err : ErrT W
  below : Below w0.heap.size w0 W
  gi : 0 < w0.heap.size
  lo : w0.heap.size ≤ P
theorem PJ.keepN {w0 : World} {P rows : Nat} {c : PR} {l : List Pc} {ks : List PR} {kv : Value} {W W' : World} (h : PJ w0 P c rows l ks kv W) (hb : Below W.heap.size W W') : PJ w0 P c rows l ks kv W' := by
  have hk : Kept (fun _ => True) W W' := Kept.of_below hb
  exact ⟨(hb.block P (Array.getElem?_eq_some_iff.1 h.box).1).trans h.box, h.kow.kept hk (fun _ _ => trivial), h.sp.below hb, h.rf.below hb, h.low, fun q hq => ⟨⟨(h.oth q hq).1.sp.below hb, (h.oth q hq).1.ok, (h.oth q hq).1.rf.below hb⟩, (h.oth q hq).2⟩, h.dis, h.err.below hb h.err.size, h.below.trans (hb.mono h.below.size), h.gi, h.lo⟩
theorem PJ.sne {w0 : World} {P rows : Nat} {c : PR} {l : List Pc} {ks : List PR} {kv : Value} {W : World} (h : PJ w0 P c rows l ks kv W) : c.r ≠ c.s ∧ ¬ own c.v c.s := by
  obtain ⟨p, h1, _⟩ := h.sp
  exact ⟨fun e => by have := rf_type h.rf h1 (by decide) (by decide); exact this.1 e.symm, (rf_type h.rf h1 (by decide) (by decide)).2⟩
/-- A call changes the space alone. -/
theorem PJ.spN {w0 : World} {P rows rows' : Nat} {c : PR} {l l' : List Pc} {ks : List PR} {kv : Value} {W W' : World} (h : PJ w0 P c rows l ks kv W) (ho : Only c.s W W') (hs : SpAt W' c.s rows' l') : PJ w0 P c rows' l' ks kv W' := by
  have hk : Kept (fun k => k ≠ c.s) W W' := ⟨ho.os, ho.tape, ho.output, ho.size, ho.block⟩
  have hlow := h.low c.s (.inl rfl)
  have hgi := h.gi
  have hdis := (List.pairwise_cons.1 h.dis).1
  refine ⟨(ho.block P (Array.getElem?_eq_some_iff.1 h.box).1 (sp_type h.sp h.box (by decide))).trans h.box, h.kow.kept hk (fun k hk => ?_), hs, h.rf.kept hk h.sne.1 (fun k hk e => h.sne.2 (e ▸ hk)), h.low, fun q hq => ⟨⟨?_, (h.oth q hq).1.ok, ?_⟩, (h.oth q hq).2⟩, h.dis, h.err.only ho (by omega), h.below.trans (ho.below (by omega) h.below.size), h.gi, h.lo⟩
  · obtain ⟨_, c', e⟩ := h.kow.type hk
    exact sp_type h.sp e (by decide)
  · exact (h.oth q hq).1.sp.kept hk (fun e => hdis q hq c.s (.inl rfl) (.inl e.symm)) (fun k c' e => sp_type h.sp e (by decide))
  · exact (h.oth q hq).1.rf.kept hk (fun e => hdis q hq c.s (.inl rfl) (.inr (.inl e.symm))) (fun k hk e => hdis q hq c.s (.inl rfl) (.inr (.inr (e ▸ hk))))
/-- A call changes what it should be alone. -/
theorem PJ.rfN {w0 : World} {P rows rows' : Nat} {c : PR} {l l' : List Pc} {v' : Value} {ks : List PR} {kv : Value} {W W' : World} (h : PJ w0 P c rows l ks kv W) (ho : Kept (fun k => ¬ rfU c.r c.v k) W W') (hv : ∀ k, own v' k → own c.v k ∨ W.heap.size ≤ k) (hr : RfAt W' c.r v' rows' (refR l')) : PJ w0 P ⟨c.s, c.r, v', rows', l'⟩ rows l ks kv W' := by
  have hdis := (List.pairwise_cons.1 h.dis).1
  have hlow : ∀ k, k < w0.heap.size → ¬ rfU c.r c.v k := fun k hk e => by
    have := h.low k (.inr e)
    omega
  have hin : ∀ q ∈ ks, ∀ k, ft q k → k < W.heap.size := fun q hq k hk => by
    rcases hk with rfl | rfl | hk
    · exact (h.oth q hq).1.sp.lt
    · exact (h.oth q hq).1.rf.lt
    · exact (h.oth q hq).1.rf.ownlt hk
  refine ⟨(ho.block P (Array.getElem?_eq_some_iff.1 h.box).1 (fun e => ?_)).trans h.box, h.kow.kept ho (fun k hk e => ?_), h.sp.kept ho (fun e => ?_) (fun k c' e e2 => ?_), hr, fun k hk => ?_, fun q hq => ⟨⟨?_, (h.oth q hq).1.ok, ?_⟩, (h.oth q hq).2⟩, ?_, ?_, h.below.trans (ho.below h.below.size hlow), h.gi, h.lo⟩
  · obtain ⟨e1, e2⟩ := rf_type h.rf h.box (by decide) (by decide)
    exact e.elim e1 e2
  · obtain ⟨_, c', e3⟩ := h.kow.type hk
    obtain ⟨e1, e2⟩ := rf_type h.rf e3 (by decide) (by decide)
    exact e.elim e1 e2
  · exact e.elim (fun e => h.sne.1 e.symm) h.sne.2
  · obtain ⟨e1, e3⟩ := rf_type h.rf e (by decide) (by decide)
    exact e2.elim e1 e3
  · rcases hk with hk | hk | hk
    · exact h.low k (.inl hk)
    · exact h.low k (.inr (.inl hk))
    · rcases hv k hk with e | e
      · exact h.low k (.inr (.inr e))
      · exact Nat.le_trans h.below.size e
  · refine (h.oth q hq).1.sp.kept ho (fun e => hdis q hq q.s (.inr e) (.inl rfl)) (fun k c' e e2 => ?_)
    obtain ⟨e1, e3⟩ := rf_type h.rf e (by decide) (by decide)
    exact e2.elim e1 e3
  · exact (h.oth q hq).1.rf.kept ho (fun e => hdis q hq q.r (.inr e) (.inr (.inl rfl))) (fun k hk e => hdis q hq k (.inr e) (.inr (.inr hk)))
  · refine List.pairwise_cons.2 ⟨fun q hq k hk hq2 => ?_, (List.pairwise_cons.1 h.dis).2⟩
    rcases hk with hk | hk | hk
    · exact hdis q hq k (.inl hk) hq2
    · exact hdis q hq k (.inr (.inl hk)) hq2
    · rcases hv k hk with e | e
      · exact hdis q hq k (.inr (.inr e)) hq2
      · have := hin q hq k hq2
        omega
  · exact (World.cell?_of_block (w := W) (ho.block 0 h.err.size (hlow _ h.gi))).trans h.err
end Go.Proofs.YtcpdnalmoaojlaaDoor

/-
  SpacePlays: tells, what both answer.
-/
namespace Go.Proofs.YtcpdnalmoaojlaaDoor
open Go.RowKit Go.Shelf
set_option linter.unusedVariables false
set_option linter.unusedSimpArgs false

theorem cnt_both {rows : Nat} {l : List Pc} (h : Fits 0 l rows) : cntV (refR l) rows = #[.int .i64 (rowsL isUsed l : Nat), .int .i64 (rowsL isHeld l : Nat), .int .i64 ((rows - rowsL isUsed l - rowsL isHeld l : Nat) : Int)] := by
  unfold cntV
  rw [count_used h, count_held h]
/-- Whether a run begins at a row, both ways. -/
theorem bgn_iff {rows : Nat} {l : List Pc} (h : SpOk rows l) (at' : Int) : bgn rows (refR l) at' = true ↔ ∃ q ∈ l, (q.at' : Int) = at' ∧ q.st ≠ 2 := by
  constructor
  · intro hb
    obtain ⟨i, rfl, hi, hr⟩ := bgn_true hb
    obtain ⟨q, hq, e⟩ := begins_of h.fits hr
    obtain ⟨h1, h2⟩ := fil_mem hq
    exact ⟨q, h1, by omega, h2⟩
  · rintro ⟨q, hq, rfl, hst⟩
    have hq' : q ∈ fil l := List.mem_filter.2 ⟨hq, by simp [isUsed, hst]⟩
    obtain ⟨_, h2, h3⟩ := fits_mem h.fits q hq
    have h4 : q.stop = q.at' + q.n := rfl
    rw [bgn_nat (by omega), refR_at h.fits hq']
    exact decide_eq_true rfl
theorem drew_lt (w : World) (o : Obj) : w.heap.size < (w.drew.alloc o).heap.size := by
  show w.heap.size < (w.heap.push o).size
  simp
theorem four_below {n b : Nat} {w W : World} {x0 x1 x2 x3 : Value} (h : Below n w W) (hb : n ≤ b) : Below n w ((((W.setCell ⟨b, 0, none⟩ x0).setCell ⟨b, 1, none⟩ x1).setCell ⟨b, 2, none⟩ x2).setCell ⟨b, 3, none⟩ x3) :=
  (((h.setCell (p := ⟨b, 0, none⟩) hb _).setCell (p := ⟨b, 1, none⟩) hb _).setCell (p := ⟨b, 2, none⟩) hb _).setCell (p := ⟨b, 3, none⟩) hb _
def FindA (A N C G E : Int) (w : World) (e : Ending) (w' : World) : Prop := e = .returned (.tuple #[.agg #[.int .i64 A, .int .i64 N, .int .i64 C, .int .u64 G], .int .i64 E]) ∧ Below w.heap.size w w'
/-- Find, both ways: the same answer. -/
theorem find_both {w0 : World} {P : Nat} {c : PR} {ks : List PR} {kv : Value} {W0 : World} (h : PJ w0 P c c.rows c.l ks kv W0) (hok : SpOk c.rows c.l) (at' : Int) (ha : -9223372036854775808 ≤ at' ∧ at' ≤ 9223372036854775807) :
    ∃ A N C G E : Int, (∀ q ∈ fil c.l, (q.at' : Int) = at' → A = (q.at' : Int) ∧ N = (q.n : Int) ∧ C = (q.count : Int) ∧ G = (q.tag : Int) ∧ E = 0) ∧ (∀ W, Below W0.heap.size W0 W → Calls Tryd.prog 35 #[.agg #[.pointer (some ⟨c.s, 0, none⟩)], .int .i64 at'] W (FindA A N C G E W)) ∧
      ∀ W, Below W0.heap.size W0 W → Calls Tryd.prog 36 #[.pointer (some ⟨c.r, 0, none⟩), .int .i64 at'] W (FindA A N C G E W) := by
  by_cases hb : bgn c.rows (refR c.l) at' = true
  · obtain ⟨q, hq, hqa, hst⟩ := (bgn_iff hok at').1 hb
    have hq' : q ∈ fil c.l := List.mem_filter.2 ⟨hq, by simp [isUsed, hst]⟩
    refine ⟨(q.at' : Int), (q.n : Int), (q.count : Int), (q.tag : Int), 0, fun p hp e => ?_, fun W hW => ?_, fun W hW => ?_⟩
    · obtain rfl : p = q := used_at hok hq' (fil_mem hp).1 (by omega)
      exact ⟨rfl, rfl, rfl, rfl, rfl⟩
    · have hW' := h.keepN hW
      refine (pfind_any c.s c.rows c.l at' W hW'.err hW'.sp hok).mono fun e w' ⟨h1, h2⟩ => ?_
      rcases h2 with ⟨p, A, N, C, G, HQ, he⟩ | ⟨HQ, _⟩
      · obtain ⟨h3, h4, h5, rfl, rfl, rfl, rfl⟩ := HQ.out
        obtain rfl : p = q := used_at hok hq' h3 (by omega)
        exact ⟨he, h1⟩
      · exact absurd (HQ.out q hq hqa) hst
    · have hW' := h.keepN hW
      refine (rfind_any c.r c.rows c.v (refR c.l) at' W hW'.rf hok.rows30 ha).mono fun e w' ⟨h1, h2⟩ => ?_
      rcases h2 with ⟨h3, _⟩ | ⟨_, h3⟩
      · rw [hb] at h3; cases h3
      · rw [← hqa, Int.toNat_natCast, refR_at hok.fits hq'] at h3
        exact ⟨h3, h1⟩
  · have hb' : bgn c.rows (refR c.l) at' = false := by simpa using hb
    have hno : ∀ q ∈ c.l, (q.at' : Int) = at' → q.st = 2 := fun q hq e => by
      by_cases hst : q.st = 2
      · exact hst
      · exact absurd ((bgn_iff hok at').2 ⟨q, hq, e, hst⟩) hb
    refine ⟨0, 0, 0, 0, 3, fun p hp e => absurd (hno p (fil_mem hp).1 e) (fil_mem hp).2, fun W hW => ?_, fun W hW => ?_⟩
    · have hW' := h.keepN hW
      refine (pfind_any c.s c.rows c.l at' W hW'.err hW'.sp hok).mono fun e w' ⟨h1, h2⟩ => ?_
      rcases h2 with ⟨p, A, N, C, G, HQ, he⟩ | ⟨_, he⟩
      · exact absurd (hno p HQ.out.1 HQ.out.2.1) HQ.out.2.2.1
      · exact ⟨he, h1⟩
    · have hW' := h.keepN hW
      refine (rfind_any c.r c.rows c.v (refR c.l) at' W hW'.rf hok.rows30 ha).mono fun e w' ⟨h1, h2⟩ => ?_
      rcases h2 with ⟨_, h3⟩ | ⟨h3, _⟩
      · exact ⟨h3, h1⟩
      · rw [hb'] at h3; cases h3
theorem PJ.cells {w0 : World} {P rows : Nat} {c : PR} {l : List Pc} {ks : List PR} {kv : Value} {W : World} (h : PJ w0 P c rows l ks kv W) : W.cell? ⟨P, 0, none⟩ = some (.pointer (some ⟨c.s, 0, none⟩)) ∧ W.cell? ⟨P, 1, none⟩ = some (.pointer (some ⟨c.r, 0, none⟩)) ∧ W.cell? ⟨P, 2, none⟩ = some kv := by
  simp [World.cell?, h.box]
set_option maxRecDepth 1000000 in
set_option maxHeartbeats 16000000 in
theorem tells_any {w0 : World} {P : Nat} {c : PR} {ks : List PR} {kv : Value} {W0 : World} (h : PJ w0 P c c.rows c.l ks kv W0) (hok : SpOk c.rows c.l) :
    Calls Tryd.prog 9 #[.pointer (some ⟨P, 0, none⟩)] W0 fun e w' => e = .returned (.bool true) ∧ Below W0.heap.size W0 w' := by
  have HRU := hid_mk (rruns_any c.r c.rows c.v c.l W0 h.rf hok)
  have HPR : Hid (∀ W, Below W0.heap.size W0 W → Calls Tryd.prog 11 #[.agg #[.pointer (some ⟨c.s, 0, none⟩)], .int .i64 2] W fun e w' => ∃ v1 v, e = .returned (.tuple #[v1, v]) ∧ ROwns w' W.heap.size v1 ((fil c.l).take 2) ∧ ROwns w' W.heap.size v (fil c.l) ∧ Below W.heap.size W w') := fun W hW => prunsK_any c.s c.rows 2 c.l W (h.keepN hW).sp hok
  have hsum := rowsL_all hok.fits
  have h30 := hok.rows30
  obtain ⟨U, hU⟩ : ∃ U : Int, U = (rowsL isUsed c.l : Nat) := ⟨_, rfl⟩
  obtain ⟨H, hH⟩ : ∃ H : Int, H = (rowsL isHeld c.l : Nat) := ⟨_, rfl⟩
  obtain ⟨F, hF⟩ : ∃ F : Int, F = ((c.rows - rowsL isUsed c.l - rowsL isHeld c.l : Nat) : Int) := ⟨_, rfl⟩
  have HRW : Hid (∀ W, Below W0.heap.size W0 W → Calls Tryd.prog 19 #[.agg #[.pointer (some ⟨c.s, 0, none⟩)]] W fun e w' => e = .returned (.agg #[.int .i64 U, .int .i64 H, .int .i64 F]) ∧ Below W.heap.size W w') := fun W hW => by
    rw [hU, hH, hF]; exact prows_any c.s c.rows c.l W (h.keepN hW).sp hok
  have HRC : Hid (∀ W, Below W0.heap.size W0 W → Calls Tryd.prog 34 #[.pointer (some ⟨c.r, 0, none⟩)] W fun e w' => e = .returned (.agg #[.int .i64 U, .int .i64 H, .int .i64 F]) ∧ Below W.heap.size W w') := fun W hW => by
    have hc := rcount_any c.r c.rows c.v (refR c.l) W (h.keepN hW).rf h30
    rw [cnt_both hok.fits, ← hU, ← hH, ← hF] at hc
    exact hc
  have HPC : Hid (∀ W, Below W0.heap.size W0 W → W.cell? ⟨P, 0, none⟩ = some (.pointer (some ⟨c.s, 0, none⟩)) ∧ W.cell? ⟨P, 1, none⟩ = some (.pointer (some ⟨c.r, 0, none⟩))) := fun W hW => ⟨(h.keepN hW).cells.1, (h.keepN hW).cells.2.1⟩
  have HFB : Hid (∀ at' : Int, (-9223372036854775808 ≤ at' ∧ at' ≤ 9223372036854775807) → ∃ A N C G E : Int, (∀ q ∈ fil c.l, (q.at' : Int) = at' → A = (q.at' : Int) ∧ N = (q.n : Int) ∧ C = (q.count : Int) ∧ G = (q.tag : Int) ∧ E = 0) ∧ (∀ W, Below W0.heap.size W0 W → Calls Tryd.prog 35 #[.agg #[.pointer (some ⟨c.s, 0, none⟩)], .int .i64 at'] W (FindA A N C G E W)) ∧
      ∀ W, Below W0.heap.size W0 W → Calls Tryd.prog 36 #[.pointer (some ⟨c.r, 0, none⟩), .int .i64 at'] W (FindA A N C G E W)) := fun at' ha => find_both h hok at' ha
  have hfl : (fil c.l).length ≤ c.rows := by
    have h1 := fits_len hok.fits
    have h2 := fil_le c.l
    omega
  have hat : ∀ q ∈ fil c.l, q.at' < 1073741824 := fun q hq => by
    obtain ⟨_, h2, h3⟩ := fits_mem hok.fits q (fil_mem hq).1
    have h4 : q.stop = q.at' + q.n := rfl
    omega
  obtain ⟨p0, p1⟩ := HPC.out W0 (Below.refl _ _)
  obtain ⟨L, hL⟩ : ∃ L, L = fil c.l := ⟨_, rfl⟩
  rw [← hL] at HRU HPR HFB hfl hat
  obtain ⟨s, hs⟩ : ∃ s, s = c.s := ⟨_, rfl⟩
  obtain ⟨r, hr⟩ : ∃ r, r = c.r := ⟨_, rfl⟩
  rw [← hs] at HPR HRW HPC HFB p0
  rw [← hr] at HRU HRC HPC HFB p1
  have HAT := hid_mk hat
  obtain ⟨M, hM⟩ : ∃ M, M = L.length := ⟨_, rfl⟩
  have hM30 : M ≤ 1073741824 := by omega
  have HM := hid_mk hM
  clear hsum hU hH hF h hok hL hs hr hat hfl hM h30
  go_enter Tryd.func9, Tryd.ntmps9
  go_upto_region 3 with (first
    | (go_at_call 23; refine HRU.out.mono ?_; clear HRU; rintro e w1 ⟨u1, rfl, o1, b1⟩; obtain ⟨a1, c1, hu1⟩ := o1.frm; rw [← HM.out] at hu1; subst hu1; have HO1 := hid_mk o1; have HB1 := hid_mk b1; obtain ⟨p0, p1⟩ := HPC.out w1 b1; clear o1 b1)
    | (go_at_call 11; refine (HPR.out _ HB1.out).mono ?_; clear HPR; rintro e w2 ⟨v1, v, rfl, o2, o3, b2⟩; obtain ⟨a2, c2, hu2⟩ := o2.frm; obtain ⟨a3, c3, hu3⟩ := o3.frm; rw [← HM.out] at hu3; obtain ⟨T, hT⟩ : ∃ T, T = (L.take 2).length := ⟨_, rfl⟩; rw [← hT] at hu2; subst hu2; subst hu3; have HT := hid_mk hT; have HO2 := hid_mk o2; have HO3 := hid_mk o3; have HO1' := hid_mk (HO1.out.below b2); have HB2 : Hid (Below W0.heap.size W0 w2) := HB1.out.trans (b2.mono HB1.out.size); obtain ⟨q0, q1⟩ := HPC.out w2 HB2.out; clear o2 o3 b2 hT))
  go_cut [52] (fun b wx => b = .bool false ∧ Below w2.heap.size w2 wx)
  case first =>
    by_cases h2 : 2 ≤ M
    · have f1 : (T : Int) = 2 := by have h1 := HT.out; rw [List.length_take] at h1; have := HM.out; omega
      have f2 : ¬ (M : Int) < 2 := by omega
      have f3 : (2 : Int) ≤ (M : Int) := by omega
      clear p0 p1
      go_region_held3 (fun w' => w'.cell? ⟨P, 0, none⟩ = some (.pointer (some ⟨s, 0, none⟩)) ∧ w'.cell? ⟨P, 1, none⟩ = some (.pointer (some ⟨r, 0, none⟩))) (first | exact ⟨q0, q1⟩ | exact ⟨z0, z1⟩ | exact ⟨y0, y1⟩) (first
        | (go_at_call 19; refine (HRW.out _ (HB2.out.trans (Below.drew (Below.refl _ _)))).mono ?_; clear HRW; rintro e w3 ⟨rfl, b3⟩; have HB3 : Hid (Below W0.heap.size W0 w3) := (HB2.out.trans (Below.drew (Below.refl _ _))).trans (b3.mono HB2.out.size); have HX3 : Hid (Below w2.heap.size w2 w3) := (Below.drew (Below.refl _ _)).trans b3; obtain ⟨z0, z1⟩ := HPC.out w3 HB3.out; clear b3)
        | (go_at_call 34; refine (HRC.out _ HB3.out).mono ?_; clear HRC; rintro e w4 ⟨rfl, b4⟩; have HB4 : Hid (Below w2.heap.size w2 w4) := HX3.out.trans (b4.mono HX3.out.size); obtain ⟨y0, y1⟩ := HPC.out w4 (HB3.out.trans (b4.mono HB3.out.size)); clear b4))
      go_wp2_with fail
      go_meet
      exact ⟨rfl, HB4.out⟩
    · have f1 : T = M := by have h1 := HT.out; rw [List.length_take] at h1; have := HM.out; omega
      have f2 : (M : Int) < 2 := by omega
      have f3 : ¬ (2 : Int) ≤ (M : Int) := by omega
      subst f1
      clear p0 p1 h2
      go_region_held3 (fun w' => w'.cell? ⟨P, 0, none⟩ = some (.pointer (some ⟨s, 0, none⟩)) ∧ w'.cell? ⟨P, 1, none⟩ = some (.pointer (some ⟨r, 0, none⟩))) (first | exact ⟨q0, q1⟩ | exact ⟨z0, z1⟩ | exact ⟨y0, y1⟩) (first
        | (go_at_call 19; refine (HRW.out _ (HB2.out.trans (Below.drew (Below.refl _ _)))).mono ?_; clear HRW; rintro e w3 ⟨rfl, b3⟩; have HB3 : Hid (Below W0.heap.size W0 w3) := (HB2.out.trans (Below.drew (Below.refl _ _))).trans (b3.mono HB2.out.size); have HX3 : Hid (Below w2.heap.size w2 w3) := (Below.drew (Below.refl _ _)).trans b3; obtain ⟨z0, z1⟩ := HPC.out w3 HB3.out; clear b3)
        | (go_at_call 34; refine (HRC.out _ HB3.out).mono ?_; clear HRC; rintro e w4 ⟨rfl, b4⟩; have HB4 : Hid (Below w2.heap.size w2 w4) := HX3.out.trans (b4.mono HX3.out.size); obtain ⟨y0, y1⟩ := HPC.out w4 (HB3.out.trans (b4.mono HB3.out.size)); clear b4))
      go_wp2_with fail
      go_meet
      exact ⟨rfl, HB4.out⟩
  case rest =>
    obtain ⟨rfl, hbc⟩ := hcut
    have HBC := hid_mk hbc
    clear hbc p0 p1 q0 q1 HRW HRC
    go_wp2_with fail
    go_loopg [6] M (fun k i wr => ∃ j : Nat, i = .int .i64 (j : Int) ∧ j ≤ M ∧ k = M - j ∧ Below w2.heap.size w2 wr)
    case atStart => exact ⟨0, rfl, by omega, by omega, HBC.out⟩
    case round =>
      obtain ⟨j, rfl, hj, hk, hbe⟩ := hrel
      have HGK := hid_mk hk
      have HBE := hid_mk hbe
      clear hk hbe HBC
      by_cases hlt : j < M
      · have hjl : j < L.length := by rw [← HM.out]; exact hlt
        have hne : L ≠ [] := fun h => by rw [h] at hjl; simp at hjl
        obtain ⟨g1, c1', hg1, _, hl1, _, hc1⟩ := ROwns.at HO1'.out hne
        obtain ⟨rfl, rfl⟩ : a1 = some ⟨g1, 0, none⟩ ∧ c1 = c1' := by simp at hg1; exact ⟨hg1.1, hg1.2.2⟩
        obtain ⟨g3, c3', hg3, _, hl3, _, hc3⟩ := ROwns.at HO3.out hne
        obtain ⟨rfl, rfl⟩ : a3 = some ⟨g3, 0, none⟩ ∧ c3 = c3' := by simp at hg3; exact ⟨hg3.1, hg3.2.2⟩
        obtain ⟨x0, x1, x2, x3⟩ := hc1 j hjl
        obtain ⟨y0, y1, y2, y3⟩ := hc3 j hjl
        have hqm : L[j] ∈ L := List.getElem_mem _
        have hqa := HAT.out L[j] hqm
        obtain ⟨A, N, C, G, E, hin, HFp, _⟩ := HFB.out (L[j].at' : Int) (by omega)
        obtain ⟨eA, eN, eC, eG, rfl⟩ := hin L[j] hqm rfl
        have HEQ : Hid (A = (L[j].at' : Int) ∧ N = (L[j].n : Int) ∧ C = (L[j].count : Int) ∧ G = (L[j].tag : Int)) := ⟨eA, eN, eC, eG⟩
        rw [← eA] at x0 y0 HFp
        rw [← eN] at x1 y1
        rw [← eC] at x2 y2
        rw [← eG] at x3 y3
        have HFP := hid_mk HFp
        have key1 : ∀ W, Below w2.heap.size w2 W → ∀ i, W.cell? ⟨g1, i, none⟩ = w2.cell? ⟨g1, i, none⟩ := fun W hW i => hW.cell (p := ⟨g1, i, none⟩) hl1
        have key3 : ∀ W, Below w2.heap.size w2 W → ∀ i, W.cell? ⟨g3, i, none⟩ = w2.cell? ⟨g3, i, none⟩ := fun W hW i => hW.cell (p := ⟨g3, i, none⟩) hl3
        have HC1 : Hid (∀ W, Below w2.heap.size w2 W → W.cell? ⟨g1, j * 4, none⟩ = some (.int .i64 A) ∧ W.cell? ⟨g1, j * 4 + 1, none⟩ = some (.int .i64 N) ∧ W.cell? ⟨g1, j * 4 + 2, none⟩ = some (.int .i64 C) ∧ W.cell? ⟨g1, j * 4 + 3, none⟩ = some (.int .u64 G)) := fun W hW => ⟨(key1 W hW _).trans x0, (key1 W hW _).trans x1, (key1 W hW _).trans x2, (key1 W hW _).trans x3⟩
        have HC3 : Hid (∀ W, Below w2.heap.size w2 W → W.cell? ⟨g3, j * 4, none⟩ = some (.int .i64 A) ∧ W.cell? ⟨g3, j * 4 + 1, none⟩ = some (.int .i64 N) ∧ W.cell? ⟨g3, j * 4 + 2, none⟩ = some (.int .i64 C) ∧ W.cell? ⟨g3, j * 4 + 3, none⟩ = some (.int .u64 G)) := fun W hW => ⟨(key3 W hW _).trans y0, (key3 W hW _).trans y1, (key3 W hW _).trans y2, (key3 W hW _).trans y3⟩
        have HPW : Hid (∀ W, Below w2.heap.size w2 W → Below W0.heap.size W0 W) := fun W hW => HB2.out.trans (hW.mono HB2.out.size)
        have hji : (j : Int) < (M : Int) := by omega
        obtain ⟨d0, _, _, _⟩ := HC1.out wr HBE.out
        obtain ⟨d1, _⟩ := HPC.out wr (HPW.out wr HBE.out)
        clear hg1 hg3 hc1 hc3 x0 x1 x2 x3 y0 y1 y2 y3 hin eA eN eC eG HFp key1 key3 hqm hqa
        go_upto_region 8 with fail
        go_cut [7, 8] (fun x e wx => ∃ b, x = .pointer (some ⟨b, 0, none⟩) ∧ e = .int .i64 0 ∧ wx.heap[b]? = some (.cells #[.int .i64 A, .int .i64 N, .int .i64 C, .int .u64 G] 48 (0, 0)) ∧ Below w2.heap.size w2 wx)
        case first =>
          have HS : Hid (∀ W, Below w2.heap.size w2 W → W.cell? ⟨P, 0, none⟩ = some (.pointer (some ⟨s, 0, none⟩)) ∧ W.cell? ⟨g1, j * 4, none⟩ = some (.int .i64 A)) := fun W hW => ⟨(HPC.out W (HPW.out W hW)).1, (HC1.out W hW).1⟩
          have HD : Hid (Below w2.heap.size w2 wr.drew) := Below.drew HBE.out
          go_region_held3 (fun w' => w'.cell? ⟨P, 0, none⟩ = some (.pointer (some ⟨s, 0, none⟩)) ∧ w'.cell? ⟨g1, j * 4, none⟩ = some (.int .i64 A)) (exact HS.out _ (by first | exact HD.out | exact HB5.out | exact HD.out.alloc HD.out.size _ | exact HB5.out.alloc HB5.out.size _ | exact four_below HB5.out HD.out.size | exact four_below (HB5.out.alloc HB5.out.size _) HB5.out.size)) (first
            | (go_at_call 35; refine (HFP.out _ (HPW.out _ HD.out)).mono ?_; rintro e w5 ⟨rfl, b5⟩; have HB5 : Hid (Below w2.heap.size w2 w5) := HD.out.trans (b5.mono HD.out.size); clear b5)
            | (go_at_call 35; refine (HFP.out _ (HPW.out _ (HD.out.alloc HD.out.size (.cells #[.int .i64 0, .int .i64 0, .int .i64 0, .int .u64 0] 48)))).mono ?_; rintro e w5 ⟨rfl, b5⟩; have HZ : Hid (w5.heap[wr.heap.size]? = some (.cells #[.int .i64 0, .int .i64 0, .int .i64 0, .int .u64 0] 48 (0, 0))) := (b5.block wr.heap.size (drew_lt wr _)).trans (heap_alloc_new wr.drew _); have HB5 : Hid (Below w2.heap.size w2 w5) := (HD.out.alloc HD.out.size _).trans (b5.mono (HD.out.alloc HD.out.size _).size); have f0 : w5.cell? ⟨wr.heap.size, 0, none⟩ = some (.int .i64 0) := (by simp [World.cell?, HZ.out]); have f1 : w5.cell? ⟨wr.heap.size, 1, none⟩ = some (.int .i64 0) := (by simp [World.cell?, HZ.out]); have f2 : w5.cell? ⟨wr.heap.size, 2, none⟩ = some (.int .i64 0) := (by simp [World.cell?, HZ.out]); have f3 : w5.cell? ⟨wr.heap.size, 3, none⟩ = some (.int .u64 0) := (by simp [World.cell?, HZ.out]); have ff := unfrozen HZ.out; clear b5))
          all_goals go_wp2_with fail
          all_goals go_meet
          · exact ⟨_, rfl, rfl, heap_alloc_new _ _, HB5.out.alloc HB5.out.size _⟩
          · exact ⟨_, rfl, rfl, put4 HZ.out, four_below HB5.out HD.out.size⟩
        case rest =>
          obtain ⟨b, rfl, rfl, hb, hbe2⟩ := hcut
          have t0 : wc.cell? ⟨b, 0, none⟩ = some (.int .i64 A) := by simp [World.cell?, hb]
          have t1 : wc.cell? ⟨b, 1, none⟩ = some (.int .i64 N) := by simp [World.cell?, hb]
          have t2 : wc.cell? ⟨b, 2, none⟩ = some (.int .i64 C) := by simp [World.cell?, hb]
          have t3 : wc.cell? ⟨b, 3, none⟩ = some (.int .u64 G) := by simp [World.cell?, hb]
          obtain ⟨x0, x1, x2, x3⟩ := HC1.out wc hbe2
          obtain ⟨y0, y1, y2, y3⟩ := HC3.out wc hbe2
          have HBE2 := hid_mk hbe2
          clear hb hbe2 d0 d1 HBE
          go_upto_region 9 with fail
          by_cases hj2 : j < 2
          · have hj2i : decide ((j : Int) < 2) = true := decide_eq_true (by omega)
            have hjT : j < (L.take 2).length := by rw [List.length_take]; omega
            have hjTi : (j : Int) < (T : Int) := by have := HT.out; omega
            obtain ⟨g2, c2', hg2, _, hl2, _, hc2⟩ := ROwns.at HO2.out (fun h => by rw [h] at hjT; simp at hjT)
            rw [← HT.out] at hg2
            obtain ⟨rfl, rfl⟩ : a2 = some ⟨g2, 0, none⟩ ∧ c2 = c2' := by simp at hg2; exact hg2
            obtain ⟨z0, z1, z2, z3⟩ := hc2 j hjT
            have el : (L.take 2)[j] = L[j] := List.getElem_take
            obtain ⟨eA, eN, eC, eG⟩ := HEQ.out
            rw [el, ← eA] at z0
            rw [el, ← eN] at z1
            rw [el, ← eC] at z2
            rw [el, ← eG] at z3
            have k2 : ∀ i, wc.cell? ⟨g2, i, none⟩ = w2.cell? ⟨g2, i, none⟩ := fun i => HBE2.out.cell (p := ⟨g2, i, none⟩) hl2
            have v0 := (k2 _).trans z0
            have v1 := (k2 _).trans z1
            have v2 := (k2 _).trans z2
            have v3 := (k2 _).trans z3
            clear hg2 hc2 z0 z1 z2 z3 el eA eN eC eG k2 hjT hj2
            go_quiet (fail)
            have HQ : Hid (Below w2.heap.size w2 (wc.drewN nq)) := HBE2.out.trans (drewN_bel _ _ _)
            go_wp2_with fail
            go_roundg (M - (j + 1))
            case measure => have := HGK.out; omega
            case rel => exact ⟨j + 1, by go_num, by omega, rfl, HQ.out⟩
          · have hj2i : decide ((j : Int) < 2) = false := decide_eq_false (by omega)
            clear hj2
            go_quiet (fail)
            have HQ : Hid (Below w2.heap.size w2 (wc.drewN nq)) := HBE2.out.trans (drewN_bel _ _ _)
            go_wp2_with fail
            go_roundg (M - (j + 1))
            case measure => have := HGK.out; omega
            case rel => exact ⟨j + 1, by go_num, by omega, rfl, HQ.out⟩
      · obtain rfl : j = M := by omega
        have HPW : Hid (∀ W, Below w2.heap.size w2 W → Below W0.heap.size W0 W) := fun W hW => HB2.out.trans (hW.mono HB2.out.size)
        go_wp2_with fail
        go_loopg [9] 5 (fun k i wr' => ∃ t : Int, i = .int .i64 t ∧ -1 ≤ t ∧ t ≤ 4 ∧ k = (4 - t).toNat ∧ Below w2.heap.size w2 wr')
        case atStart => exact ⟨-1, rfl, by omega, by omega, by omega, HBE.out⟩
        case round =>
          obtain ⟨t, rfl, ht1, ht2, hk, hbe⟩ := hrel
          have HGK2 := hid_mk hk
          have HBX := hid_mk hbe
          clear hk hbe HBE
          by_cases hlt : t < 4
          · obtain ⟨A, N, C, G, E, _, HFp, HFr⟩ := HFB.out t (by omega)
            have HFP := hid_mk HFp
            have HFR := hid_mk HFr
            obtain ⟨d0, d1⟩ := HPC.out wr (HPW.out wr HBX.out)
            have x1 : IntKind.i64.wrap (t + 1) = t + 1 := by rw [IntKind.wrap_i64]; omega
            clear HFp HFr p0 p1
            go_upto_region 15 with (first | (go_at_call 35; refine (HFP.out _ (HPW.out _ HBX.out)).mono ?_; clear HFP; rintro e w5 ⟨rfl, b5⟩; have HB5 : Hid (Below w2.heap.size w2 w5) := HBX.out.trans (b5.mono HBX.out.size); clear b5))
            obtain ⟨X5, hX5⟩ : ∃ X5, X5 = w5.alloc (.cells #[.int .i64 A, .int .i64 N, .int .i64 C, .int .u64 G] 48) := ⟨_, rfl⟩
            obtain ⟨b5, hb5⟩ : ∃ b5, b5 = w5.heap.size := ⟨_, rfl⟩
            have bX5 : Below w2.heap.size w2 X5 := by rw [hX5]; exact HB5.out.alloc HB5.out.size _
            have eX5 : X5.heap[b5]? = some (.cells #[.int .i64 A, .int .i64 N, .int .i64 C, .int .u64 G] 48 (0, 0)) := by rw [hX5, hb5]; exact heap_alloc_new _ _
            obtain ⟨m0, m1⟩ := HPC.out X5 (HPW.out X5 bX5)
            have HB6 := hid_mk bX5
            have HE5 := hid_mk eX5
            rw [← hX5, ← hb5]
            clear hX5 hb5 bX5 eX5 d0 d1
            go_upto_region 16 with (first | (go_at_call 36; refine (HFR.out _ (HPW.out _ HB6.out)).mono ?_; clear HFR; rintro e w6 ⟨rfl, b6⟩; have HB7 : Hid (Below w2.heap.size w2 w6) := HB6.out.trans (b6.mono HB6.out.size); have HE6 : Hid (w6.heap[b5]? = some (.cells #[.int .i64 A, .int .i64 N, .int .i64 C, .int .u64 G] 48 (0, 0))) := (b6.block b5 (Array.getElem?_eq_some_iff.1 HE5.out).1).trans HE5.out; clear b6))
            obtain ⟨X6, hX6⟩ : ∃ X6, X6 = w6.alloc (.cells #[.int .i64 A, .int .i64 N, .int .i64 C, .int .u64 G] 48) := ⟨_, rfl⟩
            obtain ⟨b6, hb6⟩ : ∃ b6, b6 = w6.heap.size := ⟨_, rfl⟩
            have bX6 : Below w2.heap.size w2 X6 := by rw [hX6]; exact HB7.out.alloc HB7.out.size _
            have eX6 : X6.heap[b6]? = some (.cells #[.int .i64 A, .int .i64 N, .int .i64 C, .int .u64 G] 48 (0, 0)) := by rw [hX6, hb6]; exact heap_alloc_new _ _
            have eX5 : X6.heap[b5]? = some (.cells #[.int .i64 A, .int .i64 N, .int .i64 C, .int .u64 G] 48 (0, 0)) := by rw [hX6, Below.heap_alloc _ _ _ (Array.getElem?_eq_some_iff.1 HE6.out).1]; exact HE6.out
            have r0 : X6.cell? ⟨b5, 0, none⟩ = some (.int .i64 A) := by simp [World.cell?, eX5]
            have r1 : X6.cell? ⟨b5, 1, none⟩ = some (.int .i64 N) := by simp [World.cell?, eX5]
            have r2 : X6.cell? ⟨b5, 2, none⟩ = some (.int .i64 C) := by simp [World.cell?, eX5]
            have r3 : X6.cell? ⟨b5, 3, none⟩ = some (.int .u64 G) := by simp [World.cell?, eX5]
            have s0 : X6.cell? ⟨b6, 0, none⟩ = some (.int .i64 A) := by simp [World.cell?, eX6]
            have s1 : X6.cell? ⟨b6, 1, none⟩ = some (.int .i64 N) := by simp [World.cell?, eX6]
            have s2 : X6.cell? ⟨b6, 2, none⟩ = some (.int .i64 C) := by simp [World.cell?, eX6]
            have s3 : X6.cell? ⟨b6, 3, none⟩ = some (.int .u64 G) := by simp [World.cell?, eX6]
            have HB8 := hid_mk bX6
            rw [← hX6, ← hb6]
            clear hX6 hb6 bX6 eX6 eX5 m0 m1
            go_wp2_with fail
            go_roundg ((4 - (t + 1)).toNat)
            case measure => have := HGK2.out; omega
            case rel => exact ⟨t + 1, rfl, by omega, by omega, rfl, HB8.out⟩
          · clear p0 p1
            go_wp2_with fail
            go_ret
            exact ⟨rfl, HPW.out _ HBX.out⟩
end Go.Proofs.YtcpdnalmoaojlaaDoor
