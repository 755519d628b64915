import Derived.Test.YtcpdnalmoaojlaaDoorHQ17

/-
  SpacePlays: calls that change something, both ways.
-/
namespace Go.Proofs.YtcpdnalmoaojlaaDoor
open Go.RowKit Go.Shelf
set_option linter.unusedVariables false
set_option linter.unusedSimpArgs false

/-- What the space's call tells, and leaves. -/
def SpT (c : PR) (R : Value) (rows1 : Nat) (l1 : List Pc) (W : World) (e : Ending) (w' : World) : Prop := e = .returned R ∧ Only c.s W w' ∧ SpAt w' c.s rows1 l1
/-- What the document's call tells, and leaves. -/
def RfT (c : PR) (R : Value) (rows1 : Nat) (l1 : List Pc) (W : World) (e : Ending) (w' : World) : Prop := e = .returned R ∧ ∃ v', Kept (fun k => ¬ rfU c.r c.v k) W w' ∧ (∀ k, own v' k → own c.v k ∨ W.heap.size ≤ k) ∧ RfAt w' c.r v' rows1 (refR l1)
theorem SpT.next {w0 : World} {P rows rows1 : Nat} {c : PR} {l l1 : List Pc} {ks : List PR} {kv : Value} {R : Value} {W w' : World} {e : Ending} (h : PJ w0 P c rows l ks kv W) (ht : SpT c R rows1 l1 W e w') : e = .returned R ∧ PJ w0 P c rows1 l1 ks kv w' := ⟨ht.1, h.spN ht.2.1 ht.2.2⟩
theorem RfT.next {w0 : World} {P rows1 : Nat} {c : PR} {l1 : List Pc} {ks : List PR} {kv : Value} {R : Value} {W w' : World} {e : Ending} (h : PJ w0 P c rows1 l1 ks kv W) (hok : SpOk rows1 l1) (ht : RfT c R rows1 l1 W e w') : e = .returned R ∧ ∃ c', c'.s = c.s ∧ c'.r = c.r ∧ PJ w0 P c' c'.rows c'.l ks kv w' ∧ SpOk c'.rows c'.l := by
  obtain ⟨h1, v', h2, h3, h4⟩ := ht
  exact ⟨h1, ⟨c.s, c.r, v', rows1, l1⟩, rfl, rfl, h.rfN h2 h3 h4, hok⟩
theorem kept_rf {c : PR} {W w' : World} (h : Kept (fun k => ¬ own c.v k) W w') : Kept (fun k => ¬ rfU c.r c.v k) W w' := h.sub fun k _ hk e => hk (.inr e)
section
variable {w0 : World} {P : Nat} {c : PR} {ks : List PR} {kv : Value}
theorem take_both (hok : SpOk c.rows c.l) (n : Int) (tag : Nat) (hn : -9223372036854775808 ≤ n ∧ n ≤ 9223372036854775807) (ht : tag < 18446744073709551616) :
    ∃ (X E : Int) (l1 : List Pc), SpOk c.rows l1 ∧ (∀ W, PJ w0 P c c.rows c.l ks kv W → Calls Tryd.prog 12 #[.agg #[.pointer (some ⟨c.s, 0, none⟩)], .int .i64 n, .int .u64 (tag : Int)] W (SpT c (.tuple #[.int .i64 X, .int .i64 E]) c.rows l1 W)) ∧
      ∀ W, PJ w0 P c c.rows l1 ks kv W → Calls Tryd.prog 24 #[.pointer (some ⟨c.r, 0, none⟩), .int .i64 n, .int .u64 (tag : Int)] W (RfT c (.tuple #[.int .i64 X, .int .i64 E]) c.rows l1 W) := by
  by_cases h1 : n < 1
  · refine ⟨0, 5, c.l, hok, fun W hW => ?_, fun W hW => ?_⟩
    · exact (ptake_low c.s n tag W hW.err h1).mono fun e w' ⟨q1, q2⟩ => ⟨q1, Only.of_below q2, hW.sp.below q2⟩
    · refine (rtake_any c.r c.rows tag c.v c.l n W hW.rf hok hn).mono fun e w' ⟨q1, q2⟩ => ?_
      rcases q2 with ⟨_, q3, q4⟩ | ⟨q3, _⟩ | ⟨g, q3, _⟩
      · exact ⟨q3, c.v, kept_rf q1, fun k hk => .inl hk, q4⟩
      · omega
      · omega
  · obtain ⟨N, rfl⟩ : ∃ N : Nat, n = (N : Int) := ⟨n.toNat, by omega⟩
    have hs1 := gapL_spec (n := N) (by omega) hok.fits
    by_cases hg : gapL c.l N 0 c.rows < 0
    · refine ⟨0, 8, c.l, hok, fun W hW => ?_, fun W hW => ?_⟩
      · refine (ptake_any c.s c.rows N tag c.l W hW.err (Nat.lt_of_lt_of_le hW.gi (hW.low _ (.inl rfl))) hW.sp hok (by omega) (by omega) ht).mono fun e w' ⟨q1, q2⟩ => ?_
        rcases q2 with ⟨_, q3, q4⟩ | ⟨g, q3, _⟩
        · exact ⟨q3, q1, q4⟩
        · omega
      · refine (rtake_any c.r c.rows tag c.v c.l (N : Int) W hW.rf hok hn).mono fun e w' ⟨q1, q2⟩ => ?_
        rw [Int.toNat_natCast] at q2
        rcases q2 with ⟨q3, _⟩ | ⟨_, _, q3, q4⟩ | ⟨g, _, q3, _⟩
        · omega
        · exact ⟨q3, c.v, kept_rf q1, fun k hk => .inl hk, q4⟩
        · omega
    · obtain ⟨g, hg2⟩ : ∃ g : Nat, gapL c.l N 0 c.rows = (g : Int) := ⟨(gapL c.l N 0 c.rows).toNat, by omega⟩
      have hk := sOk_take hok (n := N) (by omega) ht hg2
      refine ⟨(g : Int), 0, putL c.l ⟨g, N, 1, tag, 0⟩, hk.1, fun W hW => ?_, fun W hW => ?_⟩
      · refine (ptake_any c.s c.rows N tag c.l W hW.err (Nat.lt_of_lt_of_le hW.gi (hW.low _ (.inl rfl))) hW.sp hok (by omega) (by omega) ht).mono fun e w' ⟨q1, q2⟩ => ?_
        rcases q2 with ⟨q3, _⟩ | ⟨g', q3, q4, q5⟩
        · omega
        · obtain rfl : g' = g := by omega
          exact ⟨q4, q1, q5⟩
      · refine (rtake_any c.r c.rows tag c.v c.l (N : Int) W hW.rf hok hn).mono fun e w' ⟨q1, q2⟩ => ?_
        rw [Int.toNat_natCast] at q2
        rcases q2 with ⟨q3, _⟩ | ⟨_, q3, _⟩ | ⟨g', _, q3, q4, q5⟩
        · omega
        · omega
        · obtain rfl : g' = g := by omega
          exact ⟨q4, c.v, kept_rf q1, fun k hk => .inl hk, q5⟩
theorem uses_le (hok : SpOk c.rows c.l) : ∀ i, i < c.rows → (refR c.l i).uses ≤ 65535 := fun i hi => by
  have key : ∀ (l : List Pc), (∀ p ∈ l, p.Ok) → (refR l i).uses ≤ 65535 := fun l => by
    induction l with
    | nil => intro _; show 0 ≤ 65535; omega
    | cons p l ih =>
      intro h
      have hp := h p List.mem_cons_self
      show ((if i < p.at' then free0 else if i < p.stop then inP p i else refR l i) : RR).uses ≤ 65535
      by_cases c1 : i < p.at'
      · rw [if_pos c1]; show 0 ≤ 65535; omega
      · rw [if_neg c1]
        by_cases c2 : i < p.stop
        · rw [if_pos c2]
          unfold inP
          split
          · show 0 ≤ 65535; omega
          · split
            · exact hp.2.1
            · show 0 ≤ 65535; omega
        · rw [if_neg c2]
          exact ih fun q hq => h q (List.mem_cons_of_mem _ hq)
  exact key c.l hok.ok
/-- The run that begins at a row. -/
theorem at_used (hok : SpOk c.rows c.l) {i : Nat} (hr : (refR c.l i).run = (i : Int)) : ∃ q ∈ c.l, q.at' = i ∧ q.st ≠ 2 ∧ refR c.l i = ⟨(i : Int), false, q.n, q.count, q.tag, decide (q.st = 1)⟩ := by
  obtain ⟨q, hq, e⟩ := begins_of hok.fits hr
  obtain ⟨h1, h2⟩ := fil_mem hq
  have := refR_at hok.fits hq
  rw [e] at this
  exact ⟨q, h1, e, h2, this⟩
theorem not_bgn (hok : SpOk c.rows c.l) {at' : Int} (h : ∀ q ∈ c.l, (q.at' : Int) = at' → q.st = 2) : bgn c.rows (refR c.l) at' = false := by
  cases hb : bgn c.rows (refR c.l) at' with
  | false => rfl
  | true =>
    obtain ⟨q, h1, h2, h3⟩ := (bgn_iff hok at').1 hb
    exact absurd (h q h1 h2) h3
theorem share_both (hok : SpOk c.rows c.l) (at' : Int) (hn : -9223372036854775808 ≤ at' ∧ at' ≤ 9223372036854775807) :
    ∃ (E : Int) (l1 : List Pc), SpOk c.rows l1 ∧ (∀ W, PJ w0 P c c.rows c.l ks kv W → Calls Tryd.prog 14 #[.agg #[.pointer (some ⟨c.s, 0, none⟩)], .int .i64 at'] W (SpT c (.int .i64 E) c.rows l1 W)) ∧
      ∀ W, PJ w0 P c c.rows l1 ks kv W → Calls Tryd.prog 25 #[.pointer (some ⟨c.r, 0, none⟩), .int .i64 at'] W (RfT c (.int .i64 E) c.rows l1 W) := by
  have hul := uses_le hok
  by_cases hq : ∃ q ∈ c.l, (q.at' : Int) = at' ∧ q.st ≠ 2
  · obtain ⟨q, hq1, hq2, hq3⟩ := hq
    have hq' : q ∈ fil c.l := List.mem_filter.2 ⟨hq1, by simp [isUsed, hq3]⟩
    have hqo := hok.ok q hq1
    have hb : bgn c.rows (refR c.l) at' = true := (bgn_iff hok at').2 ⟨q, hq1, hq2, hq3⟩
    by_cases hc : q.count = 65535
    · refine ⟨14, c.l, hok, fun W hW => ?_, fun W hW => ?_⟩
      · refine (pshare_any c.s c.rows c.l at' W hW.err (Nat.lt_of_lt_of_le hW.gi (hW.low _ (.inl rfl))) hW.sp hok).mono fun e w' ⟨q1, q2⟩ => ?_
        rcases q2 with ⟨q3, _⟩ | ⟨p, p1, p2, p3, (⟨_, p5, p6⟩ | ⟨p4, _⟩)⟩
        · exact absurd (q3 q hq1 hq2) hq3
        · exact ⟨p5, q1, p6⟩
        · obtain rfl : p = q := used_at hok hq' p1 (by omega)
          omega
      · refine (rshare_any c.r c.rows c.v (refR c.l) at' W hW.rf hok.rows30 hn hul).mono fun e w' ⟨q1, q2⟩ => ?_
        rcases q2 with ⟨q3, _⟩ | ⟨i, rfl, p2, p3, (⟨_, p5, p6⟩ | ⟨p4, _⟩)⟩
        · rw [hb] at q3; cases q3
        · exact ⟨p5, c.v, kept_rf q1, fun k hk => .inl hk, p6⟩
        · obtain ⟨p, k1, k2, k3, k4⟩ := at_used hok p3
          obtain rfl : p = q := used_at hok hq' k1 (by omega)
          rw [k4] at p4
          simp only [] at p4
          omega
    · obtain ⟨m, k, e1, e2, e3⟩ := put_mid (q' := { q with count := q.count + 1 }) hok hq1 rfl rfl ⟨fun _ => by show 1 ≤ q.count + 1; omega, by have := hqo.2.1; show q.count + 1 ≤ 65535; omega, hqo.2.2.1, hqo.2.2.2⟩
      refine ⟨0, putL c.l { q with count := q.count + 1 }, e3, fun W hW => ?_, fun W hW => ?_⟩
      · refine (pshare_any c.s c.rows c.l at' W hW.err (Nat.lt_of_lt_of_le hW.gi (hW.low _ (.inl rfl))) hW.sp hok).mono fun e w' ⟨q1, q2⟩ => ?_
        rcases q2 with ⟨q3, _⟩ | ⟨p, p1, p2, p3, (⟨p4, _⟩ | ⟨_, p5, p6⟩)⟩
        · exact absurd (q3 q hq1 hq2) hq3
        · obtain rfl : p = q := used_at hok hq' p1 (by omega)
          omega
        · obtain rfl : p = q := used_at hok hq' p1 (by omega)
          exact ⟨p5, q1, p6⟩
      · refine (rshare_any c.r c.rows c.v (refR c.l) at' W hW.rf hok.rows30 hn hul).mono fun e w' ⟨q1, q2⟩ => ?_
        rcases q2 with ⟨q3, _⟩ | ⟨i, rfl, p2, p3, (⟨p4, _⟩ | ⟨_, p5, p6⟩)⟩
        · rw [hb] at q3; cases q3
        · obtain ⟨p, k1, k2, k3, k4⟩ := at_used hok p3
          obtain rfl : p = q := used_at hok hq' k1 (by omega)
          rw [k4] at p4
          simp only [] at p4
          omega
        · obtain ⟨p, k1, k2, k3, k4⟩ := at_used hok p3
          obtain rfl : p = q := used_at hok hq' k1 (by omega)
          refine ⟨p5, c.v, kept_rf q1, fun k hk => .inl hk, p6.congr fun t _ => ?_⟩
          rw [refR_put (q' := { p with count := p.count + 1 }) hok k1 rfl rfl]
          have hst : p.stop = p.at' + p.n := rfl
          have hn1 := (fits_mem hok.fits p k1).2.1
          obtain ⟨mm, kk, ee⟩ := List.append_of_mem k1
          have hmid : ∀ t, p.at' ≤ t → t < p.stop → refR c.l t = inP p t := fun t t1 t2 => by
            have hf := hok.fits
            rw [ee] at hf ⊢
            rw [refR_mid hf, if_neg (by omega), if_pos t2]
          unfold upd
          by_cases ct : t = i
          · rw [if_pos ct, if_pos (by omega), ct, k4]
            unfold inP
            simp only []
            rw [if_neg k3, if_pos k2.symm, k2]
          · rw [if_neg ct]
            by_cases cu : p.at' ≤ t ∧ t < p.stop
            · rw [if_pos cu, hmid t cu.1 cu.2]
              unfold inP
              simp only []
              rw [if_neg k3, if_neg (by omega), if_neg k3, if_neg (by omega)]
            · rw [if_neg cu]
  · have hno : ∀ q ∈ c.l, (q.at' : Int) = at' → q.st = 2 := fun q h1 h2 => by
      by_cases h3 : q.st = 2
      · exact h3
      · exact absurd ⟨q, h1, h2, h3⟩ hq
    have hb := not_bgn hok hno
    refine ⟨3, c.l, hok, fun W hW => ?_, fun W hW => ?_⟩
    · refine (pshare_any c.s c.rows c.l at' W hW.err (Nat.lt_of_lt_of_le hW.gi (hW.low _ (.inl rfl))) hW.sp hok).mono fun e w' ⟨q1, q2⟩ => ?_
      rcases q2 with ⟨_, q3, q4⟩ | ⟨p, p1, p2, p3, _⟩
      · exact ⟨q3, q1, q4⟩
      · exact absurd (hno p p1 p2) p3
    · refine (rshare_any c.r c.rows c.v (refR c.l) at' W hW.rf hok.rows30 hn hul).mono fun e w' ⟨q1, q2⟩ => ?_
      rcases q2 with ⟨_, q3, q4⟩ | ⟨i, rfl, p2, p3, _⟩
      · exact ⟨q3, c.v, kept_rf q1, fun k hk => .inl hk, q4⟩
      · rw [bgn_nat p2, p3] at hb
        simp at hb
end
end Go.Proofs.YtcpdnalmoaojlaaDoor

/-
  SpacePlays: Drop, Turn, Grow both ways.
-/
namespace Go.Proofs.YtcpdnalmoaojlaaDoor
open Go.RowKit Go.Shelf
set_option linter.unusedVariables false
set_option linter.unusedSimpArgs false

section
variable {w0 : World} {P : Nat} {c : PR} {ks : List PR} {kv : Value}
theorem drop_rowsR (hok : SpOk c.rows c.l) {p : Pc} {i : Nat} (k1 : p ∈ c.l) (k2 : p.at' = i) (k3 : p.st ≠ 2) (k4 : refR c.l i = ⟨(i : Int), false, p.n, p.count, p.tag, decide (p.st = 1)⟩) (t : Nat) : dropF (refR c.l) i t = refR (dropL c.l p) t := by
  have hst : p.stop = p.at' + p.n := rfl
  have hn1 := (fits_mem hok.fits p k1).2.1
  have hpo := hok.ok p k1
  have hc1 := hpo.1 k3
  obtain ⟨mm, kk, ee⟩ := List.append_of_mem k1
  have hmid : ∀ t, p.at' ≤ t → t < p.stop → refR c.l t = inP p t := fun t t1 t2 => by
    have hf := hok.fits
    rw [ee] at hf ⊢
    rw [refR_mid hf, if_neg (by omega), if_pos t2]
  unfold dropF dropL
  rw [k4]
  simp only []
  by_cases hc : p.count = 1
  · rw [if_pos hc, if_neg (by omega)]
    by_cases h0 : p.st = 0
    · rw [if_pos h0, refR_out hok k1]
      unfold partR
      by_cases cu : i ≤ t ∧ t < i + p.n
      · rw [if_pos cu, if_pos (by omega)]
        unfold goneR free0
        rw [decide_eq_false (by omega)]
      · rw [if_neg cu, if_neg (by omega)]
    · rw [if_neg h0, refR_put (q' := { p with count := 0, st := 2 }) hok k1 rfl rfl]
      have h1 : p.st = 1 := by have := hpo.2.2.2; omega
      unfold partR
      by_cases cu : i ≤ t ∧ t < i + p.n
      · rw [if_pos cu, if_pos (by omega)]
        unfold goneR inP
        simp only []
        rw [if_pos trivial, decide_eq_true h1]
      · rw [if_neg cu, if_neg (by omega)]
  · rw [if_neg hc, if_pos (by omega), refR_put (q' := { p with count := p.count - 1 }) hok k1 rfl rfl]
    unfold upd
    by_cases ct : t = i
    · rw [if_pos ct, if_pos (by omega), ct]
      unfold inP
      simp only []
      rw [if_neg k3, if_pos k2.symm, k2]
    · rw [if_neg ct]
      by_cases cu : p.at' ≤ t ∧ t < p.stop
      · rw [if_pos cu, hmid t cu.1 cu.2]
        unfold inP
        simp only []
        rw [if_neg k3, if_neg (by omega), if_neg k3, if_neg (by omega)]
      · rw [if_neg cu]
theorem drop_both (hok : SpOk c.rows c.l) (at' : Int) (hn : -9223372036854775808 ≤ at' ∧ at' ≤ 9223372036854775807) :
    ∃ (E : Int) (l1 : List Pc), SpOk c.rows l1 ∧ (∀ W, PJ w0 P c c.rows c.l ks kv W → Calls Tryd.prog 13 #[.agg #[.pointer (some ⟨c.s, 0, none⟩)], .int .i64 at'] W (SpT c (.int .i64 E) c.rows l1 W)) ∧
      ∀ W, PJ w0 P c c.rows l1 ks kv W → Calls Tryd.prog 26 #[.pointer (some ⟨c.r, 0, none⟩), .int .i64 at'] W (RfT c (.int .i64 E) c.rows l1 W) := by
  have hul : ∀ i, i < c.rows → (refR c.l i).run = (i : Int) → 1 ≤ (refR c.l i).n ∧ i + (refR c.l i).n ≤ c.rows ∧ 1 ≤ (refR c.l i).uses ∧ (refR c.l i).uses ≤ 65535 := fun i hi hr => by
    obtain ⟨p, k1, k2, k3, k4⟩ := at_used hok hr
    obtain ⟨_, m2, m3⟩ := fits_mem hok.fits p k1
    have hst : p.stop = p.at' + p.n := rfl
    have hpo := hok.ok p k1
    have := hpo.1 k3
    have := hpo.2.1
    rw [k4]
    simp only []
    omega
  by_cases hq : ∃ q ∈ c.l, (q.at' : Int) = at' ∧ q.st ≠ 2
  · obtain ⟨q, hq1, hq2, hq3⟩ := hq
    have hq' : q ∈ fil c.l := List.mem_filter.2 ⟨hq1, by simp [isUsed, hq3]⟩
    have hb : bgn c.rows (refR c.l) at' = true := (bgn_iff hok at').2 ⟨q, hq1, hq2, hq3⟩
    refine ⟨0, dropL c.l q, drop_ok hok hq1 hq3, fun W hW => ?_, fun W hW => ?_⟩
    · refine (pdrop_any c.s c.rows c.l at' W hW.err (Nat.lt_of_lt_of_le hW.gi (hW.low _ (.inl rfl))) hW.sp hok).mono fun e w' ⟨q1, q2⟩ => ?_
      rcases q2 with ⟨q3, _⟩ | ⟨p, p1, p2, p3, p4, p5⟩
      · exact absurd (q3 q hq1 hq2) hq3
      · obtain rfl : p = q := used_at hok hq' p1 (by omega)
        exact ⟨p4, q1, p5⟩
    · refine (rdrop_any c.r c.rows c.v (refR c.l) at' W hW.rf hok.rows30 hn hul).mono fun e w' ⟨q1, q2⟩ => ?_
      rcases q2 with ⟨q3, _⟩ | ⟨i, rfl, p2, p3, p4, p5⟩
      · rw [hb] at q3; cases q3
      · obtain ⟨p, k1, k2, k3, k4⟩ := at_used hok p3
        obtain rfl : p = q := used_at hok hq' k1 (by omega)
        exact ⟨p4, c.v, kept_rf q1, fun k hk => .inl hk, p5.congr fun t _ => drop_rowsR hok k1 k2 k3 k4 t⟩
  · have hno : ∀ q ∈ c.l, (q.at' : Int) = at' → q.st = 2 := fun q h1 h2 => by
      by_cases h3 : q.st = 2
      · exact h3
      · exact absurd ⟨q, h1, h2, h3⟩ hq
    have hb := not_bgn hok hno
    refine ⟨3, c.l, hok, fun W hW => ?_, fun W hW => ?_⟩
    · refine (pdrop_any c.s c.rows c.l at' W hW.err (Nat.lt_of_lt_of_le hW.gi (hW.low _ (.inl rfl))) hW.sp hok).mono fun e w' ⟨q1, q2⟩ => ?_
      rcases q2 with ⟨_, q3, q4⟩ | ⟨p, p1, p2, p3, _⟩
      · exact ⟨q3, q1, q4⟩
      · exact absurd (hno p p1 p2) p3
    · refine (rdrop_any c.r c.rows c.v (refR c.l) at' W hW.rf hok.rows30 hn hul).mono fun e w' ⟨q1, q2⟩ => ?_
      rcases q2 with ⟨_, q3, q4⟩ | ⟨i, rfl, p2, p3, _⟩
      · exact ⟨q3, c.v, kept_rf q1, fun k hk => .inl hk, q4⟩
      · rw [bgn_nat p2, p3] at hb
        simp at hb
theorem fits_more {a b n : Nat} {l : List Pc} (h : Fits a l b) : Fits a l (b + n) := h.mono (Nat.le_refl _) (by omega)
theorem grow_both (hok : SpOk c.rows c.l) (more : Int) :
    ∃ (E : Int) (rows1 : Nat), SpOk rows1 c.l ∧ (∀ W, PJ w0 P c c.rows c.l ks kv W → Calls Tryd.prog 28 #[.agg #[.pointer (some ⟨c.s, 0, none⟩)], .int .i64 more] W (SpT c (.int .i64 E) rows1 c.l W)) ∧
      ∀ W, PJ w0 P c rows1 c.l ks kv W → Calls Tryd.prog 29 #[.pointer (some ⟨c.r, 0, none⟩), .int .i64 more] W (RfT c (.int .i64 E) rows1 c.l W) := by
  have h30 := hok.rows30
  by_cases hb : more < 0 ∨ 1073741824 - (c.rows : Int) < more
  · refine ⟨5, c.rows, hok, fun W hW => ?_, fun W hW => ?_⟩
    · refine (pgrow_any c.s c.rows c.l more W hW.err (Nat.lt_of_lt_of_le hW.gi (hW.low _ (.inl rfl))) hW.sp h30).mono fun e w' ⟨q1, q2⟩ => ?_
      rcases q2 with ⟨_, q3, q4⟩ | ⟨n, q3, q4, _⟩
      · exact ⟨q3, q1, q4⟩
      · omega
    · refine (rGrow_any c.r c.rows c.v (refR c.l) more W hW.rf h30 (fun i hi => refR_hi hok.fits hi)).mono fun e w' q2 => ?_
      rcases q2 with ⟨_, q3, q4⟩ | ⟨n, q3, q4, _⟩
      · subst q4
        exact ⟨q3, c.v, Kept.refl _ _, fun k hk => .inl hk, hW.rf⟩
      · omega
  · obtain ⟨n, rfl⟩ : ∃ n : Nat, more = (n : Int) := ⟨more.toNat, by omega⟩
    refine ⟨0, c.rows + n, ⟨fits_more hok.fits, by omega, hok.ok⟩, fun W hW => ?_, fun W hW => ?_⟩
    · refine (pgrow_any c.s c.rows c.l (n : Int) W hW.err (Nat.lt_of_lt_of_le hW.gi (hW.low _ (.inl rfl))) hW.sp h30).mono fun e w' ⟨q1, q2⟩ => ?_
      rcases q2 with ⟨q3, _⟩ | ⟨m, q3, q4, q5, q6⟩
      · exact absurd q3 hb
      · obtain rfl : m = n := by omega
        exact ⟨q5, q1, q6⟩
    · refine (rGrow_any c.r c.rows c.v (refR c.l) (n : Int) W hW.rf h30 (fun i hi => refR_hi hok.fits hi)).mono fun e w' q2 => ?_
      rcases q2 with ⟨q3, _⟩ | ⟨m, q3, q4, q5, v', q6, q7⟩
      · exact absurd q3 hb
      · obtain rfl : m = n := by omega
        refine ⟨q5, v', q6.kept, fun k hk => ?_, q7⟩
        rcases (q6.sub k (.inr hk)).1 with (e | e) | e
        · exact absurd e (q7.ne hk)
        · exact .inl e
        · exact .inr e
end
end Go.Proofs.YtcpdnalmoaojlaaDoor

/-
  SpacePlays: others are laid aside, and taken up.
-/
namespace Go.Proofs.YtcpdnalmoaojlaaDoor
open Go.RowKit Go.Shelf
set_option linter.unusedVariables false
set_option linter.unusedSimpArgs false

/-- Only blocks of other kinds are other ones. -/
theorem PRok.ty {U : Nat → Prop} {X Z : World} {p : PR} (h : PRok X p) (hk : Kept U X Z) (hU : ∀ k cc t, X.heap[k]? = some (.cells cc t (0, 0)) → t ≠ 73 → t ≠ 35 → U k) : PRok Z p := by
  obtain ⟨q, h1, _⟩ := h.sp
  refine ⟨h.sp.kept hk (hU _ _ _ h1 (by decide) (by decide)) (fun k cc e => hU _ _ _ e (by decide) (by decide)), h.ok, h.rf.kept hk (hU _ _ _ h.rf.head (by decide) (by decide)) (fun k hk => ?_)⟩
  rcases h.rf.rows.2 with ⟨e, _⟩ | ⟨g, cc, cur, e, h4, h5, _⟩
  · rw [e] at hk; simp [own, Value.ownBlock] at hk
  · rw [e] at hk
    have e' : g = k := by simpa [own, Value.ownBlock] using hk
    subst e'
    exact hU _ _ _ h5 (by decide) (by decide)
theorem PRok.in {X : World} {p : PR} (h : PRok X p) {k : Nat} (hk : ft p k) : k < X.heap.size := by
  rcases hk with rfl | rfl | hk
  · exact h.sp.lt
  · exact h.rf.lt
  · exact h.rf.ownlt hk
theorem PJ.first {w0 : World} {P : Nat} {c : PR} {ks : List PR} {kv : Value} {W : World} (h : PJ w0 P c c.rows c.l ks kv W) (hok : SpOk c.rows c.l) : PRok W c := ⟨h.sp, hok, h.rf⟩
/-- One more is laid aside. -/
theorem PJ.push {w0 : World} {P : Nat} {c p : PR} {ks : List PR} {kv kv' : Value} {W X Y : World} (h : PJ w0 P c c.rows c.l ks kv W) (hok : SpOk c.rows c.l) (hb : Below W.heap.size W X) (hp : PRok X p) (hlow : ∀ k, ft p k → W.heap.size ≤ k)
    (hk : Kept (fun k => ¬ own kv k) X Y) (hn : ∀ k, own kv' k → own kv k ∨ X.heap.size ≤ k) (hkv : KOwns Y w0.heap.size kv' (ks ++ [p])) :
    Y.heap[P]? = some (.cells #[.pointer (some ⟨c.s, 0, none⟩), .pointer (some ⟨c.r, 0, none⟩), kv] 35 (0, 0)) ∧ PJ w0 P c c.rows c.l (ks ++ [p]) kv' (Y.setCell ⟨P, 2, none⟩ kv') := by
  have h1 := h.keepN hb
  have hPk : ¬ own kv P := fun e => by
    obtain ⟨_, c', e3⟩ := h1.kow.type e
    have := e3.symm.trans h1.box
    simp at this
  have hbY : Y.heap[P]? = some (.cells #[.pointer (some ⟨c.s, 0, none⟩), .pointer (some ⟨c.r, 0, none⟩), kv] 35 (0, 0)) := (hk.block P (Array.getElem?_eq_some_iff.1 h1.box).1 hPk).trans h1.box
  have hk2 : Kept (fun k => k ≠ P) Y (Y.setCell ⟨P, 2, none⟩ kv') := ⟨rfl, rfl, rfl, by simp [World.setCell], fun k _ hk => Below.heap_setCell _ _ _ _ hk⟩
  have hkk : Kept (fun k => ¬ own kv k ∧ k ≠ P) X (Y.setCell ⟨P, 2, none⟩ kv') := (hk.sub fun k _ q => q.1).trans (hk2.sub fun k _ q => q.2)
  have hU : ∀ k cc t, X.heap[k]? = some (.cells cc t (0, 0)) → t ≠ 73 → t ≠ 35 → ¬ own kv k ∧ k ≠ P := fun k cc t e t1 t2 => by
    refine ⟨fun e1 => ?_, fun e1 => ?_⟩
    · obtain ⟨_, c', e3⟩ := h1.kow.type e1
      have := e3.symm.trans e
      simp at this
      exact t1 this.2.symm
    · rw [e1] at e
      have := h1.box.symm.trans e
      simp at this
      exact t2 this.2.symm
  have hc := (h1.first hok).ty hkk hU
  have hgi := h.gi
  have hlo := h.lo
  have hw0 : ∀ k, k < w0.heap.size → ¬ own kv k ∧ k ≠ P := fun k hk => ⟨fun e => by have := (h1.kow.type e).1; omega, by omega⟩
  have hWX := hb.size
  refine ⟨hbY, ⟨?_, hkv.kept hk2 (fun k e e2 => ?_), hc.sp, hc.rf, h.low, fun q hq => ?_, ?_, ?_, h1.below.trans (hkk.below h1.below.size hw0), h.gi, h.lo⟩⟩
  · rw [heap_put hbY]; simp
  · rw [e2] at e
    rcases hn P e with e3 | e3
    · exact hPk e3
    · have := (Array.getElem?_eq_some_iff.1 h1.box).1; omega
  · rcases List.mem_append.1 hq with hq | hq
    · exact ⟨(h1.oth q hq).1.ty hkk hU, (h1.oth q hq).2⟩
    · obtain rfl := List.mem_singleton.1 hq
      exact ⟨hp.ty hkk hU, fun k hk => Nat.le_trans h.below.size (hlow k hk)⟩
  · have hold : ∀ q ∈ c :: ks, ∀ k, ft q k → k < W.heap.size := fun q hq k hk => by
      rcases List.mem_cons.1 hq with rfl | hq
      · exact (h.first hok).in hk
      · exact (h.oth q hq).1.in hk
    show ((c :: ks) ++ [p]).Pairwise _
    rw [List.pairwise_append]
    refine ⟨h.dis, List.pairwise_singleton _ _, fun a ha b hb' k hka hkb => ?_⟩
    obtain rfl := List.mem_singleton.1 hb'
    have := hold a ha k hka
    have := hlow k hkb
    omega
  · exact (World.cell?_of_block (w := X) (hkk.block 0 h1.err.size (hw0 _ h.gi))).trans h1.err
theorem kvL_at (ks : List PR) : ∀ (i : Nat) (h : i < ks.length), (kvL ks)[i * 2]? = some (.pointer (some ⟨ks[i].s, 0, none⟩)) ∧ (kvL ks)[i * 2 + 1]? = some (.pointer (some ⟨ks[i].r, 0, none⟩)) := by
  induction ks with
  | nil => intro i h; simp at h
  | cons x ks ih =>
    intro i h
    have e : kvL (x :: ks) = [.pointer (some ⟨x.s, 0, none⟩), .pointer (some ⟨x.r, 0, none⟩)] ++ kvL ks := rfl
    cases i with
    | zero => exact ⟨rfl, rfl⟩
    | succ i =>
      have := ih i (by simpa using h)
      rw [e, List.getElem?_append_right (by simp; omega), List.getElem?_append_right (by simp; omega)]
      simp only [List.length_cons, List.length_nil, List.getElem_cons_succ]
      rw [show (i + 1) * 2 - (0 + 1 + 1) = i * 2 by omega, show (i + 1) * 2 + 1 - (0 + 1 + 1) = i * 2 + 1 by omega]
      exact this
theorem kvL_length (ks : List PR) : (kvL ks).length = ks.length * 2 := by
  induction ks with
  | nil => rfl
  | cons x ks ih =>
    have e : kvL (x :: ks) = [.pointer (some ⟨x.s, 0, none⟩), .pointer (some ⟨x.r, 0, none⟩)] ++ kvL ks := rfl
    rw [e, List.length_append, ih, List.length_cons]
    simp
    omega
theorem kvL_set (ks : List PR) (c : PR) : ∀ (i : Nat) (h : i < ks.length), ((kvL ks).set (i * 2) (.pointer (some ⟨c.s, 0, none⟩))).set (i * 2 + 1) (.pointer (some ⟨c.r, 0, none⟩)) = kvL (ks.set i c) := by
  induction ks with
  | nil => intro i h; simp at h
  | cons x ks ih =>
    intro i h
    have e : kvL (x :: ks) = .pointer (some ⟨x.s, 0, none⟩) :: .pointer (some ⟨x.r, 0, none⟩) :: kvL ks := rfl
    cases i with
    | zero => rfl
    | succ i =>
      have h' := ih i (by simpa using h)
      rw [e, show (i + 1) * 2 = i * 2 + 1 + 1 by omega]
      simp only [List.set_cons_succ]
      rw [h']
      rfl
theorem KOwns.at {W : World} {n0 : Nat} {kv : Value} {ks : List PR} (h : KOwns W n0 kv ks) {i : Nat} (hi : i < ks.length) : ∃ g cp cur, kv = .slice (some ⟨g, 0, none⟩) ks.length cp ∧ W.heap[g]? = some (.cells cur 73 (0, 0)) ∧ W.cell? ⟨g, i * 2, none⟩ = some (.pointer (some ⟨ks[i].s, 0, none⟩)) ∧ W.cell? ⟨g, i * 2 + 1, none⟩ = some (.pointer (some ⟨ks[i].r, 0, none⟩)) := by
  rcases h.2 with ⟨_, h2⟩ | ⟨g, c, cur, rfl, h4, h5, h6, h7, h8, h9⟩
  · omega
  · obtain ⟨e1, e2⟩ := kvL_at ks i hi
    refine ⟨g, c, cur, rfl, h5, ?_, ?_⟩
    · rw [← e1, ← h9, List.getElem?_take_of_lt (by omega)]
      simp [World.cell?, h5]
    · rw [← e2, ← h9, List.getElem?_take_of_lt (by omega)]
      simp [World.cell?, h5]
/-- One of those that were laid aside is taken up, the other one in its place. -/
theorem PJ.swapN {w0 : World} {P g cp i : Nat} {c : PR} {ks : List PR} {W : World} (h : PJ w0 P c c.rows c.l ks (.slice (some ⟨g, 0, none⟩) ks.length cp) W) (hok : SpOk c.rows c.l) (hi : i < ks.length) :
    PJ w0 P ks[i] ks[i].rows ks[i].l (ks.set i c) (.slice (some ⟨g, 0, none⟩) ks.length cp) ((((W.setCell ⟨g, i * 2, none⟩ (.pointer (some ⟨c.s, 0, none⟩))).setCell ⟨g, i * 2 + 1, none⟩ (.pointer (some ⟨c.r, 0, none⟩))).setCell ⟨P, 0, none⟩ (.pointer (some ⟨ks[i].s, 0, none⟩))).setCell ⟨P, 1, none⟩ (.pointer (some ⟨ks[i].r, 0, none⟩))) ∧ SpOk ks[i].rows ks[i].l := by
  obtain ⟨g', cp', cur, e1, hg, _, _⟩ := h.kow.at hi
  obtain ⟨rfl, rfl⟩ : g = g' ∧ cp = cp' := by simp at e1; exact e1
  have hgP : g ≠ P := fun e => by
    rw [e] at hg
    have := hg.symm.trans h.box
    simp at this
  have hg0 : w0.heap.size ≤ g := (h.kow.type (k := g) rfl).1
  have hlo := h.lo
  have hgi := h.gi
  obtain ⟨Z, hZ⟩ : ∃ Z, Z = (((W.setCell ⟨g, i * 2, none⟩ (.pointer (some ⟨c.s, 0, none⟩))).setCell ⟨g, i * 2 + 1, none⟩ (.pointer (some ⟨c.r, 0, none⟩))).setCell ⟨P, 0, none⟩ (.pointer (some ⟨ks[i].s, 0, none⟩))).setCell ⟨P, 1, none⟩ (.pointer (some ⟨ks[i].r, 0, none⟩)) := ⟨_, rfl⟩
  have hkk : Kept (fun k => k ≠ g ∧ k ≠ P) W Z := by
    rw [hZ]
    refine ⟨rfl, rfl, rfl, by simp [World.setCell], fun k _ hk => ?_⟩
    rw [Below.heap_setCell _ _ _ _ hk.2, Below.heap_setCell _ _ _ _ hk.2, Below.heap_setCell _ _ _ _ hk.1, Below.heap_setCell _ _ _ _ hk.1]
  have hU : ∀ k cc t, W.heap[k]? = some (.cells cc t (0, 0)) → t ≠ 73 → t ≠ 35 → k ≠ g ∧ k ≠ P := fun k cc t e t1 t2 => by
    refine ⟨fun e1 => ?_, fun e1 => ?_⟩
    · rw [e1] at e
      have := hg.symm.trans e
      simp at this
      exact t1 this.2.symm
    · rw [e1] at e
      have := h.box.symm.trans e
      simp at this
      exact t2 this.2.symm
  have hw0 : ∀ k, k < w0.heap.size → k ≠ g ∧ k ≠ P := fun k hk => ⟨by omega, by omega⟩
  have hq := h.oth ks[i] (List.getElem_mem _)
  have hqz := hq.1.ty hkk hU
  have hcz := (h.first hok).ty hkk hU
  rw [← hZ]
  refine ⟨⟨?_, ?_, hqz.sp, hqz.rf, hq.2, fun p hp => ?_, ?_, ?_, h.below.trans (hkk.below h.below.size hw0), h.gi, h.lo⟩, hq.1.ok⟩
  · rw [hZ]
    have e3 : ((W.setCell ⟨g, i * 2, none⟩ (.pointer (some ⟨c.s, 0, none⟩))).setCell ⟨g, i * 2 + 1, none⟩ (.pointer (some ⟨c.r, 0, none⟩))).heap[P]? = some (.cells #[.pointer (some ⟨c.s, 0, none⟩), .pointer (some ⟨c.r, 0, none⟩), .slice (some ⟨g, 0, none⟩) ks.length cp] 35 (0, 0)) := by
      rw [Below.heap_setCell _ _ _ _ (fun e => hgP e.symm), Below.heap_setCell _ _ _ _ (fun e => hgP e.symm)]
      exact h.box
    rw [heap_put (heap_put e3 _) _]
    simp
  · refine ⟨by rw [kvL_length, List.length_set], ?_⟩
    rcases h.kow.2 with ⟨e, _⟩ | ⟨g2, c2, cur2, e, h4, h5, h6, h7, h8, h9⟩
    · simp at e
    · simp at e
      obtain ⟨rfl, rfl⟩ := e
      refine .inr ⟨g, cp, (cur2.setIfInBounds (i * 2) (.pointer (some ⟨c.s, 0, none⟩))).setIfInBounds (i * 2 + 1) (.pointer (some ⟨c.r, 0, none⟩)), by rw [List.length_set], h4, ?_, by rw [List.length_set]; exact h6, h7, by simpa using h8, ?_⟩
      · rw [hZ, Below.heap_setCell _ _ _ _ hgP, Below.heap_setCell _ _ _ _ hgP, heap_put (heap_put h5 _) _]
      · rw [Array.toList_setIfInBounds, Array.toList_setIfInBounds, List.take_set, List.take_set, List.length_set, h9]
        exact kvL_set ks c i hi
  · rcases List.mem_or_eq_of_mem_set hp with hp | rfl
    · exact ⟨(h.oth p hp).1.ty hkk hU, (h.oth p hp).2⟩
    · exact ⟨hcz, h.low⟩
  · have hperm : (c :: ks).Perm (ks[i] :: ks.set i c) := by
      have e2 : ks = ks.take i ++ ks[i] :: ks.drop (i + 1) := by rw [← List.drop_eq_getElem_cons hi, List.take_append_drop]
      have e3 : ks.set i c = ks.take i ++ c :: ks.drop (i + 1) := List.set_eq_take_append_cons_drop.trans (if_pos hi)
      rw [e3]
      refine (List.Perm.cons c (List.Perm.of_eq e2)).trans ?_
      refine ((List.perm_middle (a := ks[i]) (l₁ := ks.take i) (l₂ := ks.drop (i + 1))).cons c).trans ?_
      exact (List.Perm.swap _ _ _).trans ((List.perm_middle (a := c) (l₁ := ks.take i) (l₂ := ks.drop (i + 1))).symm.cons _)
    exact (List.Perm.pairwise_iff (fun {a b} hab k hk hk2 => hab k hk2 hk) hperm).1 h.dis
  · exact (World.cell?_of_block (w := W) (hkk.block 0 h.err.size (hw0 _ h.gi))).trans h.err
end Go.Proofs.YtcpdnalmoaojlaaDoor
