import Derived.Test.YtcpdnalmoaojlaaDoorHSp37

/-
  A space row by row, as the document's own answer has it.
-/
namespace Go.Proofs.YtcpdnalmoaojlaaDoor
set_option linter.unusedVariables false
set_option linter.unusedSimpArgs false

/-- A row. -/
structure RR where
  run : Int
  held : Bool
  n : Nat
  uses : Nat
  tag : Nat
  old : Bool
def free0 : RR := ⟨-1, false, 0, 0, 0, false⟩
def inP (q : Pc) (i : Nat) : RR :=
  if q.st = 2 then ⟨-1, true, 0, 0, 0, false⟩ else if i = q.at' then ⟨(q.at' : Int), false, q.n, q.count, q.tag, decide (q.st = 1)⟩ else ⟨(q.at' : Int), false, 0, 0, 0, false⟩
def refR : List Pc → Nat → RR
  | [], _ => free0
  | q :: l, i => if i < q.at' then free0 else if i < q.stop then inP q i else refR l i
def freeR (x : RR) : Prop := x.run < 0 ∧ x.held = false
theorem inP_nfree (q : Pc) (i : Nat) : ¬ freeR (inP q i) := by
  unfold inP freeR
  split
  · simp
  · split <;> simp <;> omega
theorem free0_free : freeR free0 := ⟨by decide, rfl⟩
theorem refR_lo {a b : Nat} {l : List Pc} (h : Fits a l b) {i : Nat} (hi : i < a) : refR l i = free0 := by
  cases l with
  | nil => rfl
  | cons p l => unfold refR; rw [if_pos (Nat.lt_of_lt_of_le hi h.1)]
theorem refR_hi {a b : Nat} {l : List Pc} (h : Fits a l b) {i : Nat} (hi : b ≤ i) : refR l i = free0 := by
  induction l generalizing a with
  | nil => rfl
  | cons p l ih =>
    have h1 := h.2.2.le
    have h2 := h.2.1
    have h3 : p.stop = p.at' + p.n := rfl
    unfold refR
    rw [if_neg (by omega), if_neg (by omega)]
    exact ih h.2.2
theorem refR_mid {a b : Nat} {m k : List Pc} {q : Pc} (h : Fits a (m ++ q :: k) b) (i : Nat) : refR (m ++ q :: k) i = if i < q.at' then refR m i else if i < q.stop then inP q i else refR k i := by
  induction m generalizing a with
  | nil => rfl
  | cons x m ih =>
    have h' : Fits x.stop (m ++ q :: k) b := h.2.2
    have h1 := (fits_cut.1 h').1.le
    have h2 := h.2.1
    have h3 : x.stop = x.at' + x.n := rfl
    have ih' := ih h'
    show (if i < x.at' then free0 else if i < x.stop then inP x i else refR (m ++ q :: k) i) = _
    by_cases c : i < q.at'
    · rw [if_pos c] at ih' ⊢
      rw [ih']
      rfl
    · rw [if_neg c] at ih' ⊢
      rw [if_neg (by omega), if_neg (by omega), ih']
theorem refR_gap {a b : Nat} {m k : List Pc} {q : Pc} (h : Fits a (m ++ q :: k) b) (i : Nat) : refR (m ++ k) i = if i < q.at' then refR m i else if i < q.stop then free0 else refR k i := by
  induction m generalizing a with
  | nil =>
    have h1 := h.2.2
    show refR k i = if i < q.at' then free0 else if i < q.stop then free0 else refR k i
    have h3 : q.stop = q.at' + q.n := rfl
    by_cases c : i < q.stop
    · rw [refR_lo h1 c]
      split <;> simp
    · rw [if_neg (by omega), if_neg c]
  | cons x m ih =>
    have h' : Fits x.stop (m ++ q :: k) b := h.2.2
    have h1 := (fits_cut.1 h').1.le
    have h2 := h.2.1
    have h3 : x.stop = x.at' + x.n := rfl
    have ih' := ih h'
    show (if i < x.at' then free0 else if i < x.stop then inP x i else refR (m ++ k) i) = _
    by_cases c : i < q.at'
    · rw [if_pos c] at ih' ⊢
      rw [ih']
      rfl
    · rw [if_neg c] at ih' ⊢
      rw [if_neg (by omega), if_neg (by omega), ih']
/-- The first rows that lie free one behind the other. -/
theorem gapL_spec {l : List Pc} {a b n : Nat} (hn : 1 ≤ n) (hf : Fits a l b) :
    (∀ g' : Nat, a ≤ g' → g' + n ≤ b → (gapL l n a b < 0 ∨ (g' : Int) < gapL l n a b) → ∃ i, g' ≤ i ∧ i < g' + n ∧ ¬ freeR (refR l i)) ∧ ∀ g : Nat, gapL l n a b = (g : Int) → ∀ i, g ≤ i → i < g + n → freeR (refR l i) := by
  induction l generalizing a with
  | nil =>
    refine ⟨fun g' h1 h2 h3 => ?_, fun g _ i _ _ => free0_free⟩
    simp only [gapL] at h3
    split at h3 <;> omega
  | cons p l ih =>
    obtain ⟨ih1, ih2⟩ := ih hf.2.2
    have h1 := hf.1
    have h2 := hf.2.1
    have h3 : p.stop = p.at' + p.n := rfl
    have hr : ∀ i, p.stop ≤ i → refR (p :: l) i = refR l i := fun i hi => by
      show (if i < p.at' then free0 else if i < p.stop then inP p i else refR l i) = _
      rw [if_neg (by omega), if_neg (by omega)]
    by_cases c : (n : Int) > (p.at' : Int) - (a : Int)
    · have e : gapL (p :: l) n a b = gapL l n p.stop b := by simp only [gapL]; rw [if_pos c]
      rw [e]
      refine ⟨fun g' k1 k2 k3 => ?_, fun g hg i k1 k2 => ?_⟩
      · by_cases d : p.stop ≤ g'
        · obtain ⟨i, q1, q2, q3⟩ := ih1 g' d k2 k3
          exact ⟨i, q1, q2, by rw [hr i (by omega)]; exact q3⟩
        · refine ⟨max g' p.at', by omega, by omega, ?_⟩
          have hm : refR (p :: l) (max g' p.at') = inP p (max g' p.at') := by
            show (if _ < p.at' then free0 else if _ < p.stop then inP p _ else refR l _) = _
            rw [if_neg (by omega), if_pos (by omega)]
          rw [hm]
          exact inP_nfree _ _
      · obtain ⟨m, k, g2, _, hg2, f1, f2⟩ := gapL_ok hn hf.2.2 (by rw [hg]; omega)
        have := f1.le
        have : g2 = g := by omega
        rw [hr i (by omega)]
        exact ih2 g hg i k1 k2
    · have e : gapL (p :: l) n a b = (a : Int) := by simp only [gapL]; rw [if_neg c]
      rw [e]
      refine ⟨fun g' k1 k2 k3 => by omega, fun g hg i k1 k2 => ?_⟩
      have : refR (p :: l) i = free0 := by
        show (if i < p.at' then free0 else if i < p.stop then inP p i else refR l i) = _
        rw [if_pos (by omega)]
      rw [this]
      exact free0_free
theorem gapL_neg {l : List Pc} {a b n : Nat} (h : gapL l n a b < 0) : gapL l n a b = -1 := by
  induction l generalizing a with
  | nil =>
    simp only [gapL] at h ⊢
    split at h
    · rw [if_pos (by assumption)]
    · omega
  | cons p l ih =>
    simp only [gapL] at h ⊢
    split at h
    · rw [if_pos (by assumption)]; exact ih h
    · omega
/-- Where a run begins. -/
theorem refR_at {a b : Nat} {l : List Pc} {q : Pc} (h : Fits a l b) (hq : q ∈ fil l) : refR l q.at' = ⟨(q.at' : Int), false, q.n, q.count, q.tag, decide (q.st = 1)⟩ := by
  obtain ⟨h1, h2⟩ := fil_mem hq
  obtain ⟨m, k, rfl⟩ := List.append_of_mem h1
  have h3 : q.stop = q.at' + q.n := rfl
  have h4 := (fits_cut.1 h).2.1
  rw [refR_mid h, if_neg (by omega), if_pos (by omega)]
  unfold inP
  rw [if_neg h2, if_pos rfl]
theorem begins_of {a b : Nat} {l : List Pc} (h : Fits a l b) {i : Nat} (hi : (refR l i).run = (i : Int)) : ∃ q ∈ fil l, q.at' = i := by
  induction l generalizing a with
  | nil =>
    have : (-1 : Int) = (i : Int) := hi
    omega
  | cons p l ih =>
    unfold refR at hi
    split at hi
    · have : (-1 : Int) = (i : Int) := hi
      omega
    · split at hi
      · unfold inP at hi
        split at hi
        · have : (-1 : Int) = (i : Int) := hi
          omega
        · rename_i hst
          refine ⟨p, List.mem_filter.2 ⟨List.mem_cons_self, by simp [isUsed, hst]⟩, ?_⟩
          split at hi <;> simp at hi <;> omega
      · obtain ⟨q, hq, e⟩ := ih h.2.2 hi
        exact ⟨q, List.mem_filter.2 ⟨List.mem_cons_of_mem _ (List.mem_filter.1 hq).1, (List.mem_filter.1 hq).2⟩, e⟩
/-- One piece is another one. -/
theorem refR_put {rows : Nat} {l : List Pc} {q q' : Pc} (h : SpOk rows l) (hq : q ∈ l) (h1 : q'.at' = q.at') (h2 : q'.n = q.n) (i : Nat) : refR (putL l q') i = if q.at' ≤ i ∧ i < q.stop then inP q' i else refR l i := by
  obtain ⟨m, k, rfl⟩ := List.append_of_mem hq
  have hf' : Fits 0 (m ++ q' :: k) rows := fits_put h.fits h1 h2
  have hs : q'.stop = q.stop := by unfold Pc.stop; rw [h1, h2]
  rw [putL_same h.fits h1, refR_mid hf', refR_mid h.fits, h1, hs]
  by_cases c : i < q.at'
  · rw [if_pos c, if_pos c, if_neg (by omega)]
  · rw [if_neg c, if_neg c]
    by_cases d : i < q.stop
    · rw [if_pos d, if_pos d, if_pos (by omega)]
    · rw [if_neg d, if_neg d, if_neg (by omega)]
theorem refR_out {rows : Nat} {l : List Pc} {q : Pc} (h : SpOk rows l) (hq : q ∈ l) (i : Nat) : refR (outL l q.at') i = if q.at' ≤ i ∧ i < q.stop then free0 else refR l i := by
  obtain ⟨m, k, rfl⟩ := List.append_of_mem hq
  rw [outL_mid h.fits, refR_gap h.fits, refR_mid h.fits]
  by_cases c : i < q.at'
  · rw [if_pos c, if_pos c, if_neg (by omega)]
  · rw [if_neg c, if_neg c]
    by_cases d : i < q.stop
    · rw [if_pos d, if_pos (by omega)]
    · rw [if_neg d, if_neg d, if_neg (by omega)]
theorem refR_take {rows n tag g : Nat} {l : List Pc} (h : SpOk rows l) (hn : 1 ≤ n) (hg : gapL l n 0 rows = (g : Int)) (i : Nat) : refR (putL l ⟨g, n, 1, tag, 0⟩) i = if g ≤ i ∧ i < g + n then inP ⟨g, n, 1, tag, 0⟩ i else refR l i := by
  obtain ⟨m, k, g', rfl, hg', f1, f2⟩ := gapL_ok hn h.fits (by omega)
  obtain rfl : g' = g := by omega
  have e : putL (m ++ k) ⟨g', n, 1, tag, 0⟩ = m ++ ⟨g', n, 1, tag, 0⟩ :: k := putL_new (a := 0) (b := rows) f1 f2 hn
  have hf : Fits 0 (m ++ ⟨g', n, 1, tag, 0⟩ :: k) rows := fits_cut.2 ⟨f1, hn, f2⟩
  rw [e, refR_mid hf, refR_gap hf]
  show (if i < g' then refR m i else if i < g' + n then inP _ i else refR k i) = if g' ≤ i ∧ i < g' + n then inP _ i else if i < g' then refR m i else if i < g' + n then free0 else refR k i
  by_cases c : i < g'
  · rw [if_pos c, if_pos c, if_neg (by omega)]
  · rw [if_neg c, if_neg c]
    by_cases d : i < g' + n
    · rw [if_pos d, if_pos (by omega)]
    · rw [if_neg d, if_neg d, if_neg (by omega)]
/-- Turn, row by row. -/
theorem refR_turn {a b : Nat} {l : List Pc} (h : Fits a l b) (i : Nat) : refR (turnL l) i = { refR l i with held := false, old := decide ((refR l i).run = (i : Int)) } := by
  induction l generalizing a with
  | nil =>
    show free0 = { free0 with held := false, old := decide (free0.run = (i : Int)) }
    have : ¬ free0.run = (i : Int) := by show ¬ (-1 : Int) = _; omega
    rw [decide_eq_false this]
    rfl
  | cons p l ih =>
    have ih' := ih h.2.2
    have hlow : i < p.stop → refR (turnL l) i = free0 := fun hi => by
      have hf : Fits p.stop (turnL l) b := fits_keep (fits_filt _ h.2.2)
      exact refR_lo hf hi
    have h3 : p.stop = p.at' + p.n := rfl
    have h4 := h.2.1
    have hfr : ¬ free0.run = (i : Int) := by show ¬ (-1 : Int) = _; omega
    have e : refR (p :: l) i = if i < p.at' then free0 else if i < p.stop then inP p i else refR l i := rfl
    by_cases hu : isUsed p = true
    · have e2 : turnL (p :: l) = p.keep :: turnL l := by unfold turnL fil; rw [List.filter_cons_of_pos hu]; rfl
      have e3 : refR (turnL (p :: l)) i = if i < p.at' then free0 else if i < p.stop then inP p.keep i else refR (turnL l) i := by rw [e2]; rfl
      rw [e3, e]
      have hst : p.st ≠ 2 := by simpa [isUsed] using hu
      by_cases c : i < p.at'
      · rw [if_pos c, if_pos c, decide_eq_false hfr]; rfl
      · rw [if_neg c, if_neg c]
        by_cases d : i < p.stop
        · rw [if_pos d, if_pos d]
          unfold inP
          rw [if_neg (show ¬ p.keep.st = 2 by show ¬ (1 = 2); omega), if_neg hst]
          show (if i = p.at' then _ else _) = _
          by_cases f : i = p.at'
          · rw [if_pos f, if_pos f, f]; simp [Pc.keep]
          · rw [if_neg f, if_neg f]
            have : ¬ (p.at' : Int) = (i : Int) := by omega
            simp [Pc.keep, this]
        · rw [if_neg d, if_neg d]; exact ih'
    · have e2 : turnL (p :: l) = turnL l := by unfold turnL fil; rw [List.filter_cons_of_neg hu]
      rw [e2, e]
      have hst : p.st = 2 := by simpa [isUsed] using hu
      by_cases c : i < p.at'
      · rw [if_pos c, hlow (by omega), decide_eq_false hfr]; rfl
      · rw [if_neg c]
        by_cases d : i < p.stop
        · rw [if_pos d, hlow d]
          unfold inP
          rw [if_pos hst]
          have : ¬ (-1 : Int) = (i : Int) := by omega
          simp [free0, this]
        · rw [if_neg d]; exact ih'
/-- How many of the first rows are so. -/
def cntR (P : RR → Bool) (f : Nat → RR) : Nat → Nat
  | 0 => 0
  | k + 1 => cntR P f k + if P (f k) then 1 else 0
theorem cntR_le (P : RR → Bool) (f : Nat → RR) (k : Nat) : cntR P f k ≤ k := by
  induction k with
  | zero => exact Nat.le_refl _
  | succ k ih => unfold cntR; split <;> omega
theorem cntR_two (P Q : RR → Bool) (hPQ : ∀ x, P x = true → Q x = false) (f : Nat → RR) (k : Nat) : cntR P f k + cntR Q f k ≤ k := by
  induction k with
  | zero => exact Nat.le_refl _
  | succ k ih =>
    unfold cntR
    by_cases c : P (f k) = true
    · rw [hPQ _ c, c]; simp; omega
    · have c' : P (f k) = false := by simpa using c
      rw [c']
      cases Q (f k) <;> simp <;> omega
theorem cntR_part (P : RR → Bool) (f g : Nat → RR) (s e : Nat) (c : Bool) (h1 : ∀ i, i < s ∨ e ≤ i → f i = g i) (h2 : ∀ i, s ≤ i → i < e → P (f i) = c ∧ P (g i) = false) (k : Nat) : cntR P f k = cntR P g k + if c then min k e - min k s else 0 := by
  induction k with
  | zero => simp [cntR]
  | succ k ih =>
    unfold cntR
    rw [ih]
    by_cases d : s ≤ k ∧ k < e
    · obtain ⟨q1, q2⟩ := h2 k d.1 d.2
      rw [q1, q2]
      cases c <;> simp <;> omega
    · rw [h1 k (by omega)]
      cases c <;> simp <;> omega
theorem cntR_rows (P : RR → Bool) (F : Pc → Bool) (h0 : P free0 = false) (hP : ∀ q i, P (inP q i) = F q) {a b : Nat} {l : List Pc} (h : Fits a l b) : cntR P (refR l) b = rowsL F l := by
  induction l generalizing a with
  | nil =>
    have : ∀ k, cntR P (refR []) k = 0 := fun k => by
      induction k with
      | zero => rfl
      | succ k ih => unfold cntR; rw [ih]; simp [refR, h0]
    rw [this]; rfl
  | cons p l ih =>
    have h3 : p.stop = p.at' + p.n := rfl
    have h4 := h.2.1
    have h5 := h.2.2.le
    have e : ∀ i, refR (p :: l) i = if i < p.at' then free0 else if i < p.stop then inP p i else refR l i := fun i => rfl
    rw [cntR_part P (refR (p :: l)) (refR l) p.at' p.stop (F p) ?_ ?_ b, ih h.2.2]
    · show rowsL F l + _ = (if F p then p.n else 0) + rowsL F l
      cases F p <;> simp <;> omega
    · intro i hi
      rw [e]
      rcases hi with hi | hi
      · rw [if_pos hi, refR_lo h.2.2 (by omega)]
      · rw [if_neg (by omega), if_neg (by omega)]
    · intro i k1 k2
      rw [e, if_neg (by omega), if_pos k2, refR_lo h.2.2 k2]
      exact ⟨hP p i, h0⟩
def usedR (x : RR) : Bool := decide (0 ≤ x.run)
def heldR (x : RR) : Bool := !decide (0 ≤ x.run) && x.held
theorem count_used {rows : Nat} {l : List Pc} (h : Fits 0 l rows) : cntR usedR (refR l) rows = rowsL isUsed l :=
  cntR_rows usedR isUsed (by decide) (fun q i => by
    unfold usedR inP isUsed
    by_cases c : q.st = 2
    · rw [if_pos c, c]; decide
    · rw [if_neg c]
      have : (q.st != 2) = true := by simp [c]
      rw [this]
      split <;> exact decide_eq_true (by show (0 : Int) ≤ (q.at' : Int); omega)) h
theorem count_held {rows : Nat} {l : List Pc} (h : Fits 0 l rows) : cntR heldR (refR l) rows = rowsL isHeld l :=
  cntR_rows heldR isHeld (by decide) (fun q i => by
    unfold heldR inP isHeld
    by_cases c : q.st = 2
    · rw [if_pos c, c]; decide
    · rw [if_neg c]
      have : (q.st == 2) = false := by simp [c]
      rw [this]
      split <;> simp) h
/-- The runs that begin ahead of a row. -/
def runsTo (l : List Pc) (k : Nat) : List Pc := (fil l).filter (fun q => decide (q.at' < k))
theorem runsTo_zero (l : List Pc) : runsTo l 0 = [] := by
  unfold runsTo
  rw [List.filter_eq_nil_iff]
  intro q _
  simp
theorem runsTo_all {a rows : Nat} {l : List Pc} (h : Fits a l rows) : runsTo l rows = fil l := by
  unfold runsTo
  rw [List.filter_eq_self]
  intro q hq
  obtain ⟨_, h2, h3⟩ := fits_mem h q (fil_mem hq).1
  have h4 : q.stop = q.at' + q.n := rfl
  exact decide_eq_true (by omega)
theorem runsTo_le (l : List Pc) (k : Nat) : (runsTo l k).length ≤ (fil l).length := List.length_filter_le _ _
theorem runsTo_skip {a b : Nat} {l : List Pc} {k : Nat} (h : ∀ q ∈ fil l, q.at' ≠ k) : runsTo l (k + 1) = runsTo l k := by
  unfold runsTo
  apply List.filter_congr
  intro q hq
  have := h q hq
  by_cases c : q.at' < k
  · rw [decide_eq_true c, decide_eq_true (by omega)]
  · rw [decide_eq_false c, decide_eq_false (by omega)]
theorem runsTo_cut {a b : Nat} {l : List Pc} (h : Fits a l b) (m r : List Pc) (q : Pc) (e : l = m ++ q :: r) (k : Nat) : l.filter (fun x => decide (x.at' < k)) = if k ≤ q.at' then m.filter (fun x => decide (x.at' < k)) else m ++ q :: r.filter (fun x => decide (x.at' < k)) := by
  subst e
  have hl := fits_lt h
  rw [List.filter_append]
  by_cases c : k ≤ q.at'
  · rw [if_pos c, List.filter_cons_of_neg (by simp; omega)]
    have : r.filter (fun x => decide (x.at' < k)) = [] := by
      rw [List.filter_eq_nil_iff]
      intro x hx
      have := hl.2 x hx
      simp; omega
    rw [this, List.append_nil]
  · rw [if_neg c, List.filter_cons_of_pos (by simp; omega)]
    have : m.filter (fun x => decide (x.at' < k)) = m := by
      rw [List.filter_eq_self]
      intro x hx
      have := hl.1 x hx
      exact decide_eq_true (by omega)
    rw [this]
theorem runsTo_next {a b : Nat} {l : List Pc} (h : Fits a l b) {q : Pc} (hq : q ∈ fil l) : runsTo l (q.at' + 1) = runsTo l q.at' ++ [q] := by
  have hf : Fits a (fil l) b := fits_filt _ h
  obtain ⟨m, r, e⟩ := List.append_of_mem hq
  unfold runsTo
  rw [runsTo_cut hf m r q e, runsTo_cut hf m r q e, if_neg (by omega), if_pos (Nat.le_refl _)]
  rw [e] at hf
  have hl := fits_lt hf
  have e1 : r.filter (fun x => decide (x.at' < q.at' + 1)) = [] := by
    rw [List.filter_eq_nil_iff]
    intro x hx
    have := hl.2 x hx
    simp; omega
  have e2 : m.filter (fun x => decide (x.at' < q.at')) = m := by
    rw [List.filter_eq_self]
    intro x hx
    have := hl.1 x hx
    exact decide_eq_true (by omega)
  rw [e1, e2]
end Go.Proofs.YtcpdnalmoaojlaaDoor

/-
  The document's rows in memory.
-/
namespace Go.Proofs.YtcpdnalmoaojlaaDoor
open Go.RowKit Go.Shelf
set_option linter.unusedVariables false
set_option linter.unusedSimpArgs false

def rrv (x : RR) : List Value := [.int .i64 x.run, .bool x.held, .int .i64 (x.n : Int), .int .i64 (x.uses : Int), .int .u64 (x.tag : Int), .bool x.old]
def rowsV (rows : Nat) (f : Nat → RR) : List Value := (List.range rows).flatMap (fun i => rrv (f i))
theorem flat6_length {α : Type} (F : α → List Value) (hF : ∀ a, (F a).length = 6) (L : List α) : (L.flatMap F).length = L.length * 6 := by
  induction L with
  | nil => rfl
  | cons x L ih => rw [List.flatMap_cons, List.length_append, ih, hF, List.length_cons]; omega
theorem flat6_at {α : Type} (F : α → List Value) (hF : ∀ a, (F a).length = 6) (L : List α) : ∀ (i j : Nat) (h : i < L.length) (hj : j < 6), (L.flatMap F)[i * 6 + j]? = (F L[i])[j]? := by
  induction L with
  | nil => intro i j h; simp at h
  | cons x L ih =>
    intro i j h hj
    rw [List.flatMap_cons]
    have h6 := hF x
    cases i with
    | zero =>
      rw [Nat.zero_mul, Nat.zero_add, List.getElem?_append_left (by omega)]
      simp
    | succ i =>
      rw [List.getElem?_append_right (by omega), h6, show (i + 1) * 6 + j - 6 = i * 6 + j from by omega]
      have := ih i j (by simpa using h) hj
      simpa using this
theorem rowsV_length (rows : Nat) (f : Nat → RR) : (rowsV rows f).length = rows * 6 := by
  unfold rowsV
  rw [flat6_length _ (fun _ => rfl), List.length_range]
theorem rowsV_at (rows : Nat) (f : Nat → RR) (i j : Nat) (hi : i < rows) (hj : j < 6) : (rowsV rows f)[i * 6 + j]? = (rrv (f i))[j]? := by
  unfold rowsV
  have := flat6_at (fun i => rrv (f i)) (fun _ => rfl) (List.range rows) i j (by simpa using hi) hj
  simpa using this
theorem rowsV_succ (rows : Nat) (f : Nat → RR) : rowsV (rows + 1) f = rowsV rows f ++ rrv (f rows) := by
  unfold rowsV
  rw [List.range_succ, List.flatMap_append]
  simp
theorem rowsV_congr {rows : Nat} {f g : Nat → RR} (h : ∀ i, i < rows → f i = g i) : rowsV rows f = rowsV rows g := by
  induction rows with
  | zero => rfl
  | succ k ih => rw [rowsV_succ, rowsV_succ, ih (fun i hi => h i (by omega)), h k (by omega)]
def upd (f : Nat → RR) (i : Nat) (x : RR) : Nat → RR := fun k => if k = i then x else f k
theorem rowsV_upd {rows : Nat} {f : Nat → RR} {i j : Nat} {u : Value} {x : RR} (hi : i < rows) (hj : j < 6) (hx : rrv x = (rrv (f i)).set j u) : (rowsV rows f).set (i * 6 + j) u = rowsV rows (upd f i x) := by
  apply List.ext_getElem?
  intro k
  by_cases hk : k < rows * 6
  · obtain ⟨a, b, rfl, hb⟩ : ∃ a b, k = a * 6 + b ∧ b < 6 := ⟨k / 6, k % 6, by omega, by omega⟩
    have ha : a < rows := by omega
    rw [List.getElem?_set, rowsV_at _ _ _ _ ha hb, rowsV_at _ _ _ _ ha hb, rowsV_length]
    unfold upd
    by_cases e : a = i
    · subst e
      rw [if_pos rfl, hx, List.getElem?_set]
      by_cases e2 : j = b
      · subst e2
        rw [if_pos rfl, if_pos (by omega), if_pos rfl, if_pos (show j < (rrv (f a)).length from hb)]
      · rw [if_neg (by omega), if_neg e2]
    · rw [if_neg (by omega), if_neg e]
  · rw [List.getElem?_eq_none (by rw [List.length_set, rowsV_length]; omega), List.getElem?_eq_none (by rw [rowsV_length]; omega)]
def QOwns (w : World) (v : Value) (rows : Nat) (f : Nat → RR) : Prop := w.ownsRow 0 89 6 v rows (rowsV rows f)
theorem QOwns.congr {w : World} {v : Value} {rows : Nat} {f g : Nat → RR} (h : QOwns w v rows f) (hfg : ∀ i, i < rows → f i = g i) : QOwns w v rows g := by
  unfold QOwns at h ⊢
  rw [← rowsV_congr hfg]
  exact h
/-- A row in memory. -/
def RRAt (w : World) (b o : Nat) (x : RR) : Prop := w.cell? ⟨b, o, none⟩ = some (.int .i64 x.run) ∧ w.cell? ⟨b, o + 1, none⟩ = some (.bool x.held) ∧ w.cell? ⟨b, o + 2, none⟩ = some (.int .i64 (x.n : Int)) ∧ w.cell? ⟨b, o + 3, none⟩ = some (.int .i64 (x.uses : Int)) ∧ w.cell? ⟨b, o + 4, none⟩ = some (.int .u64 (x.tag : Int)) ∧ w.cell? ⟨b, o + 5, none⟩ = some (.bool x.old)
theorem QOwns.at {w : World} {v : Value} {rows : Nat} {f : Nat → RR} (h : QOwns w v rows f) (hr : 0 < rows) : ∃ g cp cur, v = .slice (some ⟨g, 0, none⟩) rows cp ∧ w.heap[g]? = some (.cells cur 89 (0, 0)) ∧ rows ≤ cp ∧ ∀ i, i < rows → RRAt w g (i * 6) (f i) := by
  rcases h.2 with ⟨_, h2⟩ | ⟨g, c, cur, rfl, h4, h5, h6, h7, h8, h9⟩
  · omega
  · refine ⟨g, c, cur, rfl, h5, h6, fun i hi => ?_⟩
    have key : ∀ j, j < 6 → w.cell? ⟨g, i * 6 + j, none⟩ = (rrv (f i))[j]? := fun j hj => by
      rw [← rowsV_at rows f i j hi hj, ← h9]
      simp only [World.cell?, h5]
      rw [List.getElem?_take_of_lt (by omega)]
      simp
    exact ⟨by simpa [rrv] using key 0 (by omega), by simpa [rrv] using key 1 (by omega), by simpa [rrv] using key 2 (by omega), by simpa [rrv] using key 3 (by omega), by simpa [rrv] using key 4 (by omega), by simpa [rrv] using key 5 (by omega)⟩
theorem QOwns.form {w : World} {v : Value} {rows : Nat} {f : Nat → RR} (h : QOwns w v rows f) : ∃ ao cp, v = .slice ao rows cp := by
  rcases h.2 with ⟨rfl, h2⟩ | ⟨g, c, cur, rfl, _⟩
  · exact ⟨none, 0, by rw [h2]⟩
  · exact ⟨_, _, rfl⟩
theorem QOwns.put {w : World} {v : Value} {rows : Nat} {f : Nat → RR} {g i j o : Nat} {u : Value} {x : RR} (h : QOwns w v rows f) (hv : own v g) (hi : i < rows) (hj : j < 6) (ho : o = i * 6 + j) (hx : rrv x = (rrv (f i)).set j u) : QOwns (w.setCell ⟨g, o, none⟩ u) v rows (upd f i x) := by
  subst ho
  refine ⟨rowsV_length _ _, ?_⟩
  rcases h.2 with ⟨_, h2⟩ | ⟨g', c, cur, rfl, h4, h5, h6, h7, h8, h9⟩
  · omega
  · have e : g' = g := by simpa [own, Value.ownBlock] using hv
    subst e
    refine .inr ⟨g', c, cur.setIfInBounds (i * 6 + j) u, rfl, h4, heap_put h5 u, h6, h7, by simpa using h8, ?_⟩
    rw [Array.toList_setIfInBounds, List.take_set, h9]
    exact rowsV_upd hi hj hx
theorem QOwns.kept {U : Nat → Prop} {w w' : World} {v : Value} {rows : Nat} {f : Nat → RR} (h : QOwns w v rows f) (hk : Kept U w w') (hu : ∀ k, own v k → U k) : QOwns w' v rows f := by
  refine ⟨h.1, ?_⟩
  rcases h.2 with h2 | ⟨g, c, cur, rfl, h4, h5, h6⟩
  · exact .inl h2
  · exact .inr ⟨g, c, cur, rfl, h4, (hk.block g (Array.getElem?_eq_some_iff.1 h5).1 (hu g rfl)).trans h5, h6⟩
theorem QOwns.below {w w' : World} {v : Value} {rows : Nat} {f : Nat → RR} (h : QOwns w v rows f) (hk : Below w.heap.size w w') : QOwns w' v rows f := h.kept (U := fun _ => True) (Kept.of_below hk) (fun _ _ => trivial)
/-- The document's space in memory. -/
structure RfAt (w : World) (r : Nat) (v : Value) (rows : Nat) (f : Nat → RR) : Prop where
  head : w.heap[r]? = some (.cells #[v] 67 (0, 0))
  rows : QOwns w v rows f
theorem RfAt.lt {w : World} {r rows : Nat} {v : Value} {f : Nat → RR} (h : RfAt w r v rows f) : r < w.heap.size := (Array.getElem?_eq_some_iff.1 h.head).1
theorem RfAt.cell {w : World} {r rows : Nat} {v : Value} {f : Nat → RR} (h : RfAt w r v rows f) : w.cell? ⟨r, 0, none⟩ = some v := by simp [World.cell?, h.head]
theorem RfAt.ne {w : World} {r rows : Nat} {v : Value} {f : Nat → RR} (h : RfAt w r v rows f) {k : Nat} (hk : own v k) : k ≠ r := by
  rintro rfl
  rcases h.rows.2 with ⟨h1, _⟩ | ⟨g, c, cur, h1, h4, h5, _⟩
  · rw [h1] at hk; simp [own, Value.ownBlock] at hk
  · rw [h1] at hk
    have e : g = k := by simpa [own, Value.ownBlock] using hk
    subst e
    have := h5.symm.trans h.head
    simp at this
theorem RfAt.ownlt {w : World} {r rows : Nat} {v : Value} {f : Nat → RR} (h : RfAt w r v rows f) {k : Nat} (hk : own v k) : k < w.heap.size := owns_lt h.rows k hk
theorem RfAt.kept {U : Nat → Prop} {w w' : World} {r rows : Nat} {v : Value} {f : Nat → RR} (h : RfAt w r v rows f) (hk : Kept U w w') (hr : U r) (hu : ∀ k, own v k → U k) : RfAt w' r v rows f :=
  ⟨(hk.block r h.lt hr).trans h.head, h.rows.kept hk hu⟩
theorem RfAt.below {w w' : World} {r rows : Nat} {v : Value} {f : Nat → RR} (h : RfAt w r v rows f) (hk : Below w.heap.size w w') : RfAt w' r v rows f := h.kept (U := fun _ => True) (Kept.of_below hk) trivial (fun _ _ => trivial)
theorem RfAt.congr {w : World} {r rows : Nat} {v : Value} {f g : Nat → RR} (h : RfAt w r v rows f) (hfg : ∀ i, i < rows → f i = g i) : RfAt w r v rows g := ⟨h.head, h.rows.congr hfg⟩
theorem RfAt.put {w : World} {r rows : Nat} {v : Value} {f : Nat → RR} {g i j o : Nat} {u : Value} {x : RR} (h : RfAt w r v rows f) (hv : own v g) (hi : i < rows) (hj : j < 6) (ho : o = i * 6 + j) (hx : rrv x = (rrv (f i)).set j u) : RfAt (w.setCell ⟨g, o, none⟩ u) r v rows (upd f i x) :=
  ⟨(Below.heap_setCell _ _ _ _ (fun e => h.ne hv e.symm)).trans h.head, h.rows.put hv hi hj ho hx⟩
theorem Kept.setOwn {w0 w : World} {v : Value} {g o : Nat} {u : Value} (h : Kept (fun k => ¬ own v k) w0 w) (hv : own v g) : Kept (fun k => ¬ own v k) w0 (w.setCell ⟨g, o, none⟩ u) :=
  h.trans ⟨rfl, rfl, rfl, by simp [World.setCell], fun k _ hk => Below.heap_setCell _ _ _ _ (fun e => hk (e ▸ hv))⟩
theorem upd_upd (f : Nat → RR) (i : Nat) (x y : RR) : upd (upd f i x) i y = upd f i y := by
  funext k
  unfold upd
  split <;> rfl
theorem upd_at (f : Nat → RR) (i : Nat) (x : RR) : upd f i x i = x := by unfold upd; rw [if_pos rfl]
/-- A whole row is written. -/
theorem RfAt.row {w : World} {r rows : Nat} {v : Value} {f : Nat → RR} {g i : Nat} (x : RR) (h : RfAt w r v rows f) (hv : own v g) (hi : i < rows) :
    RfAt ((((((w.setCell ⟨g, i * 6, none⟩ (.int .i64 x.run)).setCell ⟨g, i * 6 + 1, none⟩ (.bool x.held)).setCell ⟨g, i * 6 + 2, none⟩ (.int .i64 (x.n : Int))).setCell ⟨g, i * 6 + 3, none⟩ (.int .i64 (x.uses : Int))).setCell ⟨g, i * 6 + 4, none⟩ (.int .u64 (x.tag : Int))).setCell ⟨g, i * 6 + 5, none⟩ (.bool x.old)) r v rows (upd f i x) := by
  have h0 := h.put (x := { f i with run := x.run }) hv hi (j := 0) (by omega) rfl rfl
  have h1 := h0.put (x := { f i with run := x.run, held := x.held }) hv hi (j := 1) (by omega) rfl (by rw [upd_at]; rfl)
  have h2 := h1.put (x := { f i with run := x.run, held := x.held, n := x.n }) hv hi (j := 2) (by omega) rfl (by rw [upd_at]; rfl)
  have h3 := h2.put (x := { f i with run := x.run, held := x.held, n := x.n, uses := x.uses }) hv hi (j := 3) (by omega) rfl (by rw [upd_at]; rfl)
  have h4 := h3.put (x := { f i with run := x.run, held := x.held, n := x.n, uses := x.uses, tag := x.tag }) hv hi (j := 4) (by omega) rfl (by rw [upd_at]; rfl)
  have h5 := h4.put (x := x) hv hi (j := 5) (by omega) rfl (by rw [upd_at]; rfl)
  rw [upd_upd, upd_upd, upd_upd, upd_upd, upd_upd] at h5
  exact h5
end Go.Proofs.YtcpdnalmoaojlaaDoor
