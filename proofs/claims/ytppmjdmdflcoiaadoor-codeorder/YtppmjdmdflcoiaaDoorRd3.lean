/-
  code.Parts and plain.CodeParts: the walks.
-/
import Derived.Test.YtppmjdmdflcoiaaDoorRd2
namespace Go.Proofs.YtppmjdmdflcoiaaDoor
open Go.ChangeShapes Go.WideShapes Go.ChangeAt Go.RowKit
set_option linter.unusedVariables false

theorem Tryd.infoPart : (Tryd.prog.info? 54).map (fun i => (i.zero, i.size, i.bytes)) = some (some (.agg #[.int .i64 0, .int .u64 0, .string ByteArray.empty]), 3, 32) := by kernel_rfl
def partCells (p : PartD) : List Value := [.int .i64 p.kind, .int .u64 (p.num : Int), .string (str p.text)]
theorem partCells_length (ps : List PartD) : (ps.flatMap partCells).length = ps.length * 3 := by
  induction ps with
  | nil => rfl
  | cons p ps ih => simp only [List.flatMap_cons, List.length_append, ih, List.length_cons, partCells, List.length_nil]; omega
/-- A slice of parts that the call has made. -/
def POwns (w : World) (base : Nat) (v : Value) (ps : List PartD) : Prop := w.ownsRow base 54 3 v ps.length (ps.flatMap partCells)
theorem pOwns_nil (w : World) (base : Nat) : POwns w base (.slice none 0 0) [] := World.ownsRow_nil _ _ _ _
theorem POwns.block {w : World} {base : Nat} {v : Value} {ps : List PartD} (h : POwns w base v ps) : ∀ k, v.ownBlock = some k → base ≤ k := by
  intro k hk
  obtain ⟨_, h2⟩ := h
  rcases h2 with ⟨rfl, _⟩ | ⟨g, c, cur, rfl, hg, _⟩
  · simp [Value.ownBlock] at hk
  · simp [Value.ownBlock] at hk; omega
theorem POwns.below {w w' : World} {base : Nat} {v : Value} {ps : List PartD} (h : POwns w base v ps) (hb : Below w.heap.size w w') : POwns w' base v ps := by
  refine ⟨h.1, ?_⟩
  rcases h.2 with hn | ⟨g, c, cur, h3, h4, h5, h6⟩
  · exact .inl hn
  · exact .inr ⟨g, c, cur, h3, h4, by rw [hb.block g (Array.getElem?_eq_some_iff.1 h5).1]; exact h5, h6⟩
theorem POwns.shape {w : World} {base : Nat} {v : Value} {ps : List PartD} (h : POwns w base v ps) : ∃ ao cp, v = .slice ao ps.length cp := by
  rcases h.2 with ⟨rfl, hn⟩ | ⟨g, c, cur, h3, _⟩
  · exact ⟨none, 0, by rw [hn]⟩
  · exact ⟨_, _, h3⟩
theorem flat_cells (ps : List PartD) (i : Nat) (hi : i < ps.length) : (ps.flatMap partCells)[i * 3]? = some (.int .i64 ps[i].kind) ∧ (ps.flatMap partCells)[i * 3 + 1]? = some (.int .u64 (ps[i].num : Int)) ∧ (ps.flatMap partCells)[i * 3 + 2]? = some (.string (str ps[i].text)) := by
  induction ps generalizing i with
  | nil => simp at hi
  | cons p ps ih =>
    cases i with
    | zero => simp [partCells]
    | succ i =>
      have h := ih i (by simpa using hi)
      have hl : (partCells p).length = 3 := rfl
      simp only [List.flatMap_cons, List.getElem_cons_succ]
      rw [List.getElem?_append_right (by omega), List.getElem?_append_right (by omega), List.getElem?_append_right (by omega)]
      rw [show (i + 1) * 3 - (partCells p).length = i * 3 by omega, show (i + 1) * 3 + 1 - (partCells p).length = i * 3 + 1 by omega, show (i + 1) * 3 + 2 - (partCells p).length = i * 3 + 2 by omega]
      exact h
theorem POwns.slice {w : World} {base : Nat} {v : Value} {ps : List PartD} (h : POwns w base v ps) : PSlice w v ps := by
  rcases h.2 with ⟨rfl, hn⟩ | ⟨g, c, cur, rfl, h4, h5, h6, h7, h8, h9⟩
  · exact .inr ⟨none, 0, rfl, fun _ => rfl, List.eq_nil_of_length_eq_zero hn⟩
  · refine .inl ⟨g, 0, c, rfl, (Array.getElem?_eq_some_iff.1 h5).1, ?_⟩
    intro i hi
    have hf := flat_cells ps i hi
    rw [← h9] at hf
    rw [List.getElem?_take_of_lt (by omega), List.getElem?_take_of_lt (by omega), List.getElem?_take_of_lt (by omega)] at hf
    simp only [Array.getElem?_toList] at hf
    simp [World.cell?, h5, hf.1, hf.2.1, hf.2.2]

/-- 'append(out, p)' as a law. -/
theorem wpList_addP {w : World} {ops : Array Oper} {rest : List Oper} {o : Oper} {a : Act} {Q : Exit → Act → World → Prop} (hgd : o.guard = none) (s x : Operand)
    (ho : o.op = .call { callee := .builtin .append, args := #[s, x], argTypes := #[30, 30] }) (base : Nat) (v : Value) (ps : List PartD) (hs : a.eval s = v) (hown : POwns w base v ps)
    (b m c : Nat) (news : List PartD) (hx : a.eval x = .slice (some ⟨b, 0, none⟩) m c) (hm : news.length = m) (hnews : ∀ j u, (news.flatMap partCells)[j]? = some u → w.cell? ⟨b, j, none⟩ = some u) (hb : (ps.length + news.length) * 32 ≤ 140737488355328) (hbase : base ≤ w.heap.size)
    (h : ∀ v' w', POwns w' base v' (ps ++ news) → Below base w w' → (v' = .slice none 0 0 ↔ v = .slice none 0 0 ∧ m = 0) → wpList Tryd.prog ops Q rest (a.put o.dst v') w') : wpList Tryd.prog ops Q (o :: rest) a w := by
  obtain ⟨i0, hi, hz0, hz1, hz2⟩ := info_parts Tryd.infoPart
  refine wpList_append_own w hgd s x 30 ho base 54 i0 _ 3 32 Tryd.underlying30 hi hz0 hz1 hz2 rfl (by decide) v ps.length (ps.flatMap partCells) hs hown ⟨b, 0, none⟩ m c (news.flatMap partCells) hx (by rw [partCells_length, hm]) ?_ ?_ (by unfold maxLen; omega) (by omega) hbase ?_
  · intro j u hj
    rw [add_at, Nat.zero_add]; exact hnews j u hj
  · intro u hu
    simp only [List.mem_flatMap] at hu
    obtain ⟨p, _, hu⟩ := hu
    simp only [partCells, List.mem_cons, List.not_mem_nil, or_false] at hu
    rcases hu with rfl | rfl | rfl <;> rfl
  · intro v' w' h1 h2 h3
    refine h v' w' ?_ ((Below.refl base w).grown h2 hbase hown.block) h3
    unfold POwns
    rw [List.length_append, List.flatMap_append, hm]
    exact h1
theorem one_part (w : World) (p : PartD) (b : Nat) (hb : b = w.heap.size) : ∀ j u, ([p].flatMap partCells)[j]? = some u → (w.alloc (.cells #[.int .i64 p.kind, .int .u64 (p.num : Int), .string (str p.text)] 54)).cell? ⟨b, j, none⟩ = some u := by
  intro j u hj
  subst hb
  match j, hj with
  | 0, hj => simp [partCells] at hj; subst hj; simp
  | 1, hj => simp [partCells] at hj; subst hj; simp
  | 2, hj => simp [partCells] at hj; subst hj; simp
  | j + 3, hj => simp [partCells] at hj

def lenOfV : Value → Nat | .slice _ n _ => n | _ => 0
/-- What Parts leaves. -/
def PartsPost (b : List UInt8) (w : World) (e : Ending) (w' : World) : Prop :=
  Below w.heap.size w w' ∧ ((∃ ps v, e = .returned (.tuple #[v, .nilIface]) ∧ POwns w' w.heap.size v ps ∧ Reads b ps ∧ (∀ p ∈ ps, p.wf) ∧ ∀ qs, Reads b qs → qs = ps) ∨ (e = .returned (.tuple #[.slice none 0 0, .iface 31 (.int .i64 7)]) ∧ ∀ qs, ¬ Reads b qs))
theorem partsPost_good {b : List UInt8} {w w' : World} {ps : List PartD} {v : Value} (hb : Below w.heap.size w w') (h1 : POwns w' w.heap.size v ps) (h2 : Reads b ps) (h3 : ∀ p ∈ ps, p.wf) (h4 : ∀ qs, Reads b qs → qs = ps) : PartsPost b w (.returned (.tuple #[v, .nilIface])) w' :=
  ⟨hb, .inl ⟨ps, v, rfl, h1, h2, h3, h4⟩⟩
theorem partsPost_bad {b : List UInt8} {w w' : World} (hb : Below w.heap.size w w') (h : ∀ qs, ¬ Reads b qs) : PartsPost b w (.returned (.tuple #[.slice none 0 0, .iface 31 (.int .i64 7)])) w' := ⟨hb, .inr ⟨rfl, h⟩⟩

set_option maxRecDepth 1000000 in
set_option maxHeartbeats 1600000 in
theorem parts_any (l : List UInt8) (n B cap : Nat) (w : World) (hn : n = l.length) (hl : l.length ≤ 140737488355328) (hcap : l.length ≤ cap) (hB : B < w.heap.size) (hc : BytesAt w B 0 l) :
    Calls Tryd.prog 24 #[.slice (some ⟨B, 0, none⟩) n cap] w (PartsPost l w) := by
  subst hn
  have HC : Hid (BytesAt w B 0 l) := hc
  clear hc
  go_enter Tryd.func24, Tryd.ntmps24
  go_wp2
  go_loopw [0, 4] (fun x o wr => ∃ (of cp : Nat) (rest : List UInt8) (done : List PartD) (vo : Value), vo = o ∧ x = .slice (some ⟨B, of, none⟩) rest.length cp ∧ rest.length ≤ cp ∧ rest.length ≤ l.length ∧ BytesAt w B of rest ∧ l = encKey done ++ rest ∧ errs done = 0 ∧ done.length ≤ 8 ∧ (∀ q ∈ done, q.num < 18446744073709551616) ∧ (∀ q ∈ done, q.wf) ∧ (∀ qs, Reads l qs → ∃ rs, qs = done ++ rs ∧ encKey rs = rest) ∧ POwns wr w.heap.size vo done ∧ Below w.heap.size w wr) (fun x _ _ => lenOfV x)
  case atStart => exact ⟨0, cap, l, [], _, rfl, rfl, hcap, Nat.le_refl _, HC.out, by simp [encKey], rfl, by simp, by simp, by simp, fun qs hq => ⟨qs, by simp, hq.2.2.2⟩, pOwns_nil _ _, Below.refl _ _⟩
  case round =>
    obtain ⟨of, cp, rest, done, v0, rfl, rfl, hrc, hrl, hby, hlr, herr, hd8, hnum, hwf, hinv, hown, hbel⟩ := hrel
    have HBY : Hid (BytesAt w B of rest) := hby
    have HF : Hid (l = encKey done ++ rest ∧ errs done = 0 ∧ (∀ q ∈ done, q.num < 18446744073709551616) ∧ (∀ q ∈ done, q.wf)) := ⟨hlr, herr, hnum, hwf⟩
    have HI : Hid (∀ qs, Reads l qs → ∃ rs, qs = done ++ rs ∧ encKey rs = rest) := hinv
    have HOW : Hid (POwns wr w.heap.size v0 done) := hown
    have HBL : Hid (Below w.heap.size w wr) := hbel
    have hbw : w.heap.size ≤ wr.heap.size := hbel.size
    clear hby hlr herr hnum hwf hinv hown hbel
    obtain ⟨ao, ac, rfl⟩ := HOW.out.shape
    cases rest with
    | nil =>
      have HR : Hid (Reads l done) := by
        obtain ⟨h1, h2, h3, h4⟩ := HF.out
        exact ⟨h2, hd8, h3, by rw [h1]; simp⟩
      go_wp2
      go_ret2
      exact partsPost_good HBL.out HOW.out HR.out HF.out.2.2.2 (fun qs hq => reads_end l done qs HI.out hq)
    | cons m r =>
      have hfp := firstPart_any m r B of cp wr (by omega) hrc (by omega) (HBY.out.below HBL.out hB)
      have hr0 : (0 : Int) < (r.length : Int) + 1 := by omega
      have hrl' : r.length + 1 ≤ l.length := by simpa using hrl
      have hrc' : r.length + 1 ≤ cp := by simpa using hrc
      have HNE : Hid ((m :: r) ≠ []) := by show (m :: r) ≠ []; simp
      clear hrl hrc
      simp only [List.length_cons]
      go_wp2_with fail
      refine hfp.mono ?_
      clear hfp
      rintro e w1 ⟨p, s, rfl, hb1, hd⟩
      have HB1 : Hid (Below w.heap.size w w1) := HBL.out.trans (hb1.mono hbw)
      have HO1 : Hid (POwns w1 w.heap.size (.slice ao done.length ac) done) := HOW.out.below hb1
      have hb1s : w.heap.size ≤ w1.heap.size := HB1.out.size
      have HB1' : Hid (∀ o, Below w.heap.size w (w1.alloc o)) := fun o => HB1.out.alloc hb1s o
      clear hb1
      obtain ⟨pk, pn, pt⟩ := p
      simp only
      rcases hd with ⟨hnone, hs0⟩ | hsome
      · subst hs0
        have HBAD : Hid (∀ qs, ¬ Reads l qs) := reads_none l (m :: r) done HI.out hnone HNE.out
        clear hnone
        go_wp2
        go_ret2
        exact partsPost_bad (HB1'.out _) HBAD.out
      · obtain ⟨he, hn64, hkd, ht60, hs, rest', hrest⟩ := dec1_some _ _ _ hsome
        have hspos : 0 < s := by rw [hs]; exact encPart_pos _
        have hs0 : ((s : Int) == 0) = false := by rw [beq_eq_false_iff_ne]; omega
        have hsle : s ≤ r.length + 1 := by
          have := congrArg List.length hrest
          rw [List.length_append, ← hs, List.length_cons] at this; omega
        by_cases h8 : done.length = 8
        · have h8' : ((done.length : Int) == 8) = true := by rw [h8]; rfl
          have HBAD : Hid (∀ qs, ¬ Reads l qs) := reads_many l (m :: r) done HI.out (by omega) HNE.out
          clear hsome he hn64 hkd ht60 hs hrest h8
          go_wp2
          go_ret2
          exact partsPost_bad (HB1'.out _) HBAD.out
        · have h8' : ((done.length : Int) == 8) = false := by rw [beq_eq_false_iff_ne]; omega
          have HI2 : Hid (∀ qs, Reads l qs → ∃ rs, qs = (done ++ [⟨pk, pn, pt⟩]) ++ rs ∧ encKey rs = (m :: r).drop s) := reads_step l (m :: r) done ⟨pk, pn, pt⟩ s HI.out hsome HNE.out
          have HF2 : Hid (l = encKey (done ++ [⟨pk, pn, pt⟩]) ++ (m :: r).drop s ∧ errs (done ++ [⟨pk, pn, pt⟩]) = 0 ∧ (∀ q ∈ done ++ [⟨pk, pn, pt⟩], q.num < 18446744073709551616) ∧ (∀ q ∈ done ++ [⟨pk, pn, pt⟩], q.wf)) := by
            obtain ⟨f1, f2, f3, f4⟩ := HF.out
            refine ⟨?_, ?_, ?_, ?_⟩
            · have e : encKey (done ++ [⟨pk, pn, pt⟩]) = encKey done ++ encPart ⟨pk, pn, pt⟩ := by simp [encKey]
              rw [e, List.append_assoc, hrest, hs, List.drop_left, ← hrest]; exact f1
            · rw [errs_append, if_pos f2, errs, if_pos he]; rfl
            · intro q hq
              rcases List.mem_append.1 hq with h | h
              · exact f3 q h
              · rw [List.mem_singleton.1 h]; exact hn64
            · intro q hq
              rcases List.mem_append.1 hq with h | h
              · exact f4 q h
              · rw [List.mem_singleton.1 h]
                refine ⟨?_, ?_, hn64, by simp only at ht60 ⊢; omega⟩
                · rcases hkd with e | e <;> simp only at e ⊢ <;> omega
                · rcases hkd with e | e <;> simp only at e ⊢ <;> omega
          have HAL : Hid (POwns ((w1.alloc (.cells #[.int .i64 pk, .int .u64 (pn : Int), .string (str pt)] 54)).alloc (.cells #[.int .i64 pk, .int .u64 (pn : Int), .string (str pt)] 54)) w.heap.size (.slice ao done.length ac) done) := (HO1.out.alloc _).alloc _
          have hd8' : done.length < 8 := by omega
          clear hsome he hn64 hkd ht60 hs hrest h8
          go_wp2_with (at_builtin; refine wpList_addP rfl (.tmp 23) (.tmp 25) rfl w.heap.size _ done rfl HAL.out (w1.heap.size + 1) 1 1 [⟨pk, pn, pt⟩] rfl rfl (one_part (w1.alloc (.cells #[.int .i64 pk, .int .u64 (pn : Int), .string (str pt)] 54)) ⟨pk, pn, pt⟩ _ (by simp)) (by simp; omega) (by simp; omega) ?_; intro v2 w2 hown2 hbel2 hnil2)
          have HO2 : Hid (POwns w2 w.heap.size v2 (done ++ [⟨pk, pn, pt⟩])) := hown2
          have HB2 : Hid (Below w.heap.size w w2) := ((HB1'.out _).alloc (by simp; omega) _).trans hbel2
          clear hown2 hbel2 hnil2 HAL
          go_wp2
          go_roundw
          case rel =>
            have hdl : ((m :: r).drop s).length = r.length + 1 - s := by rw [List.length_drop, List.length_cons]
            refine ⟨if cp = s then of else of + s, cp - s, (m :: r).drop s, done ++ [⟨pk, pn, pt⟩], v2, rfl, ?_, by rw [hdl]; omega, by rw [hdl]; omega, ?_, HF2.out.1, HF2.out.2.1, by simp; omega, HF2.out.2.2.1, HF2.out.2.2.2, HI2.out, HO2.out, HB2.out⟩
            · rw [hdl]; split <;> rfl
            · intro i hi
              rw [hdl] at hi
              rw [if_neg (by omega)]
              have h := HBY.out (s + i) (by simp; omega)
              rw [show of + s + i = of + (s + i) by omega, h, List.getElem_drop]
          case measure => simp [lenOfV]; omega

/-- What CodeParts leaves. -/
def CodePartsPost (b : List UInt8) (w : World) (e : Ending) (w' : World) : Prop :=
  Below w.heap.size w w' ∧ ((∃ ps v, e = .returned (.tuple #[v, .int .i64 0]) ∧ POwns w' w.heap.size v ps ∧ Reads b ps ∧ (∀ p ∈ ps, p.wf) ∧ ∀ qs, Reads b qs → qs = ps) ∨ (e = .returned (.tuple #[.slice none 0 0, .int .i64 7]) ∧ ∀ qs, ¬ Reads b qs))
theorem cpp_good {b : List UInt8} {w w' : World} {ps : List PartD} {v : Value} (hb : Below w.heap.size w w') (h1 : POwns w' w.heap.size v ps) (h2 : Reads b ps) (h3 : ∀ p ∈ ps, p.wf) (h4 : ∀ qs, Reads b qs → qs = ps) : CodePartsPost b w (.returned (.tuple #[v, .int .i64 0])) w' :=
  ⟨hb, .inl ⟨ps, v, rfl, h1, h2, h3, h4⟩⟩
theorem cpp_bad {b : List UInt8} {w w' : World} (hb : Below w.heap.size w w') (h : ∀ qs, ¬ Reads b qs) : CodePartsPost b w (.returned (.tuple #[.slice none 0 0, .int .i64 7])) w' := ⟨hb, .inr ⟨rfl, h⟩⟩
theorem codeParts_any (l : List UInt8) (n B cap : Nat) (w : World) (hn : n = l.length) (hl : l.length ≤ 140737488355328) (hcap : l.length ≤ cap) (hB : B < w.heap.size) (hc : BytesAt w B 0 l) (hg : ErrT w) :
    Calls Tryd.prog 16 #[.slice (some ⟨B, 0, none⟩) n cap] w (CodePartsPost l w) := by
  have HP : Hid (Calls Tryd.prog 24 #[.slice (some ⟨B, 0, none⟩) n cap] w (PartsPost l w)) := parts_any l n B cap w hn hl hcap hB hc
  have HG : Hid (ErrT w) := hg
  have hgz := hg.size
  clear hc hg hn hl hcap
  go_enter Tryd.func16, Tryd.ntmps16
  go_wp2_with fail
  refine HP.out.mono ?_
  clear HP
  rintro e w1 ⟨hb1, ⟨ps, v, rfl, h1, h2, h3, h4⟩ | ⟨rfl, h⟩⟩
  · have HB : Hid (Below w.heap.size w w1) := hb1
    have H1 : Hid (POwns w1 w.heap.size v ps) := h1
    have H2 : Hid (Reads l ps) := h2
    have H3 : Hid (∀ p ∈ ps, p.wf) := h3
    have H4 : Hid (∀ qs, Reads l qs → qs = ps) := h4
    clear hb1 h1 h2 h3 h4
    go_wp2_with (go_at_call 23; refine (number_nil _).mono ?_; rintro e w2 ⟨rfl, hb2⟩)
    go_ret2
    exact cpp_good (HB.out.trans (hb2.mono HB.out.size)) (H1.out.below hb2) H2.out H3.out H4.out
  · have HB : Hid (Below w.heap.size w w1) := hb1
    have H : Hid (∀ qs, ¬ Reads l qs) := h
    have HG1 : Hid (ErrT w1) := HG.out.below hb1 hgz
    clear hb1 h
    go_wp2_with (go_at_call 23; refine (number_errno 7 _ HG1.out).mono ?_; rintro e w2 ⟨rfl, hb2⟩)
    go_ret2
    exact cpp_bad (HB.out.trans (hb2.mono HB.out.size)) H.out
end Go.Proofs.YtppmjdmdflcoiaaDoor
