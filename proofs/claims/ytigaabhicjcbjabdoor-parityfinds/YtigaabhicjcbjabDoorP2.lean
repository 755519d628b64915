/-
  Lists of pieces: which are lost; the plain sum.
-/
import Derived.Test.YtigaabhicjcbjabDoorP1
import Derived.Laws.OwnMore
namespace Go.Proofs.YtigaabhicjcbjabDoor
open Go.ChangeShapes Go.WideShapes Go.ChangeAt Go.RowKit
set_option linter.unusedVariables false

theorem Tryd.info3 : (Tryd.prog.info? 3).map (fun i => (i.zero, i.size, i.bytes)) = some (some (.int .i64 0), 1, 8) := by kernel_rfl
def in64 (n : Nat) : Value := .int .i64 (n : Int)
/-- A slice of numbers that the call has made. -/
def IOwns (w : World) (base : Nat) (v : Value) (l : List Nat) : Prop := w.ownsRow base 3 1 v l.length (l.map in64)
theorem IOwns.block {w : World} {base : Nat} {v : Value} {l : List Nat} (h : IOwns w base v l) : ∀ k, v.ownBlock = some k → base ≤ k := by
  intro k hk
  obtain ⟨_, h2⟩ := h
  rcases h2 with ⟨rfl, _⟩ | ⟨g, c, cur, rfl, hg, _⟩
  · simp [Value.ownBlock] at hk
  · simp [Value.ownBlock] at hk; omega
theorem IOwns.shape {w : World} {base : Nat} {v : Value} {l : List Nat} (h : IOwns w base v l) : ∃ ao cp, v = .slice ao l.length cp := by
  rcases h.2 with ⟨rfl, hn⟩ | ⟨g, c, cur, h3, _⟩
  · exact ⟨none, 0, by rw [hn]⟩
  · exact ⟨_, _, h3⟩
theorem IOwns.get {w : World} {base : Nat} {ao : Option Addr} {n cp : Nat} {l : List Nat} (h : IOwns w base (.slice ao n cp) l) (k : Nat) (hk : k < l.length) : ∃ g, ao = some ⟨g, 0, none⟩ ∧ base ≤ g ∧ w.cell? ⟨g, k, none⟩ = some (.int .i64 (l[k] : Nat)) := by
  rcases h.2 with ⟨_, hn⟩ | ⟨g, c, cur, h3, hb, h5, h6, h7, h8, h9⟩
  · omega
  · simp at h3
    have e : (cur.toList.take (l.length * 1))[k]? = some (in64 l[k]) := by rw [h9]; simp [hk]
    rw [List.getElem?_take_of_lt (by omega)] at e
    have e' : cur[k]? = some (in64 l[k]) := by simpa using e
    exact ⟨g, h3.1, hb, by simp [World.cell?, h5, e', in64]⟩
theorem IOwns.below {w w' : World} {base : Nat} {v : Value} {l : List Nat} (h : IOwns w base v l) (hb : Below w.heap.size w w') : IOwns w' base v l := by
  refine ⟨h.1, ?_⟩
  rcases h.2 with hn | ⟨g, c, cur, h3, h4, h5, h6⟩
  · exact .inl hn
  · exact .inr ⟨g, c, cur, h3, h4, by rw [hb.block g (Array.getElem?_eq_some_iff.1 h5).1]; exact h5, h6⟩
/-- 'append(out, x)' as a law. -/
theorem wpList_addI {w : World} {ops : Array Oper} {rest : List Oper} {o : Oper} {a : Act} {Q : Exit → Act → World → Prop} (hgd : o.guard = none) (s x : Operand)
    (ho : o.op = .call { callee := .builtin .append, args := #[s, x], argTypes := #[61, 61] }) (base : Nat) (v : Value) (l : List Nat) (hs : a.eval s = v) (W : World) (i : Nat) (hw : w = W.alloc (.cells #[.int .i64 (i : Int)] 3)) (hown : IOwns W base v l)
    (b : Nat) (hb' : b = W.heap.size) (hx : a.eval x = .slice (some ⟨b, 0, none⟩) 1 1) (hb : l.length + 1 ≤ 1000000000) (hbase : base ≤ W.heap.size)
    (h : ∀ v' w', IOwns w' base v' (l ++ [i]) → Below base W w' → wpList Tryd.prog ops Q rest (a.put o.dst v') w') : wpList Tryd.prog ops Q (o :: rest) a w := by
  subst hw hb'
  obtain ⟨i0, hi, hz0, hz1, hz2⟩ := info_parts Tryd.info3
  have ho' : IOwns (W.alloc (.cells #[.int .i64 (i : Int)] 3)) base v l := hown.below ((Below.refl _ _).alloc (Nat.le_refl _) _)
  refine wpList_append_own _ hgd s x 61 ho base 3 i0 (.int .i64 0) 1 8 Tryd.underlying61 hi hz0 hz1 hz2 rfl (by decide) v l.length (l.map in64) hs ho' ⟨W.heap.size, 0, none⟩ 1 1 [in64 i] hx rfl ?_ (by intro u hu; simp at hu; subst hu; rfl) (by unfold maxLen; omega) (by omega) (by simp; omega) ?_
  · intro j u hj
    obtain rfl : j = 0 := by
      have := (List.getElem?_eq_some_iff.1 hj).1
      simpa using this
    simp at hj
    subst hj
    rw [add_at]
    simp [in64]
  intro v' w' h1 h2 h3
  refine h v' w' ?_ (((Below.refl base W).alloc hbase _).trans ((Below.refl base _).grown h2 (by simp; omega) ho'.block))
  unfold IOwns
  rw [List.length_append, List.map_append]
  exact h1
theorem take_snoc {α : Type} (L : List α) (k : Nat) (hk : k < L.length) : L.take (k + 1) = L.take k ++ [L[k]] := List.take_succ_eq_append_getElem hk
/-- What gaps leaves. -/
def GapsPost (w : World) (l : List Nat) (e : Ending) (w' : World) : Prop := ∃ v, e = .returned v ∧ IOwns w' w.heap.size v l ∧ Below w.heap.size w w'
theorem gaps_len (k : Nat) (L : List (List UInt8)) : (gaps k L).length ≤ L.length := by
  induction L generalizing k with
  | nil => simp [gaps]
  | cons a L ih =>
    simp only [gaps]
    have := ih (k + 1)
    split <;> simp <;> omega
set_option maxRecDepth 100000 in
theorem gaps_any (L : List (List UInt8)) (n₀ : Nat) (v : Value) (w : World) (hl : L.length ≤ 1000000) (hn : n₀ ≤ w.heap.size) (hv : Pcs n₀ w v L) : Calls Tryd.prog 50 #[v] w (GapsPost w (gaps 0 L)) := by
  obtain ⟨ao, cp, rfl⟩ := hv.shape
  have HV : Hid (Pcs n₀ w (.slice ao L.length cp) L) := hv
  clear hv
  go_enter Tryd.func50, Tryd.ntmps50
  go_wp2
  go_loopw [3, 8] (fun y i wr => ∃ (xo : Option Addr) (xc k : Nat), y = .slice xo (gaps 0 (L.take k)).length xc ∧ i = .int .i64 k ∧ k ≤ L.length ∧ IOwns wr w.heap.size (.slice xo (gaps 0 (L.take k)).length xc) (gaps 0 (L.take k)) ∧ Below w.heap.size w wr) (fun _ i _ => L.length - (intOf i).toNat)
  case atStart => exact ⟨none, 0, 0, rfl, rfl, by omega, World.ownsRow_nil _ _ _ _, Below.refl _ _⟩
  case round =>
    obtain ⟨xo, xc, k, rfl, rfl, hk, ho, hb⟩ := hrel
    have HO : Hid (IOwns wr w.heap.size (.slice xo (gaps 0 (L.take k)).length xc) (gaps 0 (L.take k))) := ho
    have HB : Hid (Below w.heap.size w wr) := hb
    clear ho hb
    by_cases hlt : k < L.length
    · obtain ⟨b, off, ul, ucp, rfl, hbb, hc0, hr⟩ := HV.out.get k hlt
      have hc : wr.cell? ⟨b, off + k, none⟩ = some (.slice ul L[k].length ucp) := (HB.out.cell (p := ⟨b, off + k, none⟩) (show b < _ by omega)).trans hc0
      clear hr hc0
      obtain ⟨m, hm⟩ : ∃ m, m = L[k].length := ⟨_, rfl⟩
      rw [← hm] at hc
      have HM : Hid (m = L[k].length) := hm
      clear hm
      have HG : Hid (gaps 0 (L.take (k + 1)) = gaps 0 (L.take k) ++ (if m = 0 then [k] else [])) := by
        show _ = _
        rw [take_snoc L k hlt, gaps_snoc, ← HM.out, List.length_take, Nat.min_eq_left (by omega), Nat.zero_add]
      by_cases h0 : m = 0
      · subst h0
        have hgl := gaps_len 0 (L.take k)
        have HGL : Hid ((gaps 0 (L.take k)).length + 1 ≤ 1000000000) := by show _ ≤ _; rw [List.length_take] at hgl; omega
        clear hgl
        go_wp2_with (at_builtin; refine wpList_addI rfl _ _ rfl w.heap.size _ (gaps 0 (L.take k)) rfl wr k rfl HO.out _ rfl rfl HGL.out HB.out.size ?_; intro v' w' h1 h2; obtain ⟨yo, yc, rfl⟩ := h1.shape; have H1 := hid_mk h1; have H2 := hid_mk h2; clear h1 h2)
        go_roundw
        case rel => exact ⟨yo, yc, k + 1, by rw [HG.out, if_pos rfl, List.length_append]; rfl, by go_num, by omega, by rw [HG.out, if_pos rfl]; exact H1.out, HB.out.trans H2.out⟩
        case measure => simp [intOf]; omega
      · have h0' : ¬ (m : Int) = 0 := by omega
        go_wp2
        go_roundw
        case rel => exact ⟨xo, xc, k + 1, by rw [HG.out, if_neg h0, List.append_nil], by go_num, by omega, by rw [HG.out, if_neg h0, List.append_nil]; exact HO.out, HB.out⟩
        case measure => simp [intOf]; omega
    · have hkn : k = L.length := by omega
      subst hkn
      go_wp2
      go_ret
      exact ⟨.slice xo (gaps 0 (L.take L.length)).length xc, rfl, by have h := HO.out; rw [List.take_length] at h ⊢; exact h, HB.out⟩
theorem lost_any (L : List (List UInt8)) (n₀ : Nat) (v : Value) (w : World) (hl : L.length ≤ 1000000) (hn : n₀ ≤ w.heap.size) (hv : Pcs n₀ w v L) : Calls Tryd.prog 44 #[v] w fun e w' => e = .returned (.int .i64 (lostN L : Nat)) ∧ Below w.heap.size w w' := by
  have HG := hid_mk (gaps_any L n₀ v w hl hn hv)
  go_enter Tryd.func44, Tryd.ntmps44
  go_wp2_with (go_at_call 50; refine HG.out.mono ?_; rintro e w' ⟨u, rfl, ho, hb⟩; obtain ⟨ao, cp, rfl⟩ := IOwns.shape ho; have HB := hid_mk hb; clear ho hb)
  go_ret
  exact ⟨rfl, HB.out⟩
theorem fit_any (L : List (List UInt8)) (n₀ : Nat) (v : Value) (w : World) (hl : L.length ≤ 140737488355328) (hv : Pcs n₀ w v L) (hp : ∀ b ∈ L, b.length ≤ 140737488355328) : Calls Tryd.prog 43 #[v] w fun e w' => e = .returned (.bool (haveI := decEven L; decide ((1 ≤ L.length ∧ L.length ≤ 16) ∧ Even L))) ∧ w' = w := by
  have HE := hid_mk (even_any L n₀ v w hl hv hp)
  obtain ⟨ao, cp, rfl⟩ := hv.shape
  have HF := hid_mk (few_any L.length cp ao w hl)
  clear hv hp
  by_cases h1 : 1 ≤ L.length ∧ L.length ≤ 16
  · have e1 : (haveI := decEven L; decide ((1 ≤ L.length ∧ L.length ≤ 16) ∧ Even L)) = @decide (Even L) (decEven L) := by simp [h1]
    rw [e1]
    rw [decide_eq_true h1] at HF
    obtain ⟨r, hr⟩ : ∃ r, r = @decide (Even L) (decEven L) := ⟨_, rfl⟩
    rw [← hr] at HE ⊢
    clear hr e1 h1
    go_enter Tryd.func43, Tryd.ntmps43
    go_wp2_with (first | (go_at_call 60; refine HF.out.mono ?_; rintro e w' ⟨rfl, rfl⟩) | (go_at_call 61; refine HE.out.mono ?_; rintro e w' ⟨rfl, rfl⟩))
    go_ret
    exact ⟨rfl, rfl⟩
  · rw [decide_eq_false h1] at HF
    rw [show (haveI := decEven L; decide ((1 ≤ L.length ∧ L.length ≤ 16) ∧ Even L)) = false from @decide_eq_false _ (@instDecidableAnd _ _ instDecidableAnd (decEven L)) (fun h => h1 h.1)]
    clear h1
    go_enter Tryd.func43, Tryd.ntmps43
    go_wp2_with (go_at_call 60; refine HF.out.mono ?_; rintro e w' ⟨rfl, rfl⟩)
    go_ret
    exact ⟨rfl, rfl⟩
/-- What plain and weighted leave. -/
def SumPost (w : World) (sz : Nat) (f : Nat → UInt8) (e : Ending) (w' : World) : Prop := ∃ B, e = .returned (.slice (some ⟨B, 0, none⟩) sz sz) ∧ w.heap.size ≤ B ∧ Part w' B sz sz (vec sz f) ∧ Below w.heap.size w w'
theorem part_made {w : World} {base sz g : Nat} (h : w.ownsRow base 5 1 (.slice (some ⟨g, 0, none⟩) sz sz) sz (madeCells (Value.int .u8 0).cells (sz * 1)).toList) : Part w g sz sz (vec sz (fun _ => 0)) := by
  have e : (madeCells (Value.int .u8 0).cells (sz * 1)).toList = (vec sz (fun _ => 0)).map by8 := by
    rw [Nat.mul_one]
    refine (toList_madeCells_one (Value.int .u8 0) sz).trans ?_
    apply List.ext_getElem
    · simp [vec]
    · intro i h1 h2
      simp [vec, by8]
  rw [e] at h
  exact Part.of_owns h
end Go.Proofs.YtigaabhicjcbjabDoor
