import Derived.Test.YtcpdnalmoaojlaaDoorHQ3
import Derived.Test.YtcpdnalmoaojlaaDoorHSp20

/-
  The document's grow, Grow, NewSpace.
-/
namespace Go.Proofs.YtcpdnalmoaojlaaDoor
open Go.RowKit Go.Shelf
set_option linter.unusedVariables false
set_option linter.unusedSimpArgs false

theorem infoRow : (Tryd.prog.info? 89).map (fun i => (i.zero, i.size, i.bytes)) = some (some (.agg #[.int .i64 0, .bool false, .int .i64 0, .int .i64 0, .int .u64 0, .bool false]), 6, 48) := by kernel_rfl
/-- The blocks of the document's space. -/
def rfU (r : Nat) (v : Value) (k : Nat) : Prop := k = r ∨ own v k
theorem RfAt.foot {w : World} {r rows : Nat} {v : Value} {f : Nat → RR} (h : RfAt w r v rows f) : ∀ k, rfU r v k → k < w.heap.size := fun k hk => by
  rcases hk with rfl | hk
  · exact h.lt
  · exact h.ownlt hk
/-- One row more. -/
theorem RfAt.more {wr X w2 : World} {r rows : Nat} {v v2 : Value} {f : Nat → RR} (h : RfAt wr r v rows f) (hX : Below wr.heap.size wr X) (h1 : w2.ownsRow 0 89 6 v2 (rows + 1) (rowsV rows f ++ rrv (f rows))) (h2 : Grow (own v) X (own v2) w2) :
    w2.heap[r]? = some (.cells #[v] 67 (0, 0)) ∧ RfAt (w2.setCell ⟨r, 0, none⟩ v2) r v2 (rows + 1) f ∧ Grow (rfU r v) wr (rfU r v2) (w2.setCell ⟨r, 0, none⟩ v2) := by
  have hh : X.heap[r]? = some (.cells #[v] 67 (0, 0)) := (hX.block r h.lt).trans h.head
  have hrX : r < X.heap.size := (Array.getElem?_eq_some_iff.1 hh).1
  have hh2 : w2.heap[r]? = some (.cells #[v] 67 (0, 0)) := (h2.kept.block r hrX (fun e => h.ne e rfl)).trans hh
  have hrn : ¬ own v2 r := fun e => by
    rcases (h2.sub r e).1 with e1 | e1
    · exact h.ne e1 rfl
    · omega
  have hq : QOwns w2 v2 (rows + 1) f := by unfold QOwns; rw [rowsV_succ]; exact h1
  have hkk : Kept (fun k => k ≠ r) w2 (w2.setCell ⟨r, 0, none⟩ v2) := ⟨rfl, rfl, rfl, by simp [World.setCell], fun k _ hk => Below.heap_setCell _ _ _ _ hk⟩
  refine ⟨hh2, ⟨?_, hq.kept hkk (fun k hk e => hrn (e ▸ hk))⟩, ⟨?_, ?_⟩⟩
  · rw [heap_put hh2]; simp
  · refine ((Kept.of_below hX).trans (h2.kept.sub fun k _ hk e => hk (.inr e))).trans (hkk.sub fun k _ hk e => hk (.inl e))
  · intro k hk
    have hs : (w2.setCell ⟨r, 0, none⟩ v2).heap.size = w2.heap.size := by simp [World.setCell]
    rw [hs]
    rcases hk with rfl | hk
    · exact ⟨.inl (.inl rfl), (Array.getElem?_eq_some_iff.1 hh2).1⟩
    · obtain ⟨e1, e2⟩ := h2.sub k hk
      refine ⟨?_, e2⟩
      rcases e1 with e1 | e1
      · exact .inl (.inr e1)
      · exact .inr (Nat.le_trans hX.size e1)
set_option maxRecDepth 100000 in
set_option maxHeartbeats 4000000 in
theorem rgrow_any (r rows n : Nat) (v : Value) (f : Nat → RR) (w : World) (hR : RfAt w r v rows f) (hr : rows + n ≤ 1073741824) (hf : ∀ i, rows ≤ i → f i = free0) :
    Calls Tryd.prog 22 #[.pointer (some ⟨r, 0, none⟩), .int .i64 (n : Int)] w fun e w' => (∃ u, e = .returned u) ∧ ∃ v', Grow (rfU r v) w (rfU r v') w' ∧ RfAt w' r v' (rows + n) f := by
  have HR := hid_mk hR
  have HF := hid_mk hf
  obtain ⟨i0, hi, hz0, hz1, hz2⟩ := info_parts infoRow
  have HI0 := hid_mk hi
  have HZ0 := hid_mk hz0
  have HZ1 := hid_mk hz1
  have HZ2 := hid_mk hz2
  clear hi hz0 hz1 hz2 hR hf
  go_enter Tryd.func22, Tryd.ntmps22
  go_wp2_with fail
  go_loopg [1] n (fun k i wr => ∃ j v', i = .int .i64 ((n - j : Nat) : Int) ∧ j ≤ n ∧ k = n - j ∧ Grow (rfU r v) w (rfU r v') wr ∧ RfAt wr r v' (rows + j) f)
  case atStart => exact ⟨0, v, by simp, by omega, by omega, Grow.refl HR.out.foot, HR.out⟩
  case round =>
    obtain ⟨j, v', rfl, hj, hk, hgr, hRw⟩ := hrel
    have HGK := hid_mk hk
    have HGR := hid_mk hgr
    have HRW := hid_mk hRw
    obtain ⟨ao, cp, rfl⟩ := hRw.rows.form
    have c0 := hRw.cell
    have hrl := hRw.lt
    obtain ⟨t, ht⟩ : ∃ t, t = n - j := ⟨_, rfl⟩
    rw [← ht]
    clear hk hgr
    by_cases hlt : j < n
    · have hti : (0 : Int) < (t : Int) := by omega
      have x1 : IntKind.i64.wrap ((t : Int) - 1) = (t : Int) - 1 := by rw [IntKind.wrap_i64]; omega
      obtain ⟨X, hX⟩ : ∃ X, X = wr.alloc (.cells #[.int .i64 (-1), .bool false, .int .i64 0, .int .i64 0, .int .u64 0, .bool false] 89) := ⟨_, rfl⟩
      have bX : Below wr.heap.size wr X := by rw [hX]; exact Below.alloc (Below.refl _ _) (Nat.le_refl _) _
      have eX : X.heap[wr.heap.size]? = some (.cells #[.int .i64 (-1), .bool false, .int .i64 0, .int .i64 0, .int .u64 0, .bool false] 89 (0, 0)) := by rw [hX]; exact heap_alloc_new _ _
      have HRX := hid_mk (hRw.below bX)
      have HNW : Hid (∀ k u, (rrv free0)[k]? = some u → X.cell? (Addr.add ⟨wr.heap.size, 0, none⟩ k) = some u) := by
        intro k u hu
        rw [Addr.add_lit]
        simp only [World.cell?, eX, Nat.zero_add]
        simpa [rrv, free0] using hu
      have HBX := hid_mk bX
      have HHX : Hid (X.heap[r]? = some (.cells #[.slice ao (rows + j) cp] 67 (0, 0))) := HRX.out.head
      have HT := hid_mk ht
      clear hRw bX eX ht
      subst hX
      go_wp2_with (at_builtin; refine wpList_app rfl _ _ 65 rfl 0 89 i0 (.agg #[.int .i64 0, .bool false, .int .i64 0, .int .i64 0, .int .u64 0, .bool false]) 6 48 Tryd.underlying65 HI0.out HZ0.out HZ1.out HZ2.out rfl (by decide) _ (rows + j) (rowsV (rows + j) f) rfl HRX.out.rows ⟨wr.heap.size, 0, none⟩ 1 1 (rrv free0) rfl rfl HNW.out (by simp [rrv, Value.oneCell']) (by decide) (by unfold maxLen; omega) (by omega) (Nat.zero_le _) ?_; intro v2 w2 h1 h2; obtain ⟨k1, k2, k3⟩ := HRW.out.more HBX.out (by rw [HF.out _ (by omega)]; exact h1) h2; obtain ⟨ao2, cp2, hv2⟩ := k2.rows.form; subst hv2; have HK2 := hid_mk k2; have HK3 := hid_mk k3; have kc : w2.cell? ⟨r, 0, none⟩ = some (.slice ao (rows + j) cp) := (by simp [World.cell?, k1]); have kf := unfrozen k1 0; clear h1 h2 k1 k2 k3)
      go_roundg (n - (j + 1))
      case measure => have := HGK.out; omega
      case rel => exact ⟨j + 1, _, by have := HT.out; congr 1; omega, by omega, rfl, HGR.out.trans HK3.out, HK2.out⟩
    · obtain rfl : j = n := by omega
      have hti : ¬ (0 : Int) < (t : Int) := by omega
      clear hRw ht
      go_wp2_with fail
      go_end0
      exact ⟨⟨_, rfl⟩, _, HGR.out, HRW.out⟩
set_option maxRecDepth 100000 in
set_option maxHeartbeats 4000000 in
theorem rnew_any (n : Nat) (w : World) (hn : n ≤ 1073741824) :
    Calls Tryd.prog 7 #[.int .i64 (n : Int)] w fun e w' => ∃ r v, e = .returned (.pointer (some ⟨r, 0, none⟩)) ∧ w.heap.size ≤ r ∧ (∀ k, own v k → w.heap.size ≤ k) ∧ RfAt w' r v n (fun _ => free0) ∧ Below w.heap.size w w' := by
  obtain ⟨V, hV⟩ : ∃ V, V = w.alloc (.cells #[.slice none 0 0] 67) := ⟨_, rfl⟩
  have bV : Below w.heap.size w V := by rw [hV]; exact Below.alloc (Below.refl _ _) (Nat.le_refl _) _
  have eV : V.heap[w.heap.size]? = some (.cells #[.slice none 0 0] 67 (0, 0)) := by rw [hV]; exact heap_alloc_new _ _
  have hR : RfAt V w.heap.size (.slice none 0 0) 0 (fun _ => free0) := ⟨eV, rfl, .inl ⟨rfl, rfl⟩⟩
  have HG := hid_mk (rgrow_any w.heap.size 0 n _ _ V hR (by omega) (fun _ _ => rfl))
  rw [Nat.zero_add] at HG
  have HB := hid_mk bV
  clear eV hR bV
  go_enter Tryd.func7, Tryd.ntmps7
  go_upto_region 2 with fail
  rw [← hV]
  clear hV
  go_wp2_with (first | (go_at_call 22; refine HG.out.mono ?_; clear HG; rintro e w2 ⟨⟨u, rfl⟩, v', hg, hr⟩; have HGR := hid_mk hg; have HR := hid_mk hr; clear hg hr))
  go_ret
  have hno : ∀ k, k < w.heap.size → ¬ rfU w.heap.size (.slice none 0 0) k := fun k hk e => by
    rcases e with e | e
    · omega
    · simp [own, Value.ownBlock] at e
  refine ⟨w.heap.size, v', rfl, Nat.le_refl _, fun k hk => ?_, HR.out, ?_⟩
  · rcases (HGR.out.sub k (.inr hk)).1 with (e | e) | e
    · omega
    · simp [own, Value.ownBlock] at e
    · exact Nat.le_trans HB.out.size e
  · exact HB.out.trans (HGR.out.kept.below HB.out.size hno)
def RGrow (w : World) (r rows : Nat) (v : Value) (f : Nat → RR) (more : Int) (e : Ending) (w' : World) : Prop :=
  ((more < 0 ∨ 1073741824 - (rows : Int) < more) ∧ e = .returned (.int .i64 5) ∧ w' = w) ∨
    ∃ n : Nat, more = (n : Int) ∧ rows + n ≤ 1073741824 ∧ e = .returned (.int .i64 0) ∧ ∃ v', Grow (rfU r v) w (rfU r v') w' ∧ RfAt w' r v' (rows + n) f
set_option maxRecDepth 100000 in
set_option maxHeartbeats 4000000 in
theorem rGrow_any (r rows : Nat) (v : Value) (f : Nat → RR) (more : Int) (w : World) (hR : RfAt w r v rows f) (hr : rows ≤ 1073741824) (hf : ∀ i, rows ≤ i → f i = free0) :
    Calls Tryd.prog 29 #[.pointer (some ⟨r, 0, none⟩), .int .i64 more] w (RGrow w r rows v f more) := by
  have HF := hid_mk hf
  have c0 := hR.cell
  have x1 : IntKind.i64.wrap (1073741824 - (rows : Int)) = 1073741824 - (rows : Int) := by rw [IntKind.wrap_i64]; omega
  obtain ⟨ao, cp, rfl⟩ := hR.rows.form
  have HR := hid_mk hR
  clear hf hR
  by_cases h0 : more < 0
  · go_enter Tryd.func29, Tryd.ntmps29
    go_wp2_with fail
    go_ret
    exact .inl ⟨.inl h0, rfl, rfl⟩
  · obtain ⟨n, rfl⟩ : ∃ n : Nat, more = (n : Int) := ⟨more.toNat, by omega⟩
    have h0' : ¬ (n : Int) < 0 := h0
    by_cases h1 : 1073741824 - (rows : Int) < (n : Int)
    · go_enter Tryd.func29, Tryd.ntmps29
      go_wp2_with fail
      go_ret
      exact .inl ⟨.inr h1, rfl, rfl⟩
    · have HL : Hid (rows + n ≤ 1073741824) := by show _ ≤ _; omega
      have HG := hid_mk (rgrow_any r rows n _ f w HR.out HL.out HF.out)
      go_enter Tryd.func29, Tryd.ntmps29
      go_wp2_with (first | (go_at_call 22; refine HG.out.mono ?_; clear HG; rintro e w2 ⟨⟨u, rfl⟩, v', hg, hr⟩; have HGR := hid_mk hg; have HR2 := hid_mk hr; clear hg hr))
      go_ret
      exact .inr ⟨n, rfl, HL.out, rfl, v', HGR.out, HR2.out⟩
end Go.Proofs.YtcpdnalmoaojlaaDoor

/-
  The document's Runs, Copy.
-/
namespace Go.Proofs.YtcpdnalmoaojlaaDoor
open Go.RowKit Go.Shelf
set_option linter.unusedVariables false
set_option linter.unusedSimpArgs false

theorem infoRun : (Tryd.prog.info? 48).map (fun i => (i.zero, i.size, i.bytes)) = some (some (.agg #[.int .i64 0, .int .i64 0, .int .i64 0, .int .u64 0]), 4, 32) := by kernel_rfl
theorem ROwns.below {w w' : World} {B : Nat} {v : Value} {l : List Pc} (h : ROwns w B v l) (hb : Below w.heap.size w w') : ROwns w' B v l := h.kept (U := fun _ => True) (Kept.of_below hb) (fun _ _ => trivial)
theorem ROwns.fm {w : World} {B : Nat} {v : Value} {l : List Pc} (h : ROwns w B v l) : ∃ ao cp, v = .slice ao l.length cp := by
  rcases h.2 with ⟨rfl, hn⟩ | ⟨g, c, cur, rfl, _⟩
  · exact ⟨none, 0, by rw [hn]⟩
  · exact ⟨_, _, rfl⟩
theorem ROwns.base {w : World} {B : Nat} {v : Value} {l : List Pc} (h : ROwns w B v l) : ∀ k, own v k → B ≤ k := fun k hk => by
  rcases h.2 with ⟨rfl, _⟩ | ⟨g, c, cur, rfl, h4, _⟩
  · simp [own, Value.ownBlock] at hk
  · have : g = k := by simpa [own, Value.ownBlock] using hk
    omega
set_option maxRecDepth 100000 in
set_option maxHeartbeats 4000000 in
theorem rruns_any (r rows : Nat) (v : Value) (l : List Pc) (w : World) (hR : RfAt w r v rows (refR l)) (hok : SpOk rows l) :
    Calls Tryd.prog 23 #[.pointer (some ⟨r, 0, none⟩)] w fun e w' => ∃ u, e = .returned u ∧ ROwns w' w.heap.size u (fil l) ∧ Below w.heap.size w w' := by
  have hr := hok.rows30
  have hfl : (fil l).length ≤ rows := by
    have h1 := fits_len hok.fits
    have h2 := fil_le l
    omega
  have HR := hid_mk hR
  have HF : Hid (Fits 0 l rows) := hok.fits
  obtain ⟨i0, hi, hz0, hz1, hz2⟩ := info_parts infoRun
  have HI0 := hid_mk hi
  have HZ0 := hid_mk hz0
  have HZ1 := hid_mk hz1
  have HZ2 := hid_mk hz2
  obtain ⟨ao, cp, rfl⟩ := hR.rows.form
  clear hi hz0 hz1 hz2 hR hok
  go_enter Tryd.func23, Tryd.ntmps23
  go_wp2_with fail
  go_loopg [3, 4] rows (fun k u i wr => ∃ j : Nat, i = .int .i64 (j : Int) ∧ j ≤ rows ∧ k = rows - j ∧ ROwns wr w.heap.size u (runsTo l j) ∧ Below w.heap.size w wr)
  case atStart => exact ⟨0, rfl, by omega, by omega, by rw [runsTo_zero]; exact ⟨rfl, .inl ⟨rfl, rfl⟩⟩, Below.refl _ _⟩
  case round =>
    rename_i u
    obtain ⟨j, rfl, hj, hk, hro, hbe⟩ := hrel
    obtain ⟨au, cu, rfl⟩ := hro.fm
    have HGK := hid_mk hk
    have HRO := hid_mk hro
    have HBE := hid_mk hbe
    have HRW := hid_mk (HR.out.kept (U := fun k => k < w.heap.size) ⟨hbe.os, hbe.tape, hbe.output, hbe.size, fun k hk _ => hbe.block k hk⟩ HR.out.lt (fun k hk => HR.out.ownlt hk))
    have c0 := HRW.out.cell
    obtain ⟨N, hN⟩ : ∃ N, N = (runsTo l j).length := ⟨_, rfl⟩
    have hN30 : N ≤ 1073741824 := by have := runsTo_le l j; omega
    rw [← hN]
    rw [← hN] at HRO
    have HN := hid_mk hN
    clear hk hro hbe hN
    by_cases hlt : j < rows
    · have hji : (j : Int) < (rows : Int) := by omega
      have HBG := hid_mk (begins_any r rows _ _ (j : Int) wr HRW.out hr (by omega))
      obtain ⟨b, hb⟩ : ∃ b, b = bgn rows (refR l) (j : Int) := ⟨_, rfl⟩
      rw [← hb] at HBG
      have HRF := hid_mk (rfind_any r rows _ _ (j : Int) wr HRW.out hr (by omega))
      cases b with
      | false =>
        have HSK : Hid (runsTo l (j + 1) = runsTo l j) := by
          refine runsTo_skip (a := 0) (b := 0) fun q hq e => ?_
          have h1 := refR_at HF.out hq
          rw [bgn_nat hlt] at hb
          have h2 := of_decide_eq_false hb.symm
          rw [← e] at h2
          rw [h1] at h2
          exact h2 rfl
        clear hb HRF
        go_wp2_with (first | (go_at_call 47; refine HBG.out.mono ?_; clear HBG; rintro e w2 ⟨rfl, hw2⟩; rw [hw2]; clear hw2))
        go_roundg (rows - (j + 1))
        case measure => have := HGK.out; omega
        case rel => exact ⟨j + 1, by go_num, by omega, rfl, by rw [HSK.out]; exact HRO.out, HBE.out⟩
      | true =>
        obtain ⟨q, hq, hqj⟩ := begins_of HF.out (rf_val hb.symm hlt)
        have hat := refR_at HF.out hq
        rw [hqj] at hat
        have HNX : Hid (runsTo l (j + 1) = runsTo l j ++ [q]) := by have h := runsTo_next HF.out hq; rw [hqj] at h; exact h
        have HB := hid_mk hb.symm
        have HRF2 : Hid (Calls Tryd.prog 36 #[.pointer (some ⟨r, 0, none⟩), .int .i64 (j : Int)] wr fun e w' => Below wr.heap.size wr w' ∧ e = .returned (.tuple #[.agg #[.int .i64 (j : Int), .int .i64 (q.n : Int), .int .i64 (q.count : Int), .int .u64 (q.tag : Int)], .int .i64 0])) := HRF.out.mono fun e w' ⟨h1, h2⟩ => by
          refine ⟨h1, ?_⟩
          rcases h2 with ⟨h3, _⟩ | ⟨_, h3⟩
          · rw [HB.out] at h3; cases h3
          · rw [Int.toNat_natCast, hat] at h3; exact h3
        obtain ⟨qa, qn, qc, qt, qs⟩ := q
        simp only [] at hqj HRF2
        subst hqj
        clear hb HRF hat
        go_upto_region 7 with (first | (go_at_call 47; refine HBG.out.mono ?_; clear HBG; rintro e w2 ⟨rfl, hw2⟩; rw [hw2]; clear hw2) | (go_at_call 36; refine HRF2.out.mono ?_; clear HRF2; rintro e w3 ⟨hb3, rfl⟩; have HB3 := hid_mk hb3; clear hb3))
        obtain ⟨X, hX⟩ : ∃ X, X = w3.alloc (.cells #[.int .i64 (qa : Int), .int .i64 (qn : Int), .int .i64 (qc : Int), .int .u64 (qt : Int)] 48) := ⟨_, rfl⟩
        rw [← hX]
        have bX : Below wr.heap.size wr X := by rw [hX]; exact HB3.out.alloc HB3.out.size _
        have eX : X.heap[w3.heap.size]? = some (.cells #[.int .i64 (qa : Int), .int .i64 (qn : Int), .int .i64 (qc : Int), .int .u64 (qt : Int)] 48 (0, 0)) := by rw [hX]; exact heap_alloc_new _ _
        have e0 : X.cell? ⟨w3.heap.size, 0, none⟩ = some (.int .i64 (qa : Int)) := by simp [World.cell?, eX]
        have e1 : X.cell? ⟨w3.heap.size, 1, none⟩ = some (.int .i64 (qn : Int)) := by simp [World.cell?, eX]
        have e2 : X.cell? ⟨w3.heap.size, 2, none⟩ = some (.int .i64 (qc : Int)) := by simp [World.cell?, eX]
        have e3 : X.cell? ⟨w3.heap.size, 3, none⟩ = some (.int .u64 (qt : Int)) := by simp [World.cell?, eX]
        obtain ⟨Y, hY⟩ : ∃ Y, Y = X.alloc (.cells #[.int .i64 (qa : Int), .int .i64 (qn : Int), .int .i64 (qc : Int), .int .u64 (qt : Int)] 48) := ⟨_, rfl⟩
        have bY : Below X.heap.size X Y := by rw [hY]; exact Below.alloc (Below.refl _ _) (Nat.le_refl _) _
        have eY : Y.heap[X.heap.size]? = some (.cells #[.int .i64 (qa : Int), .int .i64 (qn : Int), .int .i64 (qc : Int), .int .u64 (qt : Int)] 48 (0, 0)) := by rw [hY]; exact heap_alloc_new _ _
        have HBY : Hid (Below wr.heap.size wr Y) := bX.trans (bY.mono bX.size)
        have HOY := hid_mk (HRO.out.below HBY.out)
        have HNW : Hid (∀ k u, (runv (⟨qa, qn, qc, qt, qs⟩ : Pc)).toList[k]? = some u → Y.cell? (Addr.add ⟨X.heap.size, 0, none⟩ k) = some u) := by
          intro k u hu
          rw [Addr.add_lit]
          simp only [World.cell?, eY, Nat.zero_add]
          simpa [runv] using hu
        have HWB : Hid (w.heap.size ≤ Y.heap.size) := Nat.le_trans HBE.out.size HBY.out.size
        clear hX bX eX bY eY
        subst hY
        go_wp2_with (at_builtin; refine wpList_app rfl _ _ 43 rfl w.heap.size 48 i0 (.agg #[.int .i64 0, .int .i64 0, .int .i64 0, .int .u64 0]) 4 32 Tryd.underlying43 HI0.out HZ0.out HZ1.out HZ2.out rfl (by decide) _ (runsTo l qa).length ((runsTo l qa).flatMap fun x => (runv x).toList) rfl HOY.out ⟨X.heap.size, 0, none⟩ 1 1 (runv (⟨qa, qn, qc, qt, qs⟩ : Pc)).toList rfl rfl HNW.out (by simp [runv, Value.oneCell']) (by decide) (by rw [← HN.out]; unfold maxLen; omega) (by rw [← HN.out]; omega) HWB.out ?_; intro v2 w2 h1 h2; have H1 := hid_mk h1; have H2 := hid_mk h2; clear h1 h2)
        go_roundg (rows - (qa + 1))
        case measure => have := HGK.out; omega
        case rel =>
          refine ⟨qa + 1, by go_num, by omega, rfl, ?_, ?_⟩
          · rw [HNX.out]
            unfold ROwns
            rw [List.length_append, List.flatMap_append, List.flatMap_singleton]
            exact H1.out
          · refine HBE.out.trans ((HBY.out.mono HBE.out.size).trans (H2.out.kept.below HWB.out fun k hk e => ?_))
            have := HRO.out.base k e
            omega
    · obtain rfl : j = rows := by omega
      go_wp2_with fail
      go_ret
      have h := HRO.out
      rw [runsTo_all HF.out] at h
      exact ⟨_, rfl, h, HBE.out⟩
end Go.Proofs.YtcpdnalmoaojlaaDoor

/-
  The document's Copy.
-/
namespace Go.Proofs.YtcpdnalmoaojlaaDoor
open Go.RowKit Go.Shelf
set_option linter.unusedVariables false
set_option linter.unusedSimpArgs false

theorem QOwns.cells {w : World} {g cp rows : Nat} {f : Nat → RR} (h : QOwns w (.slice (some ⟨g, 0, none⟩) rows cp) rows f) : ∀ k u, (rowsV rows f)[k]? = some u → w.cell? (Addr.add ⟨g, 0, none⟩ k) = some u := by
  intro k u hu
  rcases h.2 with ⟨h1, _⟩ | ⟨g', c, cur, h1, h4, h5, h6, h7, h8, h9⟩
  · simp at h1
  · simp at h1
    obtain ⟨rfl, rfl⟩ := h1
    rw [Addr.add_lit]
    have hk : k < rows * 6 := by
      rcases Nat.lt_or_ge k (rows * 6) with h | h
      · exact h
      · rw [List.getElem?_eq_none (by rw [rowsV_length]; omega)] at hu; cases hu
    rw [← h9, List.getElem?_take_of_lt hk] at hu
    simp only [World.cell?, h5, Nat.zero_add]
    simpa using hu
theorem rowsV_one (rows : Nat) (f : Nat → RR) : ∀ u ∈ rowsV rows f, u.oneCell' = true := by
  intro u hu
  unfold rowsV at hu
  obtain ⟨i, _, hi⟩ := List.mem_flatMap.1 hu
  simp [rrv] at hi
  rcases hi with rfl | rfl | rfl | rfl | rfl | rfl <;> rfl
theorem q_of {w : World} {B rows : Nat} {v : Value} {f : Nat → RR} (h : w.ownsRow B 89 6 v (0 + rows) ([] ++ rowsV rows f)) : QOwns w v rows f ∧ ∀ k, own v k → B ≤ k := by
  rw [Nat.zero_add, List.nil_append] at h
  refine ⟨⟨h.1, ?_⟩, fun k hk => ?_⟩
  · rcases h.2 with h2 | ⟨g, c, cur, h3, h4, h5⟩
    · exact .inl h2
    · exact .inr ⟨g, c, cur, h3, Nat.zero_le _, h5⟩
  · rcases h.2 with ⟨rfl, _⟩ | ⟨g, c, cur, rfl, h4, _⟩
    · simp [own, Value.ownBlock] at hk
    · have : g = k := by simpa [own, Value.ownBlock] using hk
      omega
theorem own_slice {a k n c : Nat} (h : own (.slice (some ⟨a, 0, none⟩) n c) k) : a = k := by simpa [own, Value.ownBlock] using h
set_option maxRecDepth 100000 in
set_option maxHeartbeats 4000000 in
theorem rcopy_any (r rows : Nat) (v : Value) (f : Nat → RR) (w : World) (hR : RfAt w r v rows f) (hr : rows ≤ 1073741824) :
    Calls Tryd.prog 31 #[.pointer (some ⟨r, 0, none⟩)] w fun e w' => ∃ r' v', e = .returned (.pointer (some ⟨r', 0, none⟩)) ∧ w.heap.size ≤ r' ∧ (∀ k, own v' k → w.heap.size ≤ k) ∧ RfAt w' r' v' rows f ∧ Below w.heap.size w w' := by
  obtain ⟨i0, hi, hz0, hz1, hz2⟩ := info_parts infoRow
  have HI0 := hid_mk hi
  have HZ0 := hid_mk hz0
  have HZ1 := hid_mk hz1
  have HZ2 := hid_mk hz2
  clear hi hz0 hz1 hz2
  obtain ⟨V, hV⟩ : ∃ V, V = w.alloc (.cells #[] 89) := ⟨_, rfl⟩
  have bV : Below w.heap.size w V := by rw [hV]; exact Below.alloc (Below.refl _ _) (Nat.le_refl _) _
  have eV : V.heap[w.heap.size]? = some (.cells #[] 89 (0, 0)) := by rw [hV]; exact heap_alloc_new _ _
  have HRV := hid_mk (hR.below bV)
  have c0 := HRV.out.cell
  have hs : V.heap.size = w.heap.size + 1 := by rw [hV]; simp
  have HO : Hid (V.ownsRow w.heap.size 89 6 (.slice (some ⟨w.heap.size, 0, none⟩) 0 0) 0 []) := ⟨rfl, .inr ⟨w.heap.size, 0, #[], rfl, Nat.le_refl _, eV, Nat.le_refl _, by unfold maxLen; omega, rfl, rfl⟩⟩
  have HBV := hid_mk bV
  have HSV := hid_mk hs
  clear hR bV eV hs
  obtain ⟨ao, cp, rfl⟩ := HRV.out.rows.form
  subst hV
  by_cases h0 : rows = 0
  · subst h0
    cases ao with
    | none =>
      go_enter Tryd.func31, Tryd.ntmps31
      go_wp2_with fail
      go_ret
      have e1 : ((w.alloc (.cells #[] 89)).alloc (.cells #[.slice (some ⟨w.heap.size, 0, none⟩) 0 0] 67)).heap[w.heap.size + 1]? = some (.cells #[.slice (some ⟨w.heap.size, 0, none⟩) 0 0] 67 (0, 0)) := by
        have h := heap_alloc_new (w.alloc (.cells #[] 89)) (.cells #[.slice (some ⟨w.heap.size, 0, none⟩) 0 0] 67)
        simpa using h
      have hb : Below (w.alloc (.cells #[] 89)).heap.size (w.alloc (.cells #[] 89)) ((w.alloc (.cells #[] 89)).alloc (.cells #[.slice (some ⟨w.heap.size, 0, none⟩) 0 0] 67)) := Below.alloc (Below.refl _ _) (Nat.le_refl _) _
      have hq : QOwns (w.alloc (.cells #[] 89)) (.slice (some ⟨w.heap.size, 0, none⟩) 0 0) 0 f := (q_of (B := w.heap.size) HO.out).1
      exact ⟨w.heap.size + 1, _, rfl, by omega, fun k hk => by have := own_slice hk; omega, ⟨e1, hq.below hb⟩, HBV.out.trans (hb.mono HBV.out.size)⟩
    | some a =>
      go_enter Tryd.func31, Tryd.ntmps31
      go_wp2_with fail
      go_ret
      have e1 : ((w.alloc (.cells #[] 89)).alloc (.cells #[.slice (some ⟨w.heap.size, 0, none⟩) 0 0] 67)).heap[w.heap.size + 1]? = some (.cells #[.slice (some ⟨w.heap.size, 0, none⟩) 0 0] 67 (0, 0)) := by
        have h := heap_alloc_new (w.alloc (.cells #[] 89)) (.cells #[.slice (some ⟨w.heap.size, 0, none⟩) 0 0] 67)
        simpa using h
      have hb : Below (w.alloc (.cells #[] 89)).heap.size (w.alloc (.cells #[] 89)) ((w.alloc (.cells #[] 89)).alloc (.cells #[.slice (some ⟨w.heap.size, 0, none⟩) 0 0] 67)) := Below.alloc (Below.refl _ _) (Nat.le_refl _) _
      have hq : QOwns (w.alloc (.cells #[] 89)) (.slice (some ⟨w.heap.size, 0, none⟩) 0 0) 0 f := (q_of (B := w.heap.size) HO.out).1
      exact ⟨w.heap.size + 1, _, rfl, by omega, fun k hk => by have := own_slice hk; omega, ⟨e1, hq.below hb⟩, HBV.out.trans (hb.mono HBV.out.size)⟩
  · obtain ⟨g, cp', cur, hv, hg, hcp, hrow⟩ := HRV.out.rows.at (by omega)
    obtain ⟨rfl, rfl⟩ : ao = some ⟨g, 0, none⟩ ∧ cp = cp' := by simp at hv; exact hv
    clear hv hrow hg
    have h0' : 0 < rows := by omega
    go_enter Tryd.func31, Tryd.ntmps31
    go_wp2_with (at_builtin; refine wpList_app rfl _ _ 65 rfl w.heap.size 89 i0 (.agg #[.int .i64 0, .bool false, .int .i64 0, .int .i64 0, .int .u64 0, .bool false]) 6 48 Tryd.underlying65 HI0.out HZ0.out HZ1.out HZ2.out rfl (by decide) _ 0 [] rfl HO.out ⟨g, 0, none⟩ rows cp (rowsV rows f) rfl (rowsV_length _ _) HRV.out.rows.cells (rowsV_one _ _) h0' (by unfold maxLen; omega) (by omega) HBV.out.size ?_; intro v2 w2 h1 h2; obtain ⟨hq2, ho2⟩ := q_of h1; obtain ⟨ao2, cp2, hv2⟩ := hq2.form; subst hv2; have HQ2 := hid_mk hq2; have HO2 := hid_mk ho2; have H2 := hid_mk h2; clear h1 h2 hq2 ho2)
    go_ret
    have hbV : Below w.heap.size w w2 := HBV.out.trans (H2.out.kept.below HBV.out.size fun k hk e => by have := own_slice e; omega)
    have hb : Below w2.heap.size w2 (w2.alloc (.cells #[.slice ao2 rows cp2] 67)) := Below.alloc (Below.refl _ _) (Nat.le_refl _) _
    exact ⟨w2.heap.size, _, rfl, hbV.size, HO2.out, ⟨heap_alloc_new _ _, HQ2.out.below hb⟩, hbV.trans (hb.mono hbV.size)⟩
end Go.Proofs.YtcpdnalmoaojlaaDoor
