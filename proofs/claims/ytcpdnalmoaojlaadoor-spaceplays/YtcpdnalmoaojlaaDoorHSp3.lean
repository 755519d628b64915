import Derived.Test.YtcpdnalmoaojlaaDoorHSp2
import Derived.Test.YtcpdnalmoaojlaaDoorHSp1
import Derived.Deep.RegionHeld3
import Derived.Laws.Cover1
import Derived.RangeFuncNested
import Derived.RangeFuncBound
import Derived.RangeFuncCalls
import Derived.RangeFuncLeaves
import Derived.Shelf.Abstract
import Derived.Shelf.RegionOpen
import Derived.OwnWalkIn
import Derived.TacticsInMore
import Derived.LoopNIn
import Derived.LoopIn

/-
  tie, whatever lies ahead and behind.
-/
namespace Go.Proofs.YtcpdnalmoaojlaaDoor
open Go.ChangeShapes Go.WideShapes Go.ChangeAt Go.RowKit
set_option linter.unusedVariables false

/-- What a call leaves that makes a list. -/
def KPost (w : World) (l : List Pc) (e : Ending) (w' : World) : Prop := ∃ p, e = .returned (.pointer p) ∧ KT w' p l ∧ Below w.heap.size w w'
theorem KPost.of_tie {w : World} {x : Pc} {pl pr : Option Addr} {d f e : Nat} {wd : Int} {la lr : List Pc} {ev : Ending} {w' : World} (h : TieW w x pl pr d f e wd ev w') (hl : KT w pl la) (hr : KT w pr lr) (hf : f = fstL (la ++ x :: lr)) (he : e = lstL (la ++ x :: lr)) (hk : KnOk (la ++ x :: lr) d wd) : KPost w (la ++ x :: lr) ev w' := by
  obtain ⟨g, h1, h2, h3, h4⟩ := h
  subst hf he
  exact ⟨_, h1, KT.node h3 hk (hl.below h4) (hr.below h4), h4⟩
theorem tie_any (pl pr : Option Addr) (la lr : List Pc) (x : Pc) (a b : Nat) (w : World) (hl : KT w pl la) (hr : KT w pr lr) (hf : Fits a (la ++ x :: lr) b) (hb : b ≤ 1073741824) : Calls Tryd.prog 69 #[.pointer pl, .agg (pcv x), .pointer pr] w (KPost w (la ++ x :: lr)) := by
  obtain ⟨f1, f2, f3⟩ := fits_cut.1 hf
  have hst : x.stop ≤ 1073741824 := Nat.le_trans f3.le hb
  have hlen := fits_len hf
  have hll := fits_len f1
  have hlr := fits_len f3
  have hsp : x.stop = x.at' + x.n := rfl
  rw [List.length_append, List.length_cons] at hlen
  have hcase : ∀ (p : Option Addr) (l : List Pc), KT w p l → (p = none ∧ l = []) ∨ ∃ b d wd, p = some ⟨b, 0, none⟩ ∧ l ≠ [] ∧ KnOk l d wd ∧ w.cell? ⟨b, 7, none⟩ = some (.int .i64 (d : Int)) ∧ w.cell? ⟨b, 8, none⟩ = some (.int .i64 (fstL l : Int)) ∧ w.cell? ⟨b, 9, none⟩ = some (.int .i64 (lstL l : Int)) ∧ w.cell? ⟨b, 10, none⟩ = some (.int .i64 wd) ∧ b < w.heap.size := by
    intro p l h
    cases p with
    | none => exact .inl ⟨rfl, h.of_none⟩
    | some p =>
      obtain ⟨b, pl, pr, la, x, lr, d, wd, rfl, h2, h3, h4, _⟩ := h.of_some
      obtain ⟨_, _, _, _, _, _, _, c7, c8, c9, c10⟩ := kn_cells h3
      exact .inr ⟨b, d, wd, rfl, by rw [h2]; simp, h4, c7, c8, c9, c10, (Array.getElem?_eq_some_iff.1 h3).1⟩
  rcases hcase pl la hl with ⟨rfl, rfl⟩ | ⟨b1, d1, v1, rfl, n1, k1, c7, c8, c9, c10, hb1⟩
  · rcases hcase pr lr hr with ⟨rfl, rfl⟩ | ⟨b2, d2, v2, rfl, n2, k2, e7, e8, e9, e10, hb2⟩
    · refine (tie_nn x w hst).mono fun e w' h => KPost.of_tie h hl hr rfl rfl ⟨Nat.le_refl _, by simp, Int.le_refl _, by omega, ?_⟩
      exact wide_join (wide_nil 0) (wide_nil 0) (fun h => absurd rfl h) (fun h => absurd rfl h)
    · obtain ⟨g1, g2, g3⟩ := fits_ends n2 f3
      have hd := k2.dl
      have hw := k2.w1
      have hw0 := k2.w0
      refine (tie_nk x w hst b2 _ _ d2 v2 e7 e8 e9 e10 hb2 (by omega) (by omega) k2.w0 k2.w1 k2.d1 (by omega)).mono fun e w' h => KPost.of_tie h hl hr rfl ?_ ⟨by omega, by simp; omega, by omega, by omega, ?_⟩
      · rw [lstL_app _ _ (by simp)]
        cases lr with
        | nil => exact absurd rfl n2
        | cons q lr => rfl
      · exact wide_join (wide_nil 0) k2.wide (fun h => absurd rfl h) (fun _ => ⟨by omega, by omega⟩)
  · obtain ⟨u1, u2, u3⟩ := fits_ends n1 f1
    have hd1 := k1.dl
    have hv1 := k1.w1
    have hv0 := k1.w0
    rcases hcase pr lr hr with ⟨rfl, rfl⟩ | ⟨b2, d2, v2, rfl, n2, k2, e7, e8, e9, e10, hb2⟩
    · refine (tie_kn x w hst b1 _ _ d1 v1 c7 c8 c9 c10 hb1 (by omega) (by omega) k1.w0 k1.w1 k1.d1 (by omega)).mono fun e w' h => KPost.of_tie h hl hr (fstL_app _ _ n1).symm ?_ ⟨by omega, by simp; omega, by omega, by omega, ?_⟩
      · rw [lstL_end]
      · exact wide_join k1.wide (wide_nil 0) (fun _ => ⟨by omega, by omega⟩) (fun h => absurd rfl h)
    · obtain ⟨g1, g2, g3⟩ := fits_ends n2 f3
      have hd := k2.dl
      have hw := k2.w1
      have hw0 := k2.w0
      refine (tie_kk x w hst b1 _ _ d1 v1 c7 c8 c9 c10 hb1 (by omega) (by omega) k1.w0 k1.w1 k1.d1 (by omega) b2 _ _ d2 v2 e7 e8 e9 e10 hb2 (by omega) (by omega) k2.w0 k2.w1 k2.d1 (by omega)).mono fun e w' h => KPost.of_tie h hl hr (fstL_app _ _ n1).symm ?_ ⟨by omega, by simp; omega, by omega, by omega, ?_⟩
      · rw [lstL_app _ _ (by simp)]
        cases lr with
        | nil => exact absurd rfl n2
        | cons q lr => rfl
      · exact wide_join k1.wide k2.wide (fun _ => ⟨by omega, by omega⟩) (fun _ => ⟨by omega, by omega⟩)
end Go.Proofs.YtcpdnalmoaojlaaDoor

/-
  gap: the first free rows.
-/
namespace Go.Proofs.YtcpdnalmoaojlaaDoor
open Go.ChangeShapes Go.WideShapes Go.ChangeAt Go.RowKit
set_option linter.unusedVariables false
set_option linter.unusedSimpArgs false

def GapPost (w : World) (r : Int) (e : Ending) (w' : World) : Prop := e = .returned (.int .i64 r) ∧ Below w.heap.size w w'
theorem drewN_below' (B : Nat) (w : World) (n : Nat) : Below B w (w.drewN n) := ⟨rfl, rfl, rfl, Nat.le_refl _, fun _ _ => rfl⟩
theorem gapL_lo {l : List Pc} {n a b : Nat} (hf : Fits a l b) : -1 ≤ gapL l n a b ∧ gapL l n a b ≤ (b : Int) := by
  induction l generalizing a with
  | nil => have h : a ≤ b := hf; simp only [gapL]; split <;> omega
  | cons p l ih =>
    have h1 := hf.1
    have h2 := ih hf.2.2
    have h3 := hf.2.2.le
    unfold Pc.stop at h3
    simp only [gapL]
    split <;> omega
set_option maxRecDepth 100000 in
set_option maxHeartbeats 4000000 in
theorem gap_any (k : Nat) : ∀ (p : Option Addr) (l : List Pc) (n a b : Nat) (w : World), KD w k p l → Fits a l b → b ≤ 1073741824 → n ≤ 9223372036854775807 → Calls Tryd.prog 56 #[.pointer p, .int .i64 (n : Int), .int .i64 (a : Int), .int .i64 (b : Int)] w (GapPost w (gapL l n a b)) := by
  have none_case : ∀ (n a b : Nat) (w : World), a ≤ b → b ≤ 1073741824 → n ≤ 9223372036854775807 → Calls Tryd.prog 56 #[.pointer none, .int .i64 (n : Int), .int .i64 (a : Int), .int .i64 (b : Int)] w (GapPost w (gapL [] n a b)) := by
    intro n a b w hab hb hn
    by_cases h : (n : Int) > (b : Int) - (a : Int)
    · have e : gapL [] n a b = -1 := by simp only [gapL]; rw [if_pos h]
      rw [e]
      have h' : (b : Int) - (a : Int) < (n : Int) := h
      go_enter Tryd.func56, Tryd.ntmps56
      go_wp2_with fail
      go_ret
      exact ⟨rfl, Below.refl _ _⟩
    · have e : gapL [] n a b = (a : Int) := by simp only [gapL]; rw [if_neg h]
      rw [e]
      have h' : ¬ (b : Int) - (a : Int) < (n : Int) := h
      go_enter Tryd.func56, Tryd.ntmps56
      go_wp2_with fail
      go_ret
      exact ⟨rfl, Below.refl _ _⟩
  induction k with
  | zero =>
    rintro p l n a b w ⟨rfl, rfl⟩ hf hb hn
    exact none_case n a b w hf hb hn
  | succ k ih =>
    rintro p l n a b w (⟨rfl, rfl⟩ | ⟨g, pl, pr, la, x, lr, d, wd, rfl, rfl, hg, hk, hl, hr⟩) hf hb hn
    · exact none_case n a b w hf hb hn
    · obtain ⟨c0, c1, c2, c3, c4, c5, c6, c7, c8, c9, c10⟩ := kn_cells hg
      have hgl := (Array.getElem?_eq_some_iff.1 hg).1
      obtain ⟨f1, f2, f3⟩ := fits_cut.1 hf
      have hne : la ++ x :: lr ≠ [] := by simp
      obtain ⟨u1, u2, u3⟩ := fits_ends hne hf
      have hw0 := hk.w0
      have hw1 := hk.w1
      have hle := f3.le
      have hxs : x.stop = x.at' + x.n := rfl
      have hst : x.stop ≤ 1073741824 := by omega
      have hla := f1.le
      have PR := hid_mk (fun h1 h2 h3 => gapL_prune (n := n) hf hne hk.wide h1 h2 h3)
      have GA := hid_mk (gapL_append la lr x n a b)
      have HL : Hid (∀ W, Below w.heap.size w W → Calls Tryd.prog 56 #[.pointer pl, .int .i64 (n : Int), .int .i64 (a : Int), .int .i64 (x.at' : Int)] W (GapPost W (gapL la n a x.at'))) := fun W hW => ih pl la n a x.at' W (KD.keep (fun b cur e => hW.block b (Array.getElem?_eq_some_iff.1 e).1) k _ _ hl) f1 (by omega) hn
      have HC : Hid (∀ W, Below w.heap.size w W → W.cell? ⟨g, 0, none⟩ = some (.int .i64 (x.at' : Int)) ∧ W.cell? ⟨g, 1, none⟩ = some (.int .i64 (x.n : Int)) ∧ W.cell? ⟨g, 2, none⟩ = some (.int .i64 (x.count : Int)) ∧ W.cell? ⟨g, 3, none⟩ = some (.int .u64 (x.tag : Int)) ∧ W.cell? ⟨g, 4, none⟩ = some (.int .u8 (x.st : Int)) ∧ W.cell? ⟨g, 5, none⟩ = some (.pointer pl) ∧ W.cell? ⟨g, 6, none⟩ = some (.pointer pr) ∧ g < W.heap.size) := fun W hW => by
        have key : ∀ i, W.cell? ⟨g, i, none⟩ = w.cell? ⟨g, i, none⟩ := fun i => hW.cell (p := ⟨g, i, none⟩) hgl
        exact ⟨(key 0).trans c0, (key 1).trans c1, (key 2).trans c2, (key 3).trans c3, (key 4).trans c4, (key 5).trans c5, (key 6).trans c6, Nat.lt_of_lt_of_le hgl hW.size⟩
      have HR : Hid (∀ W, Below w.heap.size w W → Calls Tryd.prog 56 #[.pointer pr, .int .i64 (n : Int), .int .i64 (x.stop : Int), .int .i64 (b : Int)] W (GapPost W (gapL lr n x.stop b))) := fun W hW => ih pr lr n x.stop b W (KD.keep (fun b cur e => hW.block b (Array.getElem?_eq_some_iff.1 e).1) k _ _ hr) f3 hb hn
      have HE : Hid (∀ W : World, Calls Tryd.prog 64 #[.agg (pcv x)] W fun e w' => e = .returned (.int .i64 (x.stop : Int)) ∧ w' = W.alloc (.cells (pcv x) 103)) := fun W => end_any x W hst
      have lo1 := gapL_lo (n := n) f1
      clear ih none_case hl hr hg hk hf
      obtain ⟨fs, hfs⟩ : ∃ fs, fs = fstL (la ++ x :: lr) := ⟨_, rfl⟩
      obtain ⟨ls, hls⟩ : ∃ ls, ls = lstL (la ++ x :: lr) := ⟨_, rfl⟩
      obtain ⟨q, hq⟩ : ∃ q, q = gapL (la ++ x :: lr) n a b := ⟨_, rfl⟩
      obtain ⟨ql, hql⟩ : ∃ ql, ql = gapL la n a x.at' := ⟨_, rfl⟩
      obtain ⟨qr, hqr⟩ : ∃ qr, qr = gapL lr n x.stop b := ⟨_, rfl⟩
      rw [← hfs] at c8 u1 u2 PR
      rw [← hls] at c9 u2 u3 PR
      rw [← hq] at PR GA ⊢
      rw [← hql] at GA HL lo1
      rw [← hqr] at GA HR
      clear hfs hls hq hql hqr
      unfold pcv at HE
      obtain ⟨st, hst'⟩ : ∃ st, st = x.stop := ⟨_, rfl⟩
      rw [← hst'] at HE HR
      clear hst' hne
      by_cases hp : (n : Int) > max (max wd ((fs : Int) - (a : Int))) ((b : Int) - (ls : Int))
      · have e : q = -1 := PR.out (by omega) (by omega) (by omega)
        subst e
        clear PR GA HL HR HE
        have hp' : (if (if wd < (fs : Int) - (a : Int) then (fs : Int) - (a : Int) else wd) < (b : Int) - (ls : Int) then (b : Int) - (ls : Int) else if wd < (fs : Int) - (a : Int) then (fs : Int) - (a : Int) else wd) < (n : Int) := by
          repeat' split
          all_goals omega
        clear hp HC
        go_enter Tryd.func56, Tryd.ntmps56
        go_wp2_with fail
        go_quiet (fail)
        go_wp2_with fail
        all_goals
          go_ret
          exact ⟨rfl, drewN_below' _ _ _⟩
      · have hp' : ¬ (if (if wd < (fs : Int) - (a : Int) then (fs : Int) - (a : Int) else wd) < (b : Int) - (ls : Int) then (b : Int) - (ls : Int) else if wd < (fs : Int) - (a : Int) then (fs : Int) - (a : Int) else wd) < (n : Int) := by
          repeat' split
          all_goals omega
        clear hp PR
        go_enter Tryd.func56, Tryd.ntmps56
        go_wp2_with fail
        go_quiet (fail)
        go_wp2_with fail
        all_goals
          obtain ⟨V, hV⟩ : ∃ V, V = w.drewN nq := ⟨_, rfl⟩
          rw [← hV]
          have HV : Hid (Below w.heap.size w V) := by show Below _ _ _; rw [hV]; exact drewN_below' _ _ _
          clear hV
          obtain ⟨v0, v1, v2, v3, v4, v5, v6, v7⟩ := HC.out V HV.out
          go_region_held3 (fun w' => w'.cell? ⟨g, 5, none⟩ = some (.pointer pl) ∧ w'.cell? ⟨g, 0, none⟩ = some (.int .i64 (x.at' : Int))) (simp [*]) (first | (go_at_call 56; refine (HL.out _ (Below.drew HV.out)).mono ?_; rintro e w2 ⟨rfl, hb2⟩; have HB2 : Hid (Below w.heap.size w w2) := (Below.drew HV.out).trans (hb2.mono HV.out.size); obtain ⟨y0, y1, y2, y3, y4, y5, y6, y7⟩ := HC.out w2 HB2.out; clear hb2))
          by_cases hq : 0 ≤ ql
          · have e : q = ql := by have h := GA.out; rw [if_pos hq] at h; exact h
            have HEQ := hid_mk e
            clear e
            go_wp2_with fail
            go_ret
            exact ⟨by rw [HEQ.out]; rfl, HB2.out⟩
          · have e : q = qr := by have h := GA.out; rw [if_neg hq] at h; exact h
            have HEQ := hid_mk e
            clear e
            go_wp2_with fail
            go_region_held3 (fun w' => w'.cell? ⟨g, 0, none⟩ = some (.int .i64 (x.at' : Int)) ∧ w'.cell? ⟨g, 1, none⟩ = some (.int .i64 (x.n : Int)) ∧ w'.cell? ⟨g, 2, none⟩ = some (.int .i64 (x.count : Int)) ∧ w'.cell? ⟨g, 3, none⟩ = some (.int .u64 (x.tag : Int)) ∧ w'.cell? ⟨g, 4, none⟩ = some (.int .u8 (x.st : Int)) ∧ w'.cell? ⟨g, 6, none⟩ = some (.pointer pr)) (simp [*, World.cell?_alloc_at, World.cell?_alloc_past, World.cell?_alloc_some, World.cell?_setCell_far]) (first | (go_at_call 64; refine (HE.out _).mono ?_; rintro e w3 ⟨rfl, rfl⟩) | (go_at_call 56; refine (HR.out _ (HB2.out.trans (Below.alloc (Below.drew (Below.refl _ _)) HB2.out.size _))).mono ?_; rintro e w4 ⟨rfl, hb4⟩; have HB4 : Hid (Below w.heap.size w w4) := (HB2.out.trans (Below.alloc (Below.drew (Below.refl _ _)) HB2.out.size _)).trans (hb4.mono (Nat.le_trans HB2.out.size (by simp))); obtain ⟨z0, z1, z2, z3, z4, z5, z6, z7⟩ := HC.out w4 HB4.out; clear hb4))
            go_wp2_with fail
            go_ret
            exact ⟨by rw [HEQ.out]; rfl, HB4.out⟩
end Go.Proofs.YtcpdnalmoaojlaaDoor

/-
  each: the pieces of a list are handed on, one by one.
-/
namespace Go.Proofs.YtcpdnalmoaojlaaDoor
open Go.RowKit Go.Shelf
set_option linter.unusedVariables false
attribute [local go_sem] Oper.semAt_some

theorem roundAny {m m' : Nat} {P : Program} {l : Nat} {f : FuncId} {tmps : Array Value} {assign body : Code} {w : World} {R : Ending → World → Prop} (h : RoundIn Fence.wide m P l f tmps assign body w R) : RoundIn Fence.wide m' P l f tmps assign body w R := ⟨h.1, fun c cs _ => h.2 c cs (fun d hd => by cases hd)⟩
theorem yieldAny {m : Nat} (m' : Nat) {P : Program} {l : Nat} {args : Array Value} {W : World} {R : Ending → World → Prop} (h : YieldAt Fence.wide m P l args W R) : YieldAt Fence.wide m' P l args W R := by
  obtain ⟨fn, tmps, assign, body, hy, hR⟩ := h
  exact ⟨fn, tmps, assign, body, hy, roundAny hR⟩
set_option maxRecDepth 100000 in
set_option maxHeartbeats 4000000 in
theorem each_in (l N : Nat) (w0 : World) (G : Pc → Prop) (J Jx : List Pc → World → Prop)
    (hY : ∀ m pre x W, G x → J pre W → pre.length < N → YieldAt Fence.wide m Tryd.prog l #[.agg (pcv x)] W fun e W' =>
      (e = .returned (.bool true) ∧ J (pre ++ [x]) W' ∧ Below w0.heap.size W W') ∨ (e = .returned (.bool false) ∧ Jx (pre ++ [x]) W')) (k : Nat) :
    ∀ (n : Nat) (p : Option Addr) (ls pre : List Pc) (W : World), (∀ x ∈ ls, G x) → KD w0 k p ls → Below w0.heap.size w0 W → J pre W → pre.length + ls.length ≤ N →
      CallsIn Fence.wide n Tryd.prog 68 #[.pointer p, .func (.yield l) #[] #[]] W fun e W' =>
        (e = .returned (.bool true) ∧ J (pre ++ ls) W' ∧ Below w0.heap.size w0 W') ∨ (e = .returned (.bool false) ∧ ∃ q, q <+: ls ∧ Jx (pre ++ q) W') := by
  have none_case : ∀ (n : Nat) (pre : List Pc) (W : World), Below w0.heap.size w0 W → J pre W → CallsIn Fence.wide n Tryd.prog 68 #[.pointer none, .func (.yield l) #[] #[]] W fun e W' =>
        (e = .returned (.bool true) ∧ J (pre ++ []) W' ∧ Below w0.heap.size w0 W') ∨ (e = .returned (.bool false) ∧ ∃ q, q <+: [] ∧ Jx (pre ++ q) W') := by
    intro n pre W hb hJ
    refine callsIn_of_wp Tryd.func68 rfl trivial ?_ rfl
    simp only [Tryd.ntmps68, List.size_toArray, List.length_cons, List.length_nil, Nat.reduceAdd, Nat.reduceSub, Array.replicate_succ, Array.replicate_zero, List.push_toArray, List.append_toArray, List.nil_append, List.cons_append]
    gi_wp2
    refine ⟨trivial, ?_⟩
    gi_wp2
    all_goals try (exfalso; have hh := ‹some undef = some (Value.bool _)›; simp [undef] at hh; done)
    all_goals refine ⟨fun _ h => (by cases h), ?_⟩
    all_goals gi_wp2
    all_goals try (exfalso; have hh := ‹some undef = some (Value.bool _)›; simp [undef] at hh; done)
    all_goals refine ⟨trivial, ?_⟩
    all_goals gi_wp2
    all_goals try (exfalso; have hh := ‹some undef = some (Value.bool _)›; simp [undef] at hh; done)
    all_goals go_ret
    all_goals exact .inl ⟨rfl, by simpa using hJ, hb⟩
  induction k with
  | zero =>
    rintro n p ls pre W hG ⟨rfl, rfl⟩ hb hJ hN
    exact none_case n pre W hb hJ
  | succ k ih =>
    rintro n p ls pre W hG (⟨rfl, rfl⟩ | ⟨g, pl, pr, la, x, lr, d, wd, rfl, rfl, hg, hk, hl, hr⟩) hb hJ hN
    · exact none_case n pre W hb hJ
    · have hGx : G x := hG x (by simp)
      have hG1 : ∀ y ∈ la, G y := fun y hy => hG y (by simp [hy])
      have hG2 : ∀ y ∈ lr, G y := fun y hy => hG y (by simp [hy])
      have hgl := (Array.getElem?_eq_some_iff.1 hg).1
      have cells : ∀ V, Below w0.heap.size w0 V → V.cell? ⟨g, 0, none⟩ = some (.int .i64 (x.at' : Int)) ∧ V.cell? ⟨g, 1, none⟩ = some (.int .i64 (x.n : Int)) ∧ V.cell? ⟨g, 2, none⟩ = some (.int .i64 (x.count : Int)) ∧ V.cell? ⟨g, 3, none⟩ = some (.int .u64 (x.tag : Int)) ∧ V.cell? ⟨g, 4, none⟩ = some (.int .u8 (x.st : Int)) ∧ V.cell? ⟨g, 5, none⟩ = some (.pointer pl) ∧ V.cell? ⟨g, 6, none⟩ = some (.pointer pr) := by
        intro V hV
        obtain ⟨c0, c1, c2, c3, c4, c5, c6, _⟩ := kn_cells hg
        have key : ∀ i, V.cell? ⟨g, i, none⟩ = w0.cell? ⟨g, i, none⟩ := fun i => hV.cell (p := ⟨g, i, none⟩) hgl
        exact ⟨(key 0).trans c0, (key 1).trans c1, (key 2).trans c2, (key 3).trans c3, (key 4).trans c4, (key 5).trans c5, (key 6).trans c6⟩
      simp only [List.length_append, List.length_cons] at hN
      obtain ⟨_, _, _, _, _, c5, _⟩ := cells W hb
      have hy2 : ∀ W1, J (pre ++ la) W1 → Below w0.heap.size w0 W1 → YieldAt Fence.wide (n - 1) Tryd.prog l #[.agg (pcv x)] W1 fun e W2 =>
          (e = .returned (.bool true) ∧ J (pre ++ la ++ [x]) W2 ∧ Below w0.heap.size w0 W2 ∧ W2.cell? ⟨g, 6, none⟩ = some (.pointer pr)) ∨ (e = .returned (.bool false) ∧ Jx (pre ++ la ++ [x]) W2) := fun W1 hJ1 hb1 =>
        YieldAt.mono (hY (n - 1) _ x W1 hGx hJ1 (by simp; omega)) fun e W2 h => h.elim
          (fun ⟨he, hj, hb2⟩ => .inl ⟨he, hj, hb1.trans hb2, (cells W2 (hb1.trans hb2)).2.2.2.2.2.2⟩) .inr
      have ih1 := (ih (n - 1) pl la pre W hG1 hl hb hJ (by omega)).mono (R' := fun e W1 =>
          (e = .returned (.bool true) ∧ (W1.cell? ⟨g, 0, none⟩ = some (.int .i64 (x.at' : Int)) ∧ W1.cell? ⟨g, 1, none⟩ = some (.int .i64 (x.n : Int)) ∧ W1.cell? ⟨g, 2, none⟩ = some (.int .i64 (x.count : Int)) ∧ W1.cell? ⟨g, 3, none⟩ = some (.int .u64 (x.tag : Int)) ∧ W1.cell? ⟨g, 4, none⟩ = some (.int .u8 (x.st : Int))) ∧ YieldAt Fence.wide (n - 1) Tryd.prog l #[.agg (pcv x)] W1 fun e W2 =>
            (e = .returned (.bool true) ∧ J (pre ++ la ++ [x]) W2 ∧ Below w0.heap.size w0 W2 ∧ W2.cell? ⟨g, 6, none⟩ = some (.pointer pr)) ∨ (e = .returned (.bool false) ∧ Jx (pre ++ la ++ [x]) W2)) ∨
          (e = .returned (.bool false) ∧ ∃ q, q <+: la ∧ Jx (pre ++ q) W1))
        (fun e W1 h => h.elim (fun ⟨he, hj, hb1⟩ => .inl ⟨he, ⟨(cells W1 hb1).1, (cells W1 hb1).2.1, (cells W1 hb1).2.2.1, (cells W1 hb1).2.2.2.1, (cells W1 hb1).2.2.2.2.1⟩, hy2 W1 hj hb1⟩) .inr)
      have ih3 : ∀ W2, J (pre ++ la ++ [x]) W2 → Below w0.heap.size w0 W2 → CallsIn Fence.wide (n - 1) Tryd.prog 68 #[.pointer pr, .func (.yield l) #[] #[]] W2 fun e W' =>
        (e = .returned (.bool true) ∧ J (pre ++ la ++ [x] ++ lr) W' ∧ Below w0.heap.size w0 W') ∨ (e = .returned (.bool false) ∧ ∃ q, q <+: lr ∧ Jx (pre ++ la ++ [x] ++ q) W') := fun W2 h1 h2 => ih (n - 1) pr lr _ W2 hG2 hr h2 h1 (by simp; omega)
      clear hy2 ih cells none_case hY hl hr hg hk hG hGx hG1 hG2
      unfold pcv at ih1
      refine callsIn_of_wp Tryd.func68 rfl trivial ?_ rfl
      simp only [Tryd.ntmps68, List.size_toArray, List.length_cons, List.length_nil, Nat.reduceAdd, Nat.reduceSub, Array.replicate_succ, Array.replicate_zero, List.push_toArray, List.append_toArray, List.nil_append, List.cons_append]
      gi_wp2_with (first
        | (refine ⟨trivial, ?_⟩; (try refine ⟨fun h => (by cases h), ?_⟩); gi_at_call 68; refine ih1.mono ?_; clear ih1; rintro e W1 (⟨rfl, ⟨d0, d1, d2, d3, d4⟩, fn, tmps, assign, body, hy, hR⟩ | ⟨rfl, q, hq, hx1⟩))
        | ((try refine ⟨fun h => (by cases h), ?_⟩); refine hR.mono ?_; clear hR; rintro e W2 (⟨rfl, hJ2, hb2, c6'⟩ | ⟨rfl, hx2⟩))
        | (refine ⟨trivial, ?_⟩; (try refine ⟨fun h => (by cases h), ?_⟩); gi_at_call 68; refine (ih3 _ hJ2 hb2).mono ?_; clear ih3; rintro e W3 (⟨rfl, hJ3, hb3⟩ | ⟨rfl, q, hq, hx3⟩)))
      · go_ret
        exact .inl ⟨rfl, by simpa [List.append_assoc] using hJ3, hb3⟩
      · go_ret
        obtain ⟨r, hr'⟩ := hq
        exact .inr ⟨rfl, la ++ x :: q, ⟨r, by simp [← hr']⟩, by simpa [List.append_assoc] using hx3⟩
      · refine ⟨trivial, ?_⟩
        gi_wp2
        go_ret
        exact .inr ⟨rfl, la ++ [x], ⟨lr, by simp⟩, by simpa [List.append_assoc] using hx2⟩
      · refine ⟨fun _ h => (by cases h), ?_⟩
        gi_wp2
        refine ⟨trivial, ?_⟩
        gi_wp2
        go_ret
        exact .inr ⟨rfl, q, hq.trans (by simp), hx1⟩
end Go.Proofs.YtcpdnalmoaojlaaDoor

/-
  pieces: a range over the pieces of a space.
-/
namespace Go.Proofs.YtcpdnalmoaojlaaDoor
open Go.RowKit Go.Shelf
set_option linter.unusedVariables false
attribute [local go_sem] Oper.semAt_some

set_option maxHeartbeats 1000000 in
theorem pieces1_in (n l Bt bs : Nat) (p0 : Option Addr) (ls : List Pc) (w0 : World) (G : Pc → Prop) (hG : ∀ x ∈ ls, G x) (J Jx : List Pc → World → Prop)
    (hY : ∀ pre x W, G x → J pre W → pre.length < ls.length → YieldAt Fence.wide (n - 1) Tryd.prog l #[.agg (pcv x)] W fun e W' =>
      (e = .returned (.bool true) ∧ J (pre ++ [x]) W' ∧ Below w0.heap.size W W') ∨ (e = .returned (.bool false) ∧ Jx (pre ++ [x]) W'))
    (W : World) (hBt : W.cell? ⟨Bt, 0, none⟩ = some (.pointer (some ⟨bs, 0, none⟩))) (hbs : W.cell? ⟨bs, 3, none⟩ = some (.pointer p0)) (hT : KT w0 p0 ls) (hb : Below w0.heap.size w0 W) (h0 : J [] W) :
    CallsIn Fence.wide n Tryd.prog 67 #[.func (.yield l) #[] #[], .pointer (some ⟨Bt, 0, none⟩)] W fun e W' => (∃ v, e = .returned v) ∧
      ((∃ ys, ys = ls ∧ J ys W') ∨ (∃ pre, pre <+: ls ∧ Jx pre W')) := by
  obtain ⟨k, hk⟩ := hT
  have hp := each_in l ls.length w0 G J Jx (fun m pre x W hg hj hl => yieldAny m (hY pre x W hg hj hl)) k (n - 1) p0 ls [] W hG hk hb h0 (by simp)
  clear hY hk hG
  refine callsIn_of_wp Tryd.func67 rfl trivial ?_ rfl
  simp only [Tryd.ntmps67, List.size_toArray, List.length_cons, List.length_nil, Nat.reduceAdd, Nat.reduceSub, Array.replicate_succ, Array.replicate_zero, List.push_toArray, List.append_toArray, List.nil_append, List.cons_append]
  gi_wp2_with (refine ⟨trivial, ?_⟩; (try refine ⟨fun h => (by cases h), ?_⟩); gi_at_call 68; refine hp.mono ?_; clear hp; rintro e W1 (⟨rfl, hJ1, _⟩ | ⟨rfl, q, hq, hx⟩))
  · go_end0
    exact ⟨⟨_, rfl⟩, .inl ⟨_, rfl, by simpa using hJ1⟩⟩
  · go_end0
    exact ⟨⟨_, rfl⟩, .inr ⟨q, hq, by simpa using hx⟩⟩
set_option maxHeartbeats 1000000 in
theorem pieces_in (n : Nat) (s : Option Addr) (w : World) :
    CallsIn Fence.wide n Tryd.prog 55 #[.pointer s] w fun e w' => e = .returned (.func (.func 67) #[] #[.pointer (some ⟨w.heap.size, 0, none⟩)]) ∧ w' = w.alloc (.cells #[.pointer s] 24) := by
  refine callsIn_of_wp Tryd.func55 rfl trivial ?_ rfl
  simp only [Tryd.ntmps55, List.size_toArray, List.length_cons, List.length_nil, Nat.reduceAdd, Nat.reduceSub, Array.replicate_succ, Array.replicate_zero, List.push_toArray, List.append_toArray, List.nil_append, List.cons_append]
  gi_wp2
  go_ret
  exact ⟨rfl, rfl⟩
/-- What pieces hands back, gone over: at a loop that leaves what lay ahead of it. -/
theorem pieces_stops (n Bt bs : Nat) (p0 : Option Addr) (ls : List Pc) (w0 w : World) (hBt : Bt < w.heap.size) (hbl : bs < w.heap.size) (hc : w.cell? ⟨Bt, 0, none⟩ = some (.pointer (some ⟨bs, 0, none⟩))) (hs : w.cell? ⟨bs, 3, none⟩ = some (.pointer p0)) (hT : KT w0 p0 ls) (hb : Below w0.heap.size w0 w) :
    SeqStopsK Fence.wide n Tryd.prog 67 #[.pointer (some ⟨Bt, 0, none⟩)] (fun x : Pc => #[Value.agg (pcv x)]) (Below w0.heap.size) (fun ys => ys = ls) (fun pre => pre <+: ls) ls.length w := fun l J Jx W hW _ _ hY h0 =>
  pieces1_in n l Bt bs p0 ls w0 (fun _ => True) (fun _ _ => trivial) J Jx (fun pre x W _ => hY pre x W) W ((hW.cell (p := ⟨Bt, 0, none⟩) hBt).trans hc) ((hW.cell (p := ⟨bs, 3, none⟩) hbl).trans hs) hT (hb.trans (hW.mono hb.size)) h0
end Go.Proofs.YtcpdnalmoaojlaaDoor
