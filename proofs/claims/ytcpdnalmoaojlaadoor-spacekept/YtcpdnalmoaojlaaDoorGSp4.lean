import Derived.Test.YtcpdnalmoaojlaaDoorGSp1
import Derived.Deep.RegionHeld3
import Derived.Laws.Cover1

/-
  gap: the first free rows.
-/
namespace Go.Proofs.YtcpdnalmoaojlaaDoor
open Go.ChangeShapes Go.WideShapes Go.ChangeAt Go.RowKit
set_option linter.unusedVariables false
set_option linter.unusedSimpArgs false

def GapPost (w : World) (r : Int) (e : Ending) (w' : World) : Prop := e = .returned (.int .i64 r) ∧ Below w.heap.size w w'
theorem drewN_below' (B : Nat) (w : World) (n : Nat) : Below B w (w.drewN n) := ⟨rfl, rfl, rfl, Nat.le_refl _, fun _ _ => rfl⟩
theorem gapL_lo {l : List Pc} {n a b : Nat} (hf : Fits a l b) : -1 ≤ gapL l n a b ∧ gapL l n a b ≤ (b : Int) := by
  induction l generalizing a with
  | nil => have h : a ≤ b := hf; simp only [gapL]; split <;> omega
  | cons p l ih =>
    have h1 := hf.1
    have h2 := ih hf.2.2
    have h3 := hf.2.2.le
    unfold Pc.stop at h3
    simp only [gapL]
    split <;> omega
set_option maxRecDepth 100000 in
set_option maxHeartbeats 4000000 in
theorem gap_any (k : Nat) : ∀ (p : Option Addr) (l : List Pc) (n a b : Nat) (w : World), KD w k p l → Fits a l b → b ≤ 1073741824 → n ≤ 4611686018427387904 → Calls Tryd.prog 56 #[.pointer p, .int .i64 (n : Int), .int .i64 (a : Int), .int .i64 (b : Int)] w (GapPost w (gapL l n a b)) := by
  have none_case : ∀ (n a b : Nat) (w : World), a ≤ b → b ≤ 1073741824 → n ≤ 4611686018427387904 → Calls Tryd.prog 56 #[.pointer none, .int .i64 (n : Int), .int .i64 (a : Int), .int .i64 (b : Int)] w (GapPost w (gapL [] n a b)) := by
    intro n a b w hab hb hn
    by_cases h : (n : Int) > (b : Int) - (a : Int)
    · have e : gapL [] n a b = -1 := by simp only [gapL]; rw [if_pos h]
      rw [e]
      have h' : (b : Int) - (a : Int) < (n : Int) := h
      go_enter Tryd.func56, Tryd.ntmps56
      go_wp2_with fail
      go_ret
      exact ⟨rfl, Below.refl _ _⟩
    · have e : gapL [] n a b = (a : Int) := by simp only [gapL]; rw [if_neg h]
      rw [e]
      have h' : ¬ (b : Int) - (a : Int) < (n : Int) := h
      go_enter Tryd.func56, Tryd.ntmps56
      go_wp2_with fail
      go_ret
      exact ⟨rfl, Below.refl _ _⟩
  induction k with
  | zero =>
    rintro p l n a b w ⟨rfl, rfl⟩ hf hb hn
    exact none_case n a b w hf hb hn
  | succ k ih =>
    rintro p l n a b w (⟨rfl, rfl⟩ | ⟨g, pl, pr, la, x, lr, d, wd, rfl, rfl, hg, hk, hl, hr⟩) hf hb hn
    · exact none_case n a b w hf hb hn
    · obtain ⟨c0, c1, c2, c3, c4, c5, c6, c7, c8, c9, c10⟩ := kn_cells hg
      have hgl := (Array.getElem?_eq_some_iff.1 hg).1
      obtain ⟨f1, f2, f3⟩ := fits_cut.1 hf
      have hne : la ++ x :: lr ≠ [] := by simp
      obtain ⟨u1, u2, u3⟩ := fits_ends hne hf
      have hw0 := hk.w0
      have hw1 := hk.w1
      have hle := f3.le
      have hxs : x.stop = x.at' + x.n := rfl
      have hst : x.stop ≤ 1073741824 := by omega
      have hla := f1.le
      have PR := hid_mk (fun h1 h2 h3 => gapL_prune (n := n) hf hne hk.wide h1 h2 h3)
      have GA := hid_mk (gapL_append la lr x n a b)
      have HL : Hid (∀ W, Below w.heap.size w W → Calls Tryd.prog 56 #[.pointer pl, .int .i64 (n : Int), .int .i64 (a : Int), .int .i64 (x.at' : Int)] W (GapPost W (gapL la n a x.at'))) := fun W hW => ih pl la n a x.at' W (KD.keep (fun b cur e => hW.block b (Array.getElem?_eq_some_iff.1 e).1) k _ _ hl) f1 (by omega) hn
      have HC : Hid (∀ W, Below w.heap.size w W → W.cell? ⟨g, 0, none⟩ = some (.int .i64 (x.at' : Int)) ∧ W.cell? ⟨g, 1, none⟩ = some (.int .i64 (x.n : Int)) ∧ W.cell? ⟨g, 2, none⟩ = some (.int .i64 (x.count : Int)) ∧ W.cell? ⟨g, 3, none⟩ = some (.int .u64 (x.tag : Int)) ∧ W.cell? ⟨g, 4, none⟩ = some (.int .u8 (x.st : Int)) ∧ W.cell? ⟨g, 5, none⟩ = some (.pointer pl) ∧ W.cell? ⟨g, 6, none⟩ = some (.pointer pr) ∧ g < W.heap.size) := fun W hW => by
        have key : ∀ i, W.cell? ⟨g, i, none⟩ = w.cell? ⟨g, i, none⟩ := fun i => hW.cell (p := ⟨g, i, none⟩) hgl
        exact ⟨(key 0).trans c0, (key 1).trans c1, (key 2).trans c2, (key 3).trans c3, (key 4).trans c4, (key 5).trans c5, (key 6).trans c6, Nat.lt_of_lt_of_le hgl hW.size⟩
      have HR : Hid (∀ W, Below w.heap.size w W → Calls Tryd.prog 56 #[.pointer pr, .int .i64 (n : Int), .int .i64 (x.stop : Int), .int .i64 (b : Int)] W (GapPost W (gapL lr n x.stop b))) := fun W hW => ih pr lr n x.stop b W (KD.keep (fun b cur e => hW.block b (Array.getElem?_eq_some_iff.1 e).1) k _ _ hr) f3 hb hn
      have HE : Hid (∀ W : World, Calls Tryd.prog 64 #[.agg (pcv x)] W fun e w' => e = .returned (.int .i64 (x.stop : Int)) ∧ w' = W.alloc (.cells (pcv x) 103)) := fun W => end_any x W hst
      have lo1 := gapL_lo (n := n) f1
      clear ih none_case hl hr hg hk hf
      obtain ⟨fs, hfs⟩ : ∃ fs, fs = fstL (la ++ x :: lr) := ⟨_, rfl⟩
      obtain ⟨ls, hls⟩ : ∃ ls, ls = lstL (la ++ x :: lr) := ⟨_, rfl⟩
      obtain ⟨q, hq⟩ : ∃ q, q = gapL (la ++ x :: lr) n a b := ⟨_, rfl⟩
      obtain ⟨ql, hql⟩ : ∃ ql, ql = gapL la n a x.at' := ⟨_, rfl⟩
      obtain ⟨qr, hqr⟩ : ∃ qr, qr = gapL lr n x.stop b := ⟨_, rfl⟩
      rw [← hfs] at c8 u1 u2 PR
      rw [← hls] at c9 u2 u3 PR
      rw [← hq] at PR GA ⊢
      rw [← hql] at GA HL lo1
      rw [← hqr] at GA HR
      clear hfs hls hq hql hqr
      unfold pcv at HE
      obtain ⟨st, hst'⟩ : ∃ st, st = x.stop := ⟨_, rfl⟩
      rw [← hst'] at HE HR
      clear hst' hne
      by_cases hp : (n : Int) > max (max wd ((fs : Int) - (a : Int))) ((b : Int) - (ls : Int))
      · have e : q = -1 := PR.out (by omega) (by omega) (by omega)
        subst e
        clear PR GA HL HR HE
        have hp' : (if (if wd < (fs : Int) - (a : Int) then (fs : Int) - (a : Int) else wd) < (b : Int) - (ls : Int) then (b : Int) - (ls : Int) else if wd < (fs : Int) - (a : Int) then (fs : Int) - (a : Int) else wd) < (n : Int) := by
          repeat' split
          all_goals omega
        clear hp HC
        go_enter Tryd.func56, Tryd.ntmps56
        go_wp2_with fail
        go_quiet (fail)
        go_wp2_with fail
        all_goals
          go_ret
          exact ⟨rfl, drewN_below' _ _ _⟩
      · have hp' : ¬ (if (if wd < (fs : Int) - (a : Int) then (fs : Int) - (a : Int) else wd) < (b : Int) - (ls : Int) then (b : Int) - (ls : Int) else if wd < (fs : Int) - (a : Int) then (fs : Int) - (a : Int) else wd) < (n : Int) := by
          repeat' split
          all_goals omega
        clear hp PR
        go_enter Tryd.func56, Tryd.ntmps56
        go_wp2_with fail
        go_quiet (fail)
        go_wp2_with fail
        all_goals
          obtain ⟨V, hV⟩ : ∃ V, V = w.drewN nq := ⟨_, rfl⟩
          rw [← hV]
          have HV : Hid (Below w.heap.size w V) := by show Below _ _ _; rw [hV]; exact drewN_below' _ _ _
          clear hV
          obtain ⟨v0, v1, v2, v3, v4, v5, v6, v7⟩ := HC.out V HV.out
          go_region_held3 (fun w' => w'.cell? ⟨g, 5, none⟩ = some (.pointer pl) ∧ w'.cell? ⟨g, 0, none⟩ = some (.int .i64 (x.at' : Int))) (simp [*]) (first | (go_at_call 56; refine (HL.out _ (Below.drew HV.out)).mono ?_; rintro e w2 ⟨rfl, hb2⟩; have HB2 : Hid (Below w.heap.size w w2) := (Below.drew HV.out).trans (hb2.mono HV.out.size); obtain ⟨y0, y1, y2, y3, y4, y5, y6, y7⟩ := HC.out w2 HB2.out; clear hb2))
          by_cases hq : 0 ≤ ql
          · have e : q = ql := by have h := GA.out; rw [if_pos hq] at h; exact h
            have HEQ := hid_mk e
            clear e
            go_wp2_with fail
            go_ret
            exact ⟨by rw [HEQ.out]; rfl, HB2.out⟩
          · have e : q = qr := by have h := GA.out; rw [if_neg hq] at h; exact h
            have HEQ := hid_mk e
            clear e
            go_wp2_with fail
            go_region_held3 (fun w' => w'.cell? ⟨g, 0, none⟩ = some (.int .i64 (x.at' : Int)) ∧ w'.cell? ⟨g, 1, none⟩ = some (.int .i64 (x.n : Int)) ∧ w'.cell? ⟨g, 2, none⟩ = some (.int .i64 (x.count : Int)) ∧ w'.cell? ⟨g, 3, none⟩ = some (.int .u64 (x.tag : Int)) ∧ w'.cell? ⟨g, 4, none⟩ = some (.int .u8 (x.st : Int)) ∧ w'.cell? ⟨g, 6, none⟩ = some (.pointer pr)) (simp [*, World.cell?_alloc_at, World.cell?_alloc_past, World.cell?_alloc_some, World.cell?_setCell_far]) (first | (go_at_call 64; refine (HE.out _).mono ?_; rintro e w3 ⟨rfl, rfl⟩) | (go_at_call 56; refine (HR.out _ (HB2.out.trans (Below.alloc (Below.drew (Below.refl _ _)) HB2.out.size _))).mono ?_; rintro e w4 ⟨rfl, hb4⟩; have HB4 : Hid (Below w.heap.size w w4) := (HB2.out.trans (Below.alloc (Below.drew (Below.refl _ _)) HB2.out.size _)).trans (hb4.mono (Nat.le_trans HB2.out.size (by simp))); obtain ⟨z0, z1, z2, z3, z4, z5, z6, z7⟩ := HC.out w4 HB4.out; clear hb4))
            go_wp2_with fail
            go_ret
            exact ⟨by rw [HEQ.out]; rfl, HB4.out⟩
end Go.Proofs.YtcpdnalmoaojlaaDoor
