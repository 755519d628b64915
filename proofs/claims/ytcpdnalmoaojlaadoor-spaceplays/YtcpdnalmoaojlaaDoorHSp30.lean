import Derived.Test.YtcpdnalmoaojlaaDoorHSp5

/-
  find, and where it leads.
-/
namespace Go.Proofs.YtcpdnalmoaojlaaDoor
open Go.ChangeShapes Go.WideShapes Go.ChangeAt Go.RowKit
set_option linter.unusedVariables false

/-- Where find leads. -/
def FT (w : World) (a : Int) (r : Option Addr) : Nat → Option Addr → Prop
  | 0, p => p = none ∧ r = none
  | k + 1, p => (p = none ∧ r = none) ∨ ∃ (b : Nat) (pl pr : Option Addr) (x : Pc) (d f e : Nat) (wd : Int), p = some ⟨b, 0, none⟩ ∧ w.heap[b]? = some (.cells (knv x pl pr d f e wd) 118 (0, 0)) ∧
      (((x.at' : Int) = a ∧ r = some ⟨b, 0, none⟩) ∨ (a < (x.at' : Int) ∧ FT w a r k pl) ∨ ((x.at' : Int) < a ∧ FT w a r k pr))
theorem KD.ft {w : World} (a : Int) (k : Nat) : ∀ (p : Option Addr) (l : List Pc) (lo hi : Nat), KD w k p l → Fits lo l hi → ∃ r, FT w a r k p ∧ ((∃ q ∈ l, (q.at' : Int) = a ∧ OwnK w r q) ∨ ((∀ q ∈ l, (q.at' : Int) ≠ a) ∧ r = none)) := by
  induction k with
  | zero => rintro p l lo hi ⟨rfl, rfl⟩ _; exact ⟨none, ⟨rfl, rfl⟩, .inr ⟨fun q hq => by simp at hq, rfl⟩⟩
  | succ k ih =>
    rintro p l lo hi (⟨rfl, rfl⟩ | ⟨b, pl, pr, la, x, lr, d, wd, rfl, rfl, h3, h4, h5, h6⟩) hf
    · exact ⟨none, .inl ⟨rfl, rfl⟩, .inr ⟨fun q hq => by simp at hq, rfl⟩⟩
    · obtain ⟨f1, f2, f3⟩ := fits_cut.1 hf
      obtain ⟨g1, g2⟩ := fits_lt hf
      by_cases he : (x.at' : Int) = a
      · exact ⟨_, .inr ⟨b, pl, pr, x, d, _, _, wd, rfl, h3, .inl ⟨he, rfl⟩⟩, .inl ⟨x, by simp, he, b, pl, pr, d, _, _, wd, rfl, h3⟩⟩
      · by_cases hlt : a < (x.at' : Int)
        · obtain ⟨r, hr, ho⟩ := ih pl la _ _ h5 f1
          refine ⟨r, .inr ⟨b, pl, pr, x, d, _, _, wd, rfl, h3, .inr (.inl ⟨hlt, hr⟩)⟩, ?_⟩
          rcases ho with ⟨q, hq, h⟩ | ⟨h, hn⟩
          · exact .inl ⟨q, by simp [hq], h⟩
          · refine .inr ⟨fun q hq e => ?_, hn⟩
            rcases List.mem_append.1 hq with hq | hq
            · exact h q hq e
            · rcases List.mem_cons.1 hq with rfl | hq
              · exact he e
              · have := g2 q hq; omega
        · obtain ⟨r, hr, ho⟩ := ih pr lr _ _ h6 f3
          refine ⟨r, .inr ⟨b, pl, pr, x, d, _, _, wd, rfl, h3, .inr (.inr ⟨by omega, hr⟩)⟩, ?_⟩
          rcases ho with ⟨q, hq, h⟩ | ⟨h, hn⟩
          · exact .inl ⟨q, by simp [hq], h⟩
          · refine .inr ⟨fun q hq e => ?_, hn⟩
            rcases List.mem_append.1 hq with hq | hq
            · have := g1 q hq; omega
            · rcases List.mem_cons.1 hq with rfl | hq
              · exact he e
              · exact h q hq e
theorem FT.below {w w' : World} {a : Int} {r : Option Addr} (hb : Below w.heap.size w w') (k : Nat) : ∀ p, FT w a r k p → FT w' a r k p := by
  induction k with
  | zero => intro p h; exact h
  | succ k ih =>
    rintro p (h | ⟨b, pl, pr, x, d, f, e, wd, h1, h2, h3⟩)
    · exact .inl h
    · refine .inr ⟨b, pl, pr, x, d, f, e, wd, h1, (hb.block b (Array.getElem?_eq_some_iff.1 h2).1).trans h2, ?_⟩
      rcases h3 with h3 | ⟨h3, h4⟩ | ⟨h3, h4⟩
      · exact .inl h3
      · exact .inr (.inl ⟨h3, ih _ h4⟩)
      · exact .inr (.inr ⟨h3, ih _ h4⟩)
set_option maxRecDepth 100000 in
theorem find_to (k : Nat) (p r : Option Addr) (at' : Int) (w : World) (h : FT w at' r k p) : Calls Tryd.prog 72 #[.pointer p, .int .i64 at'] w fun e w' => e = .returned (.pointer r) ∧ w' = w := by
  have HK := hid_mk h
  clear h
  go_enter Tryd.func72, Tryd.ntmps72
  go_wp2_with fail
  go_loopg [0] k (fun j v wr => ∃ (p' : Option Addr), v = .pointer p' ∧ FT w at' r j p' ∧ wr = w)
  case atStart => exact ⟨p, rfl, HK.out, rfl⟩
  case round =>
    obtain ⟨p', rfl, hkd, rfl⟩ := hrel
    have nil_or : (p' = none ∧ r = none) ∨ ∃ j', gk = j' + 1 ∧ ∃ (b : Nat) (pl pr : Option Addr) (x : Pc) (d f e : Nat) (wd : Int), p' = some ⟨b, 0, none⟩ ∧ wr.heap[b]? = some (.cells (knv x pl pr d f e wd) 118 (0, 0)) ∧
      (((x.at' : Int) = at' ∧ r = some ⟨b, 0, none⟩) ∨ (at' < (x.at' : Int) ∧ FT wr at' r j' pl) ∨ ((x.at' : Int) < at' ∧ FT wr at' r j' pr)) := by
      cases gk with
      | zero => exact .inl hkd
      | succ j' =>
        rcases hkd with h | h
        · exact .inl h
        · exact .inr ⟨j', rfl, h⟩
    clear hkd HK
    rcases nil_or with ⟨rfl, rfl⟩ | ⟨j', rfl, g, pl, pr, x, d, f, e, wd, rfl, hg, hor⟩
    · go_wp2_with fail
      go_ret
      exact ⟨rfl, rfl⟩
    · obtain ⟨c0, _, _, _, _, c5, c6, _⟩ := kn_cells hg
      clear hg
      rcases hor with ⟨he, rfl⟩ | ⟨hlt, hft⟩ | ⟨hlt, hft⟩
      · subst he
        go_wp2_with fail
        go_ret
        exact ⟨rfl, rfl⟩
      · have hne : ((x.at' : Int) != at') = true := by simp; omega
        have HF := hid_mk hft
        clear hft
        go_wp2_with fail
        go_roundg j'
        case measure => omega
        case rel => exact ⟨pl, rfl, HF.out, rfl⟩
      · have hne : ((x.at' : Int) != at') = true := by simp; omega
        have hlt' : ¬ at' < (x.at' : Int) := by omega
        have HF := hid_mk hft
        clear hft
        go_wp2_with fail
        go_roundg j'
        case measure => omega
        case rel => exact ⟨pr, rfl, HF.out, rfl⟩
end Go.Proofs.YtcpdnalmoaojlaaDoor
