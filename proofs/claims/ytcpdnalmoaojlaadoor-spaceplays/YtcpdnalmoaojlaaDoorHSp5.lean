import Derived.Test.YtcpdnalmoaojlaaDoorHSp1
import Derived.Deep.LoopGhost

/-
  find: the piece that begins at a row.
-/
namespace Go.Proofs.YtcpdnalmoaojlaaDoor
open Go.ChangeShapes Go.WideShapes Go.ChangeAt Go.RowKit
set_option linter.unusedVariables false

/-- A knot whose own piece is that. -/
def OwnK (w : World) (p : Option Addr) (q : Pc) : Prop := ∃ b pl pr d f e wd, p = some ⟨b, 0, none⟩ ∧ w.heap[b]? = some (.cells (knv q pl pr d f e wd) 118 (0, 0))
def FindPost (w : World) (l : List Pc) (at' : Int) (ev : Ending) (w' : World) : Prop := w' = w ∧ ((∃ q p, q ∈ l ∧ (q.at' : Int) = at' ∧ ev = .returned (.pointer p) ∧ OwnK w p q) ∨ ((∀ q ∈ l, (q.at' : Int) ≠ at') ∧ ev = .returned (.pointer none)))
set_option maxRecDepth 100000 in
theorem find_any (p : Option Addr) (l : List Pc) (at' : Int) (a b : Nat) (w : World) (h : KT w p l) (hf : Fits a l b) : Calls Tryd.prog 72 #[.pointer p, .int .i64 at'] w (FindPost w l at') := by
  obtain ⟨k, hk⟩ := h
  have HK := hid_mk hk
  have HF := hid_mk hf
  clear hk hf
  go_enter Tryd.func72, Tryd.ntmps72
  go_wp2_with fail
  go_loopg [0] k (fun j v wr => ∃ (p' : Option Addr) (l' : List Pc) (a' b' : Nat), v = .pointer p' ∧ KD w j p' l' ∧ Fits a' l' b' ∧ (∀ q ∈ l', q ∈ l) ∧ (∀ q ∈ l, (q.at' : Int) = at' → q ∈ l') ∧ wr = w)
  case atStart => exact ⟨p, l, a, b, rfl, HK.out, HF.out, fun q h => h, fun q h _ => h, rfl⟩
  case round =>
    obtain ⟨p', l', a', b', rfl, hkd, hfi, hin, hall, rfl⟩ := hrel
    have HIN := hid_mk hin
    have HALL := hid_mk hall
    have none_end : p' = none → l' = [] → FindPost wr l at' (.returned (.pointer none)) wr := fun _ e => ⟨rfl, .inr ⟨fun q hq e2 => (by have := HALL.out q hq e2; rw [e] at this; cases this), rfl⟩⟩
    have HNE := hid_mk none_end
    have HFI := hid_mk hfi
    clear hin hall none_end hfi
    have nil_or : (p' = none ∧ l' = []) ∨ ∃ j', gk = j' + 1 ∧ ∃ (g : Nat) (pl pr : Option Addr) (la : List Pc) (x : Pc) (lr : List Pc) (d : Nat) (wd : Int), p' = some ⟨g, 0, none⟩ ∧ l' = la ++ x :: lr ∧ wr.heap[g]? = some (.cells (knv x pl pr d (fstL l') (lstL l') wd) 118 (0, 0)) ∧ KD wr j' pl la ∧ KD wr j' pr lr := by
      cases gk with
      | zero => exact .inl hkd
      | succ j' =>
        rcases hkd with h | ⟨g, pl, pr, la, x, lr, d, wd, h1, h2, h3, h4, h5, h6⟩
        · exact .inl h
        · exact .inr ⟨j', rfl, g, pl, pr, la, x, lr, d, wd, h1, h2, h3, h5, h6⟩
    clear hkd
    rcases nil_or with ⟨rfl, rfl⟩ | ⟨j', rfl, g, pl, pr, la, x, lr, d, wd, rfl, rfl, hg, hl, hr⟩
    · go_wp2_with fail
      go_ret
      exact HNE.out (by trivial) (by trivial)
    · obtain ⟨c0, _, _, _, _, c5, c6, _⟩ := kn_cells hg
      have HG := hid_mk hg
      have HL := hid_mk hl
      have HR := hid_mk hr
      obtain ⟨f1, f2, f3⟩ := fits_cut.1 HFI.out
      obtain ⟨g1, g2⟩ := fits_lt HFI.out
      have HF1 := hid_mk f1
      have HF3 := hid_mk f3
      have HG1 := hid_mk g1
      have HG2 := hid_mk g2
      clear hg hl hr f1 f2 f3 g1 g2 HNE
      by_cases he : (x.at' : Int) = at'
      · subst he
        go_wp2_with fail
        go_ret
        exact ⟨rfl, .inl ⟨x, _, HIN.out x (by simp), rfl, rfl, g, pl, pr, d, _, _, wd, rfl, HG.out⟩⟩
      · have hne : ((x.at' : Int) != at') = true := by simpa using he
        by_cases hlt : at' < (x.at' : Int)
        · go_wp2_with fail
          go_roundg j'
          case measure => omega
          case rel =>
            refine ⟨pl, la, a', x.at', rfl, HL.out, HF1.out, fun q hq => HIN.out q (by simp [hq]), fun q hq e => ?_, rfl⟩
            have := HALL.out q hq e
            rcases List.mem_append.1 this with h | h
            · exact h
            · rcases List.mem_cons.1 h with rfl | h
              · exact absurd e he
              · have := HG2.out q h; omega
        · go_wp2_with fail
          go_roundg j'
          case measure => omega
          case rel =>
            refine ⟨pr, lr, x.stop, b', rfl, HR.out, HF3.out, fun q hq => HIN.out q (by simp [hq]), fun q hq e => ?_, rfl⟩
            have := HALL.out q hq e
            rcases List.mem_append.1 this with h | h
            · have := HG1.out q h; omega
            · rcases List.mem_cons.1 h with rfl | h
              · exact absurd e he
              · exact h
end Go.Proofs.YtcpdnalmoaojlaaDoor
