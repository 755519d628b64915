/-
  The law, by what both sides' functions answer.
-/
import Derived.Test.YtpggbpbibbhepaaDoorDe
namespace Go.Proofs.YtpggbpbibbhepaaDoor
open Go.ChangeShapes Go.WideShapes Go.ChangeAt Go.RowKit
set_option linter.unusedVariables false

/-- What is asked of the program's Fold, and of its Good. -/
def FoldOk (s : ByteArray) : Prop := ∀ w : World, Lib.Utf8Tabs 0 1 w → 2 ≤ w.heap.size → Calls Tryd.prog 4 #[.string s] w fun e w' => e = .returned (.string (str (fold s 0))) ∧ Below w.heap.size w w'
def GoodOk (s : ByteArray) : Prop := ∀ w : World, 2 ≤ w.heap.size → Calls Tryd.prog 6 #[.string s] w fun e w' => e = .returned (.bool (goodB s)) ∧ Below w.heap.size w w'

set_option maxRecDepth 1000000 in
set_option maxHeartbeats 4000000 in
theorem law_walk (s : ByteArray) (w : World) (hs : s.size + 4 ≤ 140737488355328) (hT : Lib.Utf8Tabs 0 1 w) (h2 : 2 ≤ w.heap.size) (hF : FoldOk s) (hG : GoodOk s) :
    Calls Tryd.prog 3 #[.string s] w fun e w' => e = .returned (.bool true) ∧ Below w.heap.size w w' := by
  have HT : Hid (Lib.Utf8Tabs 0 1 w) := hT
  have HF : Hid (FoldOk s) := hF
  have HG : Hid (GoodOk s) := hG
  obtain ⟨F, hFe⟩ : ∃ F, fold s 0 = F := ⟨_, rfl⟩
  obtain ⟨g, hge⟩ : ∃ g, goodB s = g := ⟨_, rfl⟩
  clear hT hF hG
  go_enter Tryd.func3, Tryd.ntmps3
  go_wp2_with (first
    | (go_at_call 4; refine (HF.out w HT.out h2).mono ?_; rintro e w1 ⟨rfl, hb1⟩
       rw [hFe]
       have HB1 : Hid (Below w.heap.size w w1) := hb1
       have hs1 : w.heap.size ≤ w1.heap.size := hb1.size
       clear hb1)
    | (go_at_call 5; refine (refFold s w1 hs (tabs_below HT.out HB1.out (by omega) (by omega)) (by omega)).mono ?_; rintro e w2 ⟨rfl, hb2⟩
       rw [hFe]
       have HB2 : Hid (Below w.heap.size w w2) := HB1.out.trans (hb2.mono hs1)
       have hs2 : w.heap.size ≤ w2.heap.size := HB2.out.size
       clear hb2)
    | (go_at_call 6; refine (HG.out w2 (by omega)).mono ?_; rintro e w3 ⟨rfl, hb3⟩
       rw [hge]
       have HB3 : Hid (Below w.heap.size w w3) := HB2.out.trans (hb3.mono hs2)
       clear hb3)
    | (go_at_call 7; refine (refGood s w3 hs).mono ?_; rintro e w4 ⟨rfl, rfl⟩
       rw [hge]))
  go_ret
  exact ⟨rfl, HB3.out⟩
end Go.Proofs.YtpggbpbibbhepaaDoor
