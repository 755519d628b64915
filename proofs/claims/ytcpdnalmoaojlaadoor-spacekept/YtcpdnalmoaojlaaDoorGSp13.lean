import Derived.Test.YtcpdnalmoaojlaaDoorGSp11
import Derived.Test.YtcpdnalmoaojlaaDoorGSp11b
import Derived.Test.YtcpdnalmoaojlaaDoorGSp11c

/-
  balance, with.
-/
namespace Go.Proofs.YtcpdnalmoaojlaaDoor
open Go.ChangeShapes Go.WideShapes Go.ChangeAt Go.RowKit
set_option linter.unusedVariables false
set_option linter.unusedSimpArgs false

theorem bal_any (pl pr : Option Addr) (la lr : List Pc) (x : Pc) (a b : Nat) (w : World) (hl : KT w pl la) (hr : KT w pr lr) (hf : Fits a (la ++ x :: lr) b) (hb : b ≤ 1073741824) :
    Calls Tryd.prog 70 #[.pointer pl, .agg (pcv x), .pointer pr] w (KPost w (la ++ x :: lr)) := by
  obtain ⟨da, hda, dal⟩ := hl.dep
  obtain ⟨db, hdb, dbl⟩ := hr.dep
  have hlen := fits_len hf
  rw [List.length_append, List.length_cons] at hlen
  have ha30 : da ≤ 1073741824 := by omega
  have hb30 : db ≤ 1073741824 := by omega
  by_cases h1 : (1 : Int) < (da : Int) - (db : Int)
  · cases pl with
    | none =>
      rcases hda with ⟨_, e⟩ | ⟨_, e, _⟩
      · omega
      · cases e
    | some p =>
      obtain ⟨g, p1, p2, l1, q, l2, d, wd, rfl, rfl, hg, _, k1, k2⟩ := hl.of_some
      obtain ⟨d1, hd1, _⟩ := k1.dep
      obtain ⟨d2, hd2, _⟩ := k2.dep
      by_cases h2 : (d2 : Int) ≤ (d1 : Int)
      · exact bal_left pr l1 l2 lr x q g p1 p2 a b da db d1 d2 d _ _ wd w hr hf hg k1 k2 hb hda hdb hd1 hd2 ha30 hb30 h1 h2
      · cases p2 with
        | none =>
          rcases hd2 with ⟨_, e⟩ | ⟨_, e, _⟩
          · omega
          · cases e
        | some p =>
          obtain ⟨h, p3, p4, l3, z, l4, d', wd', rfl, rfl, hh, _, k3, k4⟩ := k2.of_some
          exact bal_left2 pr l1 l3 l4 lr x q z g h p1 _ p3 p4 rfl a b da db d1 d2 d d' _ _ _ _ wd wd' w hr k1 k3 k4 hf hg hh hb hda hdb hd1 hd2 ha30 hb30 h1 h2
  · by_cases h3 : (da : Int) - (db : Int) < -1
    · cases pr with
      | none =>
        rcases hdb with ⟨_, e⟩ | ⟨_, e, _⟩
        · omega
        · cases e
      | some p =>
        obtain ⟨g, p1, p2, l1, q, l2, d, wd, rfl, rfl, hg, _, k1, k2⟩ := hr.of_some
        obtain ⟨d1, hd1, _⟩ := k1.dep
        obtain ⟨d2, hd2, _⟩ := k2.dep
        by_cases h2 : (d1 : Int) ≤ (d2 : Int)
        · exact bal_right pl la l1 l2 x q g p1 p2 a b da db d1 d2 d _ _ wd w hl hf hg k1 k2 hb hda hdb hd1 hd2 ha30 hb30 h3 h2
        · cases p1 with
          | none =>
            rcases hd1 with ⟨_, e⟩ | ⟨_, e, _⟩
            · omega
            · cases e
          | some p =>
            obtain ⟨h, p3, p4, l3, z, l4, d', wd', rfl, rfl, hh, _, k3, k4⟩ := k1.of_some
            exact bal_right2 pl la l3 l4 l2 x q z g h _ p2 p3 p4 rfl a b da db d1 d2 d d' _ _ _ _ wd wd' w hl k2 k3 k4 hf hg hh hb hda hdb hd1 hd2 ha30 hb30 h3 h2
    · exact bal_even pl pr la lr x a b da db w hl hr hf hb hda hdb ha30 hb30 h1 h3
end Go.Proofs.YtcpdnalmoaojlaaDoor
