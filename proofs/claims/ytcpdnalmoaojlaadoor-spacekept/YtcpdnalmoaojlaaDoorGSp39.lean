import Derived.Test.YtcpdnalmoaojlaaDoorGSp27
import Derived.Test.YtcpdnalmoaojlaaDoorGSp37
import Derived.Test.YtcpdnalmoaojlaaDoorGPk

/-
  SpaceKept: what its loops keep.
-/
namespace Go.Proofs.YtcpdnalmoaojlaaDoor
open Go.RowKit Go.Shelf
set_option linter.unusedVariables false
set_option linter.unusedSimpArgs false

/-- A step of a script, and where it lies. -/
structure SD where
  d : Int
  a : Int
  b : Int
  c : Int
  t : ByteArray
def I64 (x : Int) : Prop := -9223372036854775808 ≤ x ∧ x ≤ 9223372036854775807
def SD.wf (x : SD) : Prop := I64 x.d ∧ I64 x.a ∧ I64 x.b ∧ I64 x.c
def SDAt (w : World) (b o : Nat) (x : SD) : Prop := w.cell? ⟨b, o, none⟩ = some (.int .i64 x.d) ∧ w.cell? ⟨b, o + 1, none⟩ = some (.int .i64 x.a) ∧ w.cell? ⟨b, o + 2, none⟩ = some (.int .i64 x.b) ∧ w.cell? ⟨b, o + 3, none⟩ = some (.int .i64 x.c) ∧ w.cell? ⟨b, o + 4, none⟩ = some (.string x.t)
def SSl (w : World) (ao : Option Addr) (ss : List SD) : Prop := ss = [] ∨ ∃ b off, ao = some ⟨b, off, none⟩ ∧ b < w.heap.size ∧ ∀ i (hi : i < ss.length), SDAt w b (off + i * 5) ss[i]
theorem SDAt.below {w w' : World} {b o B : Nat} {x : SD} (h : SDAt w b o x) (hb : Below B w w') (hB : b < B) : SDAt w' b o x := by
  obtain ⟨h0, h1, h2, h3, h4⟩ := h
  have key : ∀ i, w'.cell? ⟨b, i, none⟩ = w.cell? ⟨b, i, none⟩ := fun i => hb.cell (p := ⟨b, i, none⟩) hB
  exact ⟨(key _).trans h0, (key _).trans h1, (key _).trans h2, (key _).trans h3, (key _).trans h4⟩
/-- What the loops keep. -/
structure KI (w : World) (s rows B5 : Nat) (l : List Pc) (W : World) : Prop where
  sp : SpAt W s rows l
  ok : SpOk rows l
  box : W.heap[B5]? = some (.cells #[.pointer (some ⟨s, 0, none⟩)] 26 (0, 0))
  err : ErrT W
  below : Below w.heap.size w W
  gi : 0 < w.heap.size
  lo : w.heap.size ≤ s
  lob : w.heap.size ≤ B5
  ne : B5 ≠ s
theorem KI.gis {w : World} {s rows B5 : Nat} {l : List Pc} {W : World} (h : KI w s rows B5 l W) : 0 < s := Nat.lt_of_lt_of_le h.gi h.lo
theorem KI.boxlt {w : World} {s rows B5 : Nat} {l : List Pc} {W : World} (h : KI w s rows B5 l W) : B5 < W.heap.size := (Array.getElem?_eq_some_iff.1 h.box).1
theorem KI.cell {w : World} {s rows B5 : Nat} {l : List Pc} {W : World} (h : KI w s rows B5 l W) : W.cell? ⟨B5, 0, none⟩ = some (.pointer (some ⟨s, 0, none⟩)) := by simp [World.cell?, h.box]
theorem KI.next {w : World} {s rows B5 : Nat} {l l' : List Pc} {W W' : World} (h : KI w s rows B5 l W) (ho : Only s W W') (hs : SpAt W' s rows l') (hok : SpOk rows l') : KI w s rows B5 l' W' := by
  have hw := h.below.size
  have hlo := h.lo
  exact ⟨hs, hok, (ho.block _ h.boxlt h.ne).trans h.box, h.err.only ho h.gis, h.below.trans (ho.below hlo hw), h.gi, h.lo, h.lob, h.ne⟩
theorem KI.keep {w : World} {s rows B5 : Nat} {l : List Pc} {W W' : World} (h : KI w s rows B5 l W) (hb : Below W.heap.size W W') : KI w s rows B5 l W' :=
  h.next (Only.of_below hb) (h.sp.below hb) h.ok
/-- Another space is put in the box. -/
theorem KI.swap {w : World} {s s' rows B5 : Nat} {l l' : List Pc} {W W' : World} (h : KI w s rows B5 l W) (hb : Below W.heap.size W W') (hs : SpAt W' s' rows l') (hok : SpOk rows l') (hlt : W.heap.size ≤ s') : KI w s' rows B5 l' (W'.setCell ⟨B5, 0, none⟩ (.pointer (some ⟨s', 0, none⟩))) := by
  have hw := h.below.size
  have hbx := h.boxlt
  have hbox : W'.heap[B5]? = some (.cells #[.pointer (some ⟨s, 0, none⟩)] 26 (0, 0)) := (hb.block _ hbx).trans h.box
  have hgi := h.gi
  have hlob := h.lob
  obtain ⟨p, h1, h2⟩ := hs
  refine ⟨⟨p, (Below.heap_setCell _ _ _ _ (by show s' ≠ B5; omega)).trans h1, KT.keepc h2 hbox⟩, hok, setc_heap hbox, ?_, (h.below.trans (hb.mono hw)).setCell (p := ⟨B5, 0, none⟩) h.lob _, h.gi, by omega, h.lob, by omega⟩
  exact (World.cell?_of_block (w := W') (Below.heap_setCell _ _ _ _ (show 0 ≠ B5 by omega))).trans (h.err.below hb h.err.size)
/-- What a step may do to a space: each of the calls. -/
theorem KI.drop {w : World} {s rows B5 : Nat} {l : List Pc} {W W' : World} {at' : Int} {e : Ending} (h : KI w s rows B5 l W) (hp : PDrop W s rows l at' e W') : (∃ c : Int, e = .returned (.int .i64 c)) ∧ ∃ l', KI w s rows B5 l' W' := by
  obtain ⟨ho, (⟨h1, rfl, h2⟩ | ⟨q, hq, h1, h2, rfl, h3⟩)⟩ := hp
  · exact ⟨⟨_, rfl⟩, l, h.next ho h2 h.ok⟩
  · exact ⟨⟨_, rfl⟩, _, h.next ho h3 (drop_ok h.ok hq h2)⟩
theorem KI.share {w : World} {s rows B5 : Nat} {l : List Pc} {W W' : World} {at' : Int} {e : Ending} (h : KI w s rows B5 l W) (hp : PShare W s rows l at' e W') : (∃ c : Int, e = .returned (.int .i64 c)) ∧ ∃ l', KI w s rows B5 l' W' := by
  obtain ⟨ho, (⟨h1, rfl, h2⟩ | ⟨q, hq, h1, h2, (⟨h3, rfl, h4⟩ | ⟨h3, rfl, h4⟩)⟩)⟩ := hp
  · exact ⟨⟨_, rfl⟩, l, h.next ho h2 h.ok⟩
  · exact ⟨⟨_, rfl⟩, l, h.next ho h4 h.ok⟩
  · have hqo := h.ok.ok q hq
    obtain ⟨m, k, e1, e2, e3⟩ := put_mid (q' := { q with count := q.count + 1 }) h.ok hq rfl rfl ⟨fun _ => by show 1 ≤ q.count + 1; omega, by show q.count + 1 ≤ 65535; omega, hqo.2.2.1, hqo.2.2.2⟩
    exact ⟨⟨_, rfl⟩, _, h.next ho h4 e3⟩
theorem KI.take {w : World} {s rows n tag B5 : Nat} {l : List Pc} {W W' : World} {e : Ending} (h : KI w s rows B5 l W) (hn : 1 ≤ n) (ht : tag < 18446744073709551616) (hp : PTake W s rows n tag l e W') : (e = .returned (.tuple #[.int .i64 0, .int .i64 8]) ∨ ∃ g : Nat, e = .returned (.tuple #[.int .i64 (g : Int), .int .i64 0]) ∧ g < rows) ∧ ∃ l', KI w s rows B5 l' W' := by
  obtain ⟨ho, (⟨h1, rfl, h2⟩ | ⟨g, h1, rfl, h2⟩)⟩ := hp
  · exact ⟨.inl rfl, l, h.next ho h2 h.ok⟩
  · have k := sOk_take h.ok hn ht h1
    exact ⟨.inr ⟨g, rfl, by have := k.2.2.2; omega⟩, _, h.next ho h2 k.1⟩
theorem fils_le {rows : Nat} {l : List Pc} (h : SpOk rows l) : (fil l).length ≤ rows := by
  have h1 := fits_len h.fits
  have h2 := fil_le l
  omega
theorem owns_parts {w : World} {B : Nat} {v : Value} {bs : List UInt8} (h : Owns w B v bs) (hl : 0 < bs.length) : ∃ g N c cur, v = .slice (some ⟨g, 0, none⟩) N c ∧ N = bs.length ∧ B ≤ g ∧ w.heap[g]? = some (.cells cur 5 (0, 0)) ∧ N ≤ c := by
  rcases h.2 with ⟨_, hn⟩ | ⟨g, c, cur, rfl, h4, h5, h6, _⟩
  · omega
  · exact ⟨g, bs.length, c, cur, rfl, rfl, h4, h5, h6⟩
end Go.Proofs.YtcpdnalmoaojlaaDoor
