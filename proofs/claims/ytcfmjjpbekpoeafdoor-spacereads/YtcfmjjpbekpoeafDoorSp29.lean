/-
  SpaceReads: the bytes of a space, of which one is another one.
-/
import Derived.Test.YtcfmjjpbekpoeafDoorSp28
import Derived.Deep.RegionHeld3
namespace Go.Proofs.YtcfmjjpbekpoeafDoor
open Go.RowKit Go.Shelf
set_option linter.unusedVariables false
set_option linter.unusedSimpArgs false

/-- What the loop of Takes keeps. -/
structure RI (w : World) (str : ByteArray) (s rows B8 : Nat) (l : List Pc) (W : World) : Prop where
  sp : SpAt W s rows l
  ok : SpOk rows l
  bytes : BytesAt W w.heap.size 0 (bl str)
  box : W.heap[B8]? = some (.cells #[.pointer (some ⟨s, 0, none⟩)] 38 (0, 0))
  err : ErrT W
  below : Below w.heap.size w W
  lo : w.heap.size < s
  lob : w.heap.size < B8
  ne : B8 ≠ s
theorem RI.next {w : World} {str : ByteArray} {s rows B8 : Nat} {l l' : List Pc} {W W' : World} (h : RI w str s rows B8 l W) (hg : 2 < w.heap.size) (ho : Only s W W') (hs : SpAt W' s rows l') (hok : SpOk rows l') : RI w str s rows B8 l' W' := by
  have hB := (Array.getElem?_eq_some_iff.1 h.box).1
  have hs' := h.sp.lt
  have hlo := h.lo
  have hw := h.below.size
  refine ⟨hs, hok, fun i hi => ?_, (ho.block _ hB h.ne).trans h.box, h.err.only ho (by omega), h.below.trans (ho.below (by omega) (by omega)), h.lo, h.lob, h.ne⟩
  exact (ho.cell (p := ⟨w.heap.size, 0 + i, none⟩) (show w.heap.size < W.heap.size by omega) (show w.heap.size ≠ s by omega)).trans (h.bytes i hi)
theorem fils_len {rows : Nat} {l : List Pc} (h : SpOk rows l) : (fil l).length ≤ rows := by
  have h1 := fits_len h.fits
  have h2 := fil_le l
  omega
theorem owns_parts {w : World} {B : Nat} {v : Value} {bs : List UInt8} (h : Owns w B v bs) (hl : 0 < bs.length) : ∃ g N c cur, v = .slice (some ⟨g, 0, none⟩) N c ∧ N = bs.length ∧ B ≤ g ∧ w.heap[g]? = some (.cells cur 5 (0, 0)) ∧ N ≤ c := by
  rcases h.2 with ⟨_, hn⟩ | ⟨g, c, cur, rfl, h4, h5, h6, _⟩
  · omega
  · exact ⟨g, bs.length, c, cur, rfl, rfl, h4, h5, h6⟩
theorem bytes_set {w : World} {g j : Nat} {bs : List UInt8} {cur : Array Value} {fr : Nat × Nat} (h : BytesAt w g 0 bs) (hg : w.heap[g]? = some (.cells cur 5 fr)) (hj : j < bs.length) (y : UInt8) (v : Value) (hv : v = .int .u8 (y.toNat : Int)) : BytesAt (w.setCell ⟨g, j, none⟩ v) g 0 (bs.set j y) := by
  intro i hi
  rw [List.length_set] at hi
  have h1 := h i hi
  rw [Nat.zero_add] at h1 ⊢
  have h2 := h j hj
  rw [Nat.zero_add] at h2
  have hp := heap_put (i := j) hg v
  simp only [World.cell?, hg] at h1 h2
  simp only [World.cell?, hp, Array.getElem?_setIfInBounds, List.getElem_set]
  by_cases e : j = i
  · subst e
    have hlt : j < cur.size := by
      simp at h2
      exact (Array.getElem?_eq_some_iff.1 h2).1
    simp [hlt, hv]
  · rw [if_neg e, if_neg e]
    exact h1
set_option maxRecDepth 100000 in
set_option maxHeartbeats 4000000 in
theorem reads_space (str : ByteArray) (at' to : Int) (w : World) (hg : ErrT w) (hlen : str.size ≤ 140737488355328) (h1 : -9223372036854775808 ≤ to) (h2 : to ≤ 9223372036854775807) (h3 : -9223372036854775808 ≤ at') (h4 : at' ≤ 9223372036854775807) (hz : 0 < str.size) (hz2 : ¬ to % 3 = 0) :
    Calls Tryd.prog 6 #[.string str, .int .i64 at', .int .i64 to] w fun e w' => e = .returned (.bool true) ∧ Below w.heap.size w w' := by
  have hconv := run_bw w str
  have bB : Below w.heap.size w (bw w str) := below_bw (Below.refl _ _) (Nat.le_refl _) str
  have hln := bl_length str
  have HGI : Hid (2 < w.heap.size) := hg.size
  obtain ⟨p3, hp3⟩ : ∃ p3 : Int, p3 = to % 3 := ⟨_, rfl⟩
  have hp3' : (0 : Int) < p3 := by omega
  have HP : Hid (∀ W, Calls Tryd.prog 7 #[.int .i64 to, .int .i64 3] W fun e w' => e = .returned (.int .i64 p3) ∧ w' = W) := fun W => by rw [hp3]; exact pick_any to 3 (by omega) (by omega) h1 h2 W
  obtain ⟨rows, hrows⟩ : ∃ rows : Nat, (rows : Int) = at' % 100 := ⟨(at' % 100).toNat, by omega⟩
  have hr100 : rows < 100 := by omega
  have HP2 : Hid (∀ W, Calls Tryd.prog 7 #[.int .i64 at', .int .i64 100] W fun e w' => e = .returned (.int .i64 (rows : Int)) ∧ w' = W) := fun W => by rw [hrows]; exact pick_any at' 100 (by omega) (by omega) h3 h4 W
  have HPK : Hid (∀ (k : Nat) W, 0 < k → k ≤ 4611686018427387904 → Calls Tryd.prog 7 #[.int .i64 at', .int .i64 (k : Int)] W fun e w' => e = .returned (.int .i64 (at' % (k : Int))) ∧ w' = W) := fun k W hk hk2 => pick_any at' k hk hk2 h3 h4 W
  obtain ⟨n, hn⟩ : ∃ n, n = str.size := ⟨_, rfl⟩
  obtain ⟨W, hW⟩ : ∃ W, W = bw w str := ⟨_, rfl⟩
  have hWs : W.heap.size = w.heap.size + 1 := by rw [hW]; exact bw_size w str
  have HBY : Hid (BytesAt W w.heap.size 0 (bl str)) := by rw [hW]; exact bw_bytes w str
  have HEW : Hid (ErrT W) := by rw [hW]; exact hg.below bB hg.size
  have HBW : Hid (Below w.heap.size w W) := by rw [hW]; exact bB
  have HNW := hid_mk (pnew_any rows W (by omega))
  unfold plv at HNW
  obtain ⟨cp, hcp⟩ : ∃ cp, cp = room w str := ⟨_, rfl⟩
  rw [← hn] at hconv hlen hz hln
  rw [← hW, ← hcp] at hconv
  have HLN := hid_mk hln
  have HWS := hid_mk hWs
  have hn0 : (0 : Int) < (n : Int) := by omega
  clear hn bB hg hln hW hcp hrows hz2 hp3 hWs
  have HI0 : Hid (∀ s w3, W.heap.size ≤ s → SpAt w3 s rows [] → Below W.heap.size W w3 → RI w str s rows w3.heap.size [] (w3.alloc (.cells #[.pointer (some ⟨s, 0, none⟩)] 38))) := by
    intro s w3 hs hsp hb
    have hws := HWS.out
    have hbe : Below w3.heap.size w3 (w3.alloc (.cells #[.pointer (some ⟨s, 0, none⟩)] 38)) := Below.alloc (Below.refl _ _) (Nat.le_refl _) _
    have hsz := hb.size
    have hlt := hsp.lt
    refine ⟨hsp.below hbe, ⟨Nat.zero_le _, by omega, fun p hp => by simp at hp⟩, (HBY.out.below hb (by omega)).below hbe (by omega), heap_alloc_new _ _, (HEW.out.below hb HEW.out.size).below hbe (Nat.lt_of_lt_of_le HEW.out.size hsz), (HBW.out.trans (hb.mono (by omega))).trans (hbe.mono (by omega)), by omega, by omega, by omega⟩
  go_enter Tryd.func6, Tryd.ntmps6
  go_wp2_with (first | (go_at_call_of 7 (Value.int IntKind.i64 to); refine (HP.out _).mono ?_; clear HP; rintro e w3 ⟨rfl, hw3⟩; rw [hw3]; clear hw3) | (go_at_call 7; refine (HP2.out _).mono ?_; clear HP2; rintro e w3 ⟨rfl, hw3⟩; rw [hw3]; clear hw3) | (go_at_call 13; refine HNW.out.mono ?_; clear HNW; rintro e w3 ⟨s, rfl, hs, hsp, hb⟩; have HI1 := hid_mk (HI0.out s w3 hs hsp hb); clear hs hsp hb))
  obtain ⟨B8, hB8⟩ : ∃ B8, B8 = w3.heap.size := ⟨_, rfl⟩
  obtain ⟨W3, hW3⟩ : ∃ W3, W3 = w3.alloc (.cells #[.pointer (some ⟨s, 0, none⟩)] 38) := ⟨_, rfl⟩
  rw [← hB8, ← hW3] at HI1
  rw [← hW3, ← hB8]
  clear hW3 hB8 HI0
  go_loopw [10] (fun i wr => ∃ (k : Nat) (l : List Pc), i = .int .i64 (k : Int) ∧ k ≤ n ∧ RI w str s rows B8 l wr) (fun i _ => n - (intOf i).toNat)
  case atStart => exact ⟨0, [], rfl, by omega, HI1.out⟩
  case round =>
    obtain ⟨k, l, rfl, hk, hri⟩ := hrel
    have HRI := hid_mk hri
    clear HI1
    by_cases hlt : k < n
    · have hkl : k < (bl str).length := by rw [HLN.out]; exact hlt
      have q0 := hri.bytes k hkl
      rw [Nat.zero_add] at q0
      obtain ⟨x, hx⟩ : ∃ x, x = (bl str)[k].toNat := ⟨_, rfl⟩
      have hx8 : x < 256 := by rw [hx]; exact ((bl str)[k]).toNat_lt
      rw [← hx] at q0
      obtain ⟨q, hq⟩ : ∃ q : Nat, q = x % 8 := ⟨_, rfl⟩
      have hq8 : q < 8 := by omega
      have q1 : wr.cell? ⟨B8, 0, none⟩ = some (.pointer (some ⟨s, 0, none⟩)) := by simp [World.cell?, hri.box]
      have HTK : Hid (∀ W, Below wr.heap.size wr W → Calls Tryd.prog 15 #[.agg #[.pointer (some ⟨s, 0, none⟩)], .int .i64 (1 + (q : Int)), .int .u64 (x : Int)] W (PTake W s rows (q + 1) x l)) := fun W hW => by
        have h := ptake_any s rows (q + 1) x l W (hri.err.below hW hri.err.size) (by have := hri.lo; have := HGI.out; omega) (hri.sp.below hW) hri.ok (by omega) (by omega) (by omega)
        have e : (((q + 1 : Nat)) : Int) = 1 + (q : Int) := by omega
        rw [e] at h
        exact h
      have m1 : ((x : Int)).tmod 8 = (q : Int) := by rw [Int.tmod_eq_emod_of_nonneg (by omega)]; omega
      have m2 : (x : Int) % 8 = (q : Int) := by omega
      have m3 : IntKind.i64.wrap (q : Int) = (q : Int) := by rw [IntKind.wrap_i64]; omega
      have m5 : IntKind.i64.wrap (1 + (q : Int)) = 1 + (q : Int) := by rw [IntKind.wrap_i64]; omega
      have m4 : IntKind.u64.wrap (x : Int) = (x : Int) := by simp only [IntKind.wrap, IntKind.bits, IntKind.signed]; simp; omega
      have hki : (k : Int) < (n : Int) := by omega
      have HNX : Hid (∀ W', Only s wr W' → (gapL l (q + 1) 0 rows < 0 ∧ SpAt W' s rows l ∨ ∃ g : Nat, gapL l (q + 1) 0 rows = (g : Int) ∧ SpAt W' s rows (putL l ⟨g, q + 1, 1, x, 0⟩)) → ∃ l', RI w str s rows B8 l' W') := by
        intro W' ho hor
        rcases hor with ⟨_, h⟩ | ⟨g, hg, h⟩
        · exact ⟨l, HRI.out.next HGI.out ho h HRI.out.ok⟩
        · exact ⟨_, HRI.out.next HGI.out ho h (sOk_take HRI.out.ok (by omega) (by omega) hg).1⟩
      have HBX := hid_mk hri.box
      have HBC := hid_mk q0
      have hb0 : w.heap.size < wr.heap.size := by have := hri.sp.lt; have := hri.lo; omega
      have hnes : ¬ w.heap.size = s := by have := hri.lo; omega
      have hneb := hri.ne
      clear hri hx hq hkl
      go_wp2_with fail
      go_region_held3 (fun w' => w'.cell? ⟨B8, 0, none⟩ = some (.pointer (some ⟨s, 0, none⟩)) ∧ w'.cell? ⟨w.heap.size, k, none⟩ = some (.int .u8 (x : Int))) (simp [*]) (first
        | (go_at_call 15; refine (HTK.out _ (Below.drew (Below.refl _ _))).mono ?_; clear HTK; rintro e w4 ⟨ho, hor⟩; have HO4 : Hid (Only s wr w4) := (Only.of_below (Below.drew (Below.refl _ _))).trans ho; have y1 : w4.cell? ⟨B8, 0, none⟩ = some (.pointer (some ⟨s, 0, none⟩)) := (HO4.out.cell (p := ⟨B8, 0, none⟩) (Array.getElem?_eq_some_iff.1 HBX.out).1 hneb).trans q1; have y0 : w4.cell? ⟨w.heap.size, k, none⟩ = some (.int .u8 (x : Int)) := (HO4.out.cell (p := ⟨w.heap.size, k, none⟩) hb0 hnes).trans q0; obtain ⟨u, v, hu, hfin⟩ : ∃ u v, e = .returned (.tuple #[.int .i64 u, .int .i64 v]) ∧ (gapL l (q + 1) 0 rows < 0 ∧ SpAt w4 s rows l ∨ ∃ g : Nat, gapL l (q + 1) 0 rows = (g : Int) ∧ SpAt w4 s rows (putL l ⟨g, q + 1, 1, x, 0⟩)) := (by rcases hor with ⟨h1, h2, h3⟩ | ⟨g, h1, h2, h3⟩; exact ⟨_, _, h2, .inl ⟨h1, h3⟩⟩; exact ⟨_, _, h2, .inr ⟨g, h1, h3⟩⟩); subst hu; have HFI := hid_mk hfin; clear ho hor hfin))
      obtain ⟨l', hri'⟩ := HNX.out w4 HO4.out HFI.out
      have HR' := hid_mk hri'
      clear hri' HNX y0 y1 q0 q1
      go_wp2_with fail
      refine ⟨⟨k + 1, l', by go_num, by omega, HR'.out⟩, by simp [intOf]; omega⟩
    · obtain rfl : k = n := by omega
      have q1 : wr.cell? ⟨B8, 0, none⟩ = some (.pointer (some ⟨s, 0, none⟩)) := by simp [World.cell?, hri.box]
      have HPB := hid_mk (pbytes_any s rows l wr hri.sp hri.ok)
      unfold plv at HPB
      obtain ⟨bs, hbs⟩ : ∃ bs, bs = spB rows (fil l) := ⟨_, rfl⟩
      rw [← hbs] at HPB
      have hbl : bs.length = 4 + 18 * (fil l).length := by rw [hbs, spB_length]
      have hfl : (fil l).length ≤ 100 := by have h1 := fils_len hri.ok; omega
      have HBL := hid_mk hbl
      have HFL := hid_mk hfl
      clear hri hbs hbl hfl
      go_wp2_with (first | (go_at_call 20; refine HPB.out.mono ?_; clear HPB; rintro e w5 ⟨v, rfl, ho5, hb5⟩; obtain ⟨g, N, c5, cur, hv, hN, hg5, hcs, hNc⟩ := owns_parts ho5 (by have := HBL.out; omega); subst hv; have hN0 : ¬ N = 0 := (by have := HBL.out; omega); have hN0' : ¬ (N : Int) = 0 := (by omega); have hNb : N ≤ 4096 := (by have := HBL.out; have := HFL.out; omega); have HO5 := hid_mk ho5; have HB5' := hid_mk hb5; have HN := hid_mk hN; have HG5 := hid_mk hg5; have HCS := hid_mk hcs; have HNC := hid_mk hNc; clear ho5 hb5 hN hg5 hcs hNc))
      obtain ⟨j, hj⟩ : ∃ j : Nat, (j : Int) = at' % (N : Int) := ⟨(at' % (N : Int)).toNat, by have := Int.emod_nonneg at' (b := (N : Int)) hN0'; omega⟩
      have hjN : j < N := by have := Int.emod_lt_of_pos at' (b := (N : Int)) (by omega); omega
      refine (HPK.out N _ (by omega) (by omega)).mono ?_
      rintro e w6 ⟨rfl, hw6⟩
      rw [hw6, ← hj]
      clear hw6 hj HPK
      simp only []
      obtain ⟨y, hy⟩ : ∃ y : UInt8, (y.toNat : Int) = to % 256 := ⟨UInt8.ofNat (to % 256).toNat, by simp; omega⟩
      have hbsj : j < bs.length := by have := HN.out; omega
      have hat5 : BytesAt w5 g 0 bs := by
        have h := HO5.out
        rw [HN.out] at h
        exact Owns.at h
      obtain ⟨z0, hc5⟩ : ∃ z0 : Int, w5.cell? ⟨g, j, none⟩ = some (.int .u8 z0) := by
        have h := hat5 j hbsj
        rw [Nat.zero_add] at h
        exact ⟨_, h⟩
      have hf5 := unfrozen HCS.out j
      have hjn : (j : Int) < (N : Int) := by omega
      have hwrw : w.heap.size ≤ wr.heap.size := HRI.out.below.size
      have HL : Hid (Calls Tryd.prog 19 #[.slice (some ⟨g, 0, none⟩) N c5] (w5.setCell ⟨g, j, none⟩ (.int .u8 (to % 256))) fun e w' => Below (w5.setCell ⟨g, j, none⟩ (.int .u8 (to % 256))).heap.size (w5.setCell ⟨g, j, none⟩ (.int .u8 (to % 256))) w' ∧ ((loadR (bs.set j y) = none ∧ e = .returned (.tuple #[.agg #[.pointer none], .int .i64 7])) ∨
          ∃ s rows l, loadR (bs.set j y) = some (rows, l) ∧ e = .returned (.tuple #[plv s, .int .i64 0]) ∧ (w5.setCell ⟨g, j, none⟩ (.int .u8 (to % 256))).heap.size ≤ s ∧ SpAt w' s rows l)) := by
        have hsz : (w5.setCell ⟨g, j, none⟩ (.int .u8 (to % 256))).heap.size = w5.heap.size := by simp [World.setCell]
        have hgl : g < w5.heap.size := (Array.getElem?_eq_some_iff.1 HCS.out).1
        have he5 : ErrT w5 := HRI.out.err.below HB5'.out HRI.out.err.size
        have hge := HG5.out
        have hgi := HRI.out.err.size
        refine pload_any (bs.set j y) N g 0 c5 _ ?_ (by rw [List.length_set]; exact HN.out) (by rw [List.length_set]; have := HN.out; omega) (by rw [List.length_set]; have := HN.out; have := HNC.out; omega) (by rw [hsz]; exact hgl) (bytes_set hat5 HCS.out hbsj y _ (by rw [hy]))
        exact (World.cell?_of_block (w := w5) (Below.heap_setCell _ _ _ _ (show 2 ≠ g by omega))).trans he5
      unfold plv at HL
      have HBW : Hid (Below w.heap.size w (w5.setCell ⟨g, j, none⟩ (.int .u8 (to % 256)))) := (HRI.out.below.trans (HB5'.out.mono hwrw)).setCell (p := ⟨g, j, none⟩) (by show w.heap.size ≤ g; have := HG5.out; omega) _
      obtain ⟨W6, hW6⟩ : ∃ W6, W6 = w5.setCell ⟨g, j, none⟩ (.int .u8 (to % 256)) := ⟨_, rfl⟩
      rw [← hW6] at HL HBW
      clear hy hbsj hat5 hwrw HRI HO5 HB5' HN HG5 HCS HNC hN0 hN0' hNb
      go_wp2_with fail
      rw [← hW6]
      clear hW6 hc5 hf5
      go_wp2_with (first | (go_at_call 19; refine HL.out.mono ?_; clear HL; rintro e w5 ⟨hb5, (⟨hr5, rfl⟩ | ⟨s5, rows5, l5, hr5, rfl, hs5, hsp5⟩)⟩ <;> (have HB5 := hid_mk hb5; have HR5 := hid_mk hr5; clear hb5 hr5)))
      · go_ret
        exact ⟨rfl, (HBW.out.trans (HB5.out.mono HBW.out.size)).alloc (Nat.le_trans HBW.out.size HB5.out.size) _⟩
      · obtain ⟨hok5, hst5⟩ := loadR_ok HR5.out
        have hh0 := held_none hst5
        have hsum5 := rowsL_all hok5.fits
        have h305 := hok5.rows30
        obtain ⟨us, hus⟩ : ∃ us, us = rowsL isUsed l5 := ⟨_, rfl⟩
        obtain ⟨fr, hfr⟩ : ∃ fr : Nat, fr = rows5 - us - 0 := ⟨_, rfl⟩
        have HRW : Hid (∀ W, Below w5.heap.size w5 W → Calls Tryd.prog 22 #[.agg #[.pointer (some ⟨s5, 0, none⟩)]] W fun e w' => e = .returned (.agg #[.int .i64 (us : Int), .int .i64 0, .int .i64 (fr : Int)]) ∧ Below W.heap.size W w') := fun W hW => by
          have h := prows_any s5 rows5 l5 W (hsp5.below hW) hok5
          rw [hh0, ← hus, ← hfr] at h
          exact h
        have HSD : Hid (∀ W, Below w5.heap.size w5 W → Calls Tryd.prog 21 #[.agg #[.pointer (some ⟨s5, 0, none⟩)], .int .i64 (rows5 : Int)] W fun e w' => e = .returned (.bool true) ∧ Below W.heap.size W w') := fun W hW => sound_any s5 rows5 l5 W (hsp5.below hW) hok5
        rw [hh0, ← hus] at hsum5
        have hfr2 : us + fr = rows5 := by omega
        have x1 : IntKind.i64.wrap (us : Int) = (us : Int) := by rw [IntKind.wrap_i64]; omega
        have x2 : IntKind.i64.wrap ((us : Int) + (fr : Int)) = (us : Int) + (fr : Int) := by rw [IntKind.wrap_i64]; omega
        have x3 : (us : Int) + (fr : Int) = (rows5 : Int) := by omega
        have x4 : (rows5 : Int) ≤ 1073741824 := by omega
        have x5 : (0 : Int) ≤ (rows5 : Int) := by omega
        obtain ⟨X5, hX5⟩ : ∃ X5, X5 = w5.alloc (.cells #[.pointer (some ⟨s5, 0, none⟩)] 38) := ⟨_, rfl⟩
        have HX5 : Hid (Below w5.heap.size w5 X5) := by show Below _ _ _; rw [hX5]; exact Below.alloc (Below.refl _ _) (Nat.le_refl _) _
        have hE5 : X5.heap[w5.heap.size]? = some (.cells #[.pointer (some ⟨s5, 0, none⟩)] 38 (0, 0)) := by rw [hX5]; exact heap_alloc_new _ _
        have HE5 := hid_mk hE5
        have d0 : X5.cell? ⟨w5.heap.size, 0, none⟩ = some (.pointer (some ⟨s5, 0, none⟩)) := by simp [World.cell?, hE5]
        clear hok5 hst5 hh0 hus hfr hfr2 hsp5 hs5 hsum5 h305 hE5
        go_wp2_with fail
        rw [← hX5]
        clear hX5
        go_wp2_with (first | (go_at_call 22; refine (HRW.out _ HX5.out).mono ?_; clear HRW; rintro e w6 ⟨rfl, hb6⟩; have HB6 := hid_mk hb6; have HX6 : Hid (∀ A, Below w5.heap.size w5 (w6.alloc A)) := (fun A => Below.alloc (HX5.out.trans (hb6.mono HX5.out.size)) (Nat.le_trans HX5.out.size hb6.size) _); have d1 : w6.cell? ⟨w5.heap.size, 0, none⟩ = some (.pointer (some ⟨s5, 0, none⟩)) := (World.cell?_of_block (w := X5) (hb6.block _ (Array.getElem?_eq_some_iff.1 HE5.out).1)).trans d0; have dl : w5.heap.size < w6.heap.size := Nat.lt_of_lt_of_le (Array.getElem?_eq_some_iff.1 HE5.out).1 hb6.size; have dn : ¬ w6.heap.size = w5.heap.size := (fun e => by omega); clear hb6) | (go_at_call 21; refine (HSD.out _ (HX6.out _)).mono ?_; clear HSD; rintro e w7 ⟨rfl, hb7⟩; have HB7 := hid_mk hb7; clear hb7))
        go_ret
        exact ⟨rfl, (HBW.out.trans (HB5.out.mono HBW.out.size)).trans (((HX6.out _).trans (HB7.out.mono (HX6.out _).size)).mono (Nat.le_trans HBW.out.size HB5.out.size))⟩
end Go.Proofs.YtcfmjjpbekpoeafDoor
