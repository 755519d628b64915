/-
  code.newPlaces: the walk.
-/
import Derived.Test.YtppmjdmdflcoiabDoorSq3
namespace Go.Proofs.YtppmjdmdflcoiabDoor
open Go.ChangeShapes Go.WideShapes Go.ChangeAt Go.RowKit
open Go.Maps (Keyed IsMap)
set_option linter.unusedVariables false

theorem Tryd.info3 : (Tryd.prog.info? 3).map (fun i => (i.zero, i.size, i.bytes)) = some (some (.int .i64 0), 1, 8) := by kernel_rfl
/-- What newPlaces has made so far. -/
structure NP (w wr : World) (n : Nat) (bs : Value) (F P M i : Nat) (bf : List Int) (D : DataW Unit) : Prop where
  res : wr.heap[w.heap.size]? = some (.cells #[.slice none 0 0, .slice none 0 0] 43 (0, 0))
  pl : wr.heap[P]? = some (.cells #[bs, .slice (some ⟨F, 0, none⟩) n n] 43 (0, 0))
  part : IPart wr F n bf
  map : wr.ownsMap Tryd.prog 51 (plainElem Tryd.prog 3) M i D
  below : Below w.heap.size w wr
  o1 : w.heap.size < F
  o2 : F < P
  o3 : P < M
theorem heap_alloc_old (w : World) (o : Obj) (k : Nat) (hk : k < w.heap.size) : (w.alloc o).heap[k]? = w.heap[k]? := by
  show (w.heap.push o)[k]? = _
  rw [Array.getElem?_push, if_neg (Nat.ne_of_lt hk)]
theorem heap_alloc_new (w : World) (o : Obj) : (w.alloc o).heap[w.heap.size]? = some o := by
  show (w.heap.push o)[w.heap.size]? = _
  rw [Array.getElem?_push, if_pos rfl]
theorem lt_of_some {w : World} {k : Nat} {o : Obj} (h : w.heap[k]? = some o) : k < w.heap.size := (Array.getElem?_eq_some_iff.1 h).1
theorem heap_set_other (w : World) (F k i : Nat) (v : Value) (h : k ≠ F) : (w.setCell ⟨F, i, none⟩ v).heap[k]? = w.heap[k]? := by
  simp [World.setCell, Array.getElem?_modify, Ne.symm h]
theorem NP.drew {w wr : World} {n : Nat} {bs : Value} {F P M i : Nat} {bf : List Int} {D : DataW Unit} (h : NP w wr n bs F P M i bf D) (k : Nat) : NP w (wr.drewN k) n bs F P M i bf D := ⟨h.res, h.pl, h.part, h.map, h.below.trans (drewN_below _ _ _), h.o1, h.o2, h.o3⟩
theorem NP.drew1 {w wr : World} {n : Nat} {bs : Value} {F P M i : Nat} {bf : List Int} {D : DataW Unit} (h : NP w wr n bs F P M i bf D) : NP w wr.drew n bs F P M i bf D := ⟨h.res, h.pl, h.part, h.map, Below.drew h.below, h.o1, h.o2, h.o3⟩
theorem NP.alloc {w wr : World} {n : Nat} {bs : Value} {F P M i : Nat} {bf : List Int} {D : DataW Unit} (h : NP w wr n bs F P M i bf D) (o : Obj) : NP w (wr.alloc o) n bs F P M i bf D :=
  ⟨by rw [heap_alloc_old _ _ _ (lt_of_some h.res)]; exact h.res, by rw [heap_alloc_old _ _ _ (lt_of_some h.pl)]; exact h.pl, h.part.same (heap_alloc_old _ _ _ h.part.lt), h.map.alloc _, h.below.alloc h.below.size _, h.o1, h.o2, h.o3⟩
theorem NP.set {w wr : World} {n : Nat} {bs : Value} {F P M i : Nat} {bf : List Int} {D : DataW Unit} (h : NP w wr n bs F P M i bf D) (k : Nat) (hk : bf.length = k) (hn : k < n) (x : Int) : NP w (wr.setCell ⟨F, k, none⟩ (.int .i64 x)) n bs F P M i (bf ++ [x]) D :=
  ⟨by rw [heap_set_other _ _ _ _ _ (by have := h.o1; omega)]; exact h.res, by rw [heap_set_other _ _ _ _ _ (by have := h.o2; omega)]; exact h.pl, h.part.next hk hn x, h.map.setCell (by have := h.o2; have := h.o3; show M ≠ F; omega) _, h.below.setCell (by have := h.o1; show w.heap.size ≤ F; omega) _, h.o1, h.o2, h.o3⟩
theorem NP.less {w wr : World} {n : Nat} {bs : Value} {F P M i : Nat} {bf : List Int} {D : DataW Unit} {x : Int} (h : NP w wr n bs F P M i (bf ++ [x]) D) : NP w wr n bs F P M i bf D := ⟨h.res, h.pl, h.part.less, h.map, h.below, h.o1, h.o2, h.o3⟩
theorem NP.more {w wr : World} {n : Nat} {bs : Value} {F P M i : Nat} {bf : List Int} {D : DataW Unit} (h : NP w wr n bs F P M i bf D) : NP w wr n bs F P M (i + 1) bf D := ⟨h.res, h.pl, h.part, h.map.mono (by omega), h.below, h.o1, h.o2, h.o3⟩
theorem NP.upd {w wr : World} {n : Nat} {bs : Value} {F P M i : Nat} {bf : List Int} {D : DataW Unit} {w' : World} {D' : DataW Unit} (h : NP w wr n bs F P M i bf D) (hg : wr.grownBy w' (some M)) (hm : w'.ownsMap Tryd.prog 51 (plainElem Tryd.prog 3) M (i + 1) D') : NP w w' n bs F P M (i + 1) bf D' := by
  have h1 := h.o1
  have h2 := h.o2
  have h3 := h.o3
  have ne : ∀ k, k < M → some k ≠ some M := fun k hk e => by have := Option.some.inj e; omega
  refine ⟨?_, ?_, h.part.same (hg.block F h.part.lt (ne _ (by omega))), hm, h.below.grown hg h.below.size (fun k hk => by cases hk; omega), h1, h2, h3⟩
  · rw [hg.block _ (lt_of_some h.res) (ne _ (by omega))]; exact h.res
  · rw [hg.block _ (lt_of_some h.pl) (ne _ (by omega))]; exact h.pl
theorem NP.cells {w wr : World} {n : Nat} {bs : Value} {F P M i : Nat} {bf : List Int} {D : DataW Unit} (h : NP w wr n bs F P M i bf D) : wr.cell? ⟨P, 0, none⟩ = some bs ∧ wr.cell? ⟨P, 1, none⟩ = some (.slice (some ⟨F, 0, none⟩) n n) ∧ wr.cell? ⟨w.heap.size, 0, none⟩ = some (.slice none 0 0) ∧ wr.cell? ⟨w.heap.size, 1, none⟩ = some (.slice none 0 0) := by
  refine ⟨?_, ?_, ?_, ?_⟩ <;> simp [World.cell?, h.pl, h.res]
theorem NP.thaw {w wr : World} {n : Nat} {bs : Value} {F P M i : Nat} {bf : List Int} {D : DataW Unit} (h : NP w wr n bs F P M i bf D) (k : Nat) : wr.frozen? ⟨w.heap.size, k, none⟩ = false := by simp [World.frozen?, h.res]
/-- What newPlaces leaves. -/
def NPPost (b : List UInt8) (B cap : Nat) (w : World) (e : Ending) (w' : World) : Prop := ∃ (F : Nat) (bf : List Int), e = .returned (.agg #[.slice (some ⟨B, 0, none⟩) b.length cap, .slice (some ⟨F, 0, none⟩) b.length b.length]) ∧ bf.length = b.length ∧ w.heap.size ≤ F ∧ F < w'.heap.size ∧ IntsAt w' F bf ∧ (∀ k (hk : k < bf.length), Bef b k bf[k]) ∧ Below w.heap.size w w'
theorem bef_snoc {b : List UInt8} {bf : List Int} {i : Nat} {x : Int} (hb : bf.length = i) (h : ∀ k (hk : k < bf.length), Bef b k bf[k]) (hx : Bef b i x) : ∀ k (hk : k < (bf ++ [x]).length), Bef b k (bf ++ [x])[k] := by
  intro k hk
  rcases Nat.lt_or_ge k bf.length with h1 | h1
  · rw [List.getElem_append_left h1]; exact h k h1
  · have hkk : k = i := by simp at hk; omega
    subst hkk
    rw [List.getElem_append_right h1]
    simpa using hx
set_option maxRecDepth 1000000 in
set_option maxHeartbeats 3200000 in
theorem newPlaces_any (b : List UInt8) (n B cap : Nat) (w : World) (hn : n = b.length) (hl : b.length ≤ 4096) (hB : B < w.heap.size) (hc : BytesAt w B 0 b) :
    Calls Tryd.prog 19 #[.slice (some ⟨B, 0, none⟩) n cap] w (NPPost b B cap w) := by
  subst hn
  have HC : Hid (BytesAt w B 0 b) := hc
  clear hc
  obtain ⟨i0, hi, hz0, hz1, hz2⟩ := info_parts Tryd.info3
  have hmm := run_makeMap_some
  go_enter Tryd.func19, Tryd.ntmps19
  go_wp2_with (at_make; refine wpList_make_full _ rfl _ _ 41 rfl w.heap.size 3 i0 (.int .i64 0) 1 Tryd.underlying41 hi hz0 hz1 _ _ _ _ b.length rfl rfl rfl rfl (by rw [hz2]; omega) (by unfold maxLen; omega) (by simp) ?_; intro w0 hown0 hgrow0)
  have HNP : Hid (NP w ((w0.alloc (Obj.cells #[Value.slice (some ⟨B, 0, none⟩) b.length cap, Value.slice (some ⟨w.heap.size + 1, 0, none⟩) b.length b.length] 43)).alloc (Obj.map #[] 0)) b.length (.slice (some ⟨B, 0, none⟩) b.length cap) (w.heap.size + 1) w0.heap.size (w0.heap.size + 1) 0 [] (.map [])) := by
    have e1 : (w.alloc (Obj.cells #[Value.slice none 0 0, Value.slice none 0 0] 43)).heap.size = w.heap.size + 1 := by simp
    rw [e1] at hown0
    have p0 := IPart.made hown0
    have b0 : w0.heap[w.heap.size]? = some (.cells #[.slice none 0 0, .slice none 0 0] 43 (0, 0)) := by
      rw [hgrow0.block _ (by rw [e1]; omega) (by simp), heap_alloc_new]
    have l0 := lt_of_some b0
    have l1 := p0.lt
    have hs2 : (w0.alloc (Obj.cells #[Value.slice (some ⟨B, 0, none⟩) b.length cap, Value.slice (some ⟨w.heap.size + 1, 0, none⟩) b.length b.length] 43)).heap.size = w0.heap.size + 1 := by simp
    refine ⟨?_, ?_, ?_, ?_, ?_, by omega, by omega, by omega⟩
    · rw [heap_alloc_old _ _ _ (by rw [hs2]; omega), heap_alloc_old _ _ _ l0]; exact b0
    · rw [heap_alloc_old _ _ _ (by rw [hs2]; omega), heap_alloc_new]
    · exact (p0.same (heap_alloc_old _ _ _ l1)).same (heap_alloc_old _ _ _ (by rw [hs2]; omega))
    · have h := World.ownsMap_made (H := Unit) (w0.alloc (Obj.cells #[Value.slice (some ⟨B, 0, none⟩) b.length cap, Value.slice (some ⟨w.heap.size + 1, 0, none⟩) b.length b.length] 43)) Tryd.prog 51 (plainElem Tryd.prog 3)
      rw [hs2] at h; exact h
    · have b1 : Below w.heap.size w w0 := ((Below.refl _ _).alloc (Nat.le_refl _) _).grown hgrow0 (by rw [e1]; omega) (fun k h => by cases h)
      exact (b1.alloc b1.size _).alloc (by rw [hs2]; omega) _
  clear hown0 hgrow0 hi hz0 hz1 hz2 hmm
  obtain ⟨F, hF⟩ : ∃ F, F = w.heap.size + 1 := ⟨_, rfl⟩
  obtain ⟨P, hP⟩ : ∃ P, P = w0.heap.size := ⟨_, rfl⟩
  obtain ⟨M, hM⟩ : ∃ M, M = w0.heap.size + 1 := ⟨_, rfl⟩
  obtain ⟨W1, hW1⟩ : ∃ W1, W1 = (w0.alloc (Obj.cells #[Value.slice (some ⟨B, 0, none⟩) b.length cap, Value.slice (some ⟨w.heap.size + 1, 0, none⟩) b.length b.length] 43)).alloc (Obj.map #[] 0) := ⟨_, rfl⟩
  rw [← hW1] at HNP ⊢
  rw [← hM, ← hF, ← hP] at HNP
  rw [← hM, ← hF, ← hP]
  clear hW1 hM hP hF
  go_loopw [19] (fun x wr => ∃ (i : Nat) (bf : List Int) (D : DataW Unit), x = .int .i64 i ∧ i ≤ b.length ∧ bf.length = i ∧ MapInv b i D ∧ (∀ k (hk : k < bf.length), Bef b k bf[k]) ∧ NP w wr b.length (.slice (some ⟨B, 0, none⟩) b.length cap) F P M i bf D) (fun x _ => b.length - (intOf x).toNat)
  case atStart => exact ⟨0, [], .map [], rfl, by omega, rfl, mapInv_zero b, fun k hk => by simp at hk, HNP.out⟩
  case round =>
    obtain ⟨i, bf, D, rfl, hi, hbl, hinv, hbef, hnp⟩ := hrel
    have HBLN : Hid (bf.length = i) := hbl
    have HI : Hid (MapInv b i D) := hinv
    have HBE : Hid (∀ k (hk : k < bf.length), Bef b k bf[k]) := hbef
    have HN : Hid (NP w wr b.length (.slice (some ⟨B, 0, none⟩) b.length cap) F P M i bf D) := hnp
    clear hbl hinv hbef hnp HNP
    obtain ⟨c0, c1, c2, c3⟩ := HN.out.cells
    by_cases hlt : i < b.length
    · have hlt' : (i : Int) < (b.length : Int) := by omega
      obtain ⟨v, hv, hf⟩ := HN.out.part.cell i hlt
      have HN1 : Hid (NP w (wr.setCell ⟨F, i, none⟩ (.int .i64 (-1))) b.length (.slice (some ⟨B, 0, none⟩) b.length cap) F P M i (bf ++ [-1]) D) := HN.out.set i HBLN.out hlt (-1)
      by_cases h4 : i + 4 ≤ b.length
      · have h4' : ¬ (b.length : Int) < (i : Int) + 4 := by omega
        have hbel1 := HN1.out.below
        obtain ⟨W2, hW2⟩ : ∃ W2, W2 = wr.setCell ⟨F, i, none⟩ (.int .i64 (-1)) := ⟨_, rfl⟩
        rw [← hW2] at HN1 hbel1
        obtain ⟨x, hx⟩ : ∃ x, x = b.getD i 0 := ⟨_, rfl⟩
        obtain ⟨y, hy⟩ : ∃ y, y = b.getD (i + 1) 0 := ⟨_, rfl⟩
        obtain ⟨z, hz⟩ : ∃ z, z = b.getD (i + 2) 0 := ⟨_, rfl⟩
        obtain ⟨u, hu⟩ : ∃ u, u = b.getD (i + 3) 0 := ⟨_, rfl⟩
        have HKE : Hid (key4 b i = [x, y, z, u]) := by show _ = _; rw [hx, hy, hz, hu]; rfl
        have d0 : W2.cell? ⟨B, i, none⟩ = some (.int .u8 ((x.toNat : Nat) : Int)) := by rw [hx]; exact byte_at (HC.out.below hbel1 hB) _ (by omega)
        have d1 : W2.cell? ⟨B, i + 1, none⟩ = some (.int .u8 ((y.toNat : Nat) : Int)) := by rw [hy]; exact byte_at (HC.out.below hbel1 hB) _ (by omega)
        have d2 : W2.cell? ⟨B, i + 2, none⟩ = some (.int .u8 ((z.toNat : Nat) : Int)) := by rw [hz]; exact byte_at (HC.out.below hbel1 hB) _ (by omega)
        have d3 : W2.cell? ⟨B, i + 3, none⟩ = some (.int .u8 ((u.toNat : Nat) : Int)) := by rw [hu]; exact byte_at (HC.out.below hbel1 hB) _ (by omega)
        have g1 : (i : Int) + 1 < (b.length : Int) := by omega
        have g2 : (i : Int) + 2 < (b.length : Int) := by omega
        have g3 : (i : Int) + 3 < (b.length : Int) := by omega
        have hbz : B < W2.heap.size := Nat.lt_of_lt_of_le hB hbel1.size
        have HBE1 : Hid (Below w.heap.size w W2) := hbel1
        clear hx hy hz hu hbel1
        go_wp2
        rw [← hW2]
        clear hW2 hv hf c0 c1 c2 c3 HN
        go_region
        obtain ⟨K, hK⟩ : ∃ K, K = W2.heap.size := ⟨_, rfl⟩
        have hFK : F < K := by rw [hK]; exact HN1.out.part.lt
        obtain ⟨W3, hW3⟩ : ∃ W3, W3 = (W2.alloc (Obj.cells #[Value.int IntKind.u8 ((x.toNat : Nat) : Int), Value.int IntKind.u8 ((y.toNat : Nat) : Int), Value.int IntKind.u8 ((z.toNat : Nat) : Int), Value.int IntKind.u8 ((u.toNat : Nat) : Int)] 51)).drew := ⟨_, rfl⟩
        have HN3 : Hid (NP w W3 b.length (.slice (some ⟨B, 0, none⟩) b.length cap) F P M i (bf ++ [-1]) D) := by rw [hW3]; exact (HN1.out.alloc _).drew1
        have k0 : W3.cell? ⟨K, 0, none⟩ = some (.int .u8 ((x.toNat : Nat) : Int)) := by rw [hW3, hK]; simp
        have k1 : W3.cell? ⟨K, 1, none⟩ = some (.int .u8 ((y.toNat : Nat) : Int)) := by rw [hW3, hK]; simp
        have k2 : W3.cell? ⟨K, 2, none⟩ = some (.int .u8 ((z.toNat : Nat) : Int)) := by rw [hW3, hK]; simp
        have k3 : W3.cell? ⟨K, 3, none⟩ = some (.int .u8 ((u.toNat : Nat) : Int)) := by rw [hW3, hK]; simp
        rw [← hW3, ← hK]
        clear hW3 hK d0 d1 d2 d3 hbz HBE1 HN1
        have hne1 : K ≠ F := by omega
        have hne2 : F ≠ K := by omega
        have HKEY : Hid (keyOf Tryd.prog 51 (.agg #[.int .u8 ((x.toNat : Nat) : Int), .int .u8 ((y.toNat : Nat) : Int), .int .u8 ((z.toNat : Nat) : Int), .int .u8 ((u.toNat : Nat) : Int)]) = some (.string [x, y, z, u])) := key_some x y z u
        have HPUT : Hid (MapInv b (i + 1) (D.put (.string [x, y, z, u]) (.lit (.int .i64 i)))) := by
          have h := HI.out.put HN3.out.map.isMap h4
          rw [HKE.out] at h; exact h
        have HWF : Hid ((Lit.int .i64 (i : Int)).wf = true) := WalkArith.wf_i64 (by omega)
        obtain ⟨v3, hv3, hf3⟩ := HN3.out.part.cell i hlt
        obtain ⟨p0, p1, _, _⟩ := HN3.out.cells
        cases hh : Maps.has D (.string [x, y, z, u]) with
        | true =>
          go_wp2_with (first
            | (at_lookup; refine wpList_lookup_own_ok_int _ rfl _ _ 50 rfl 51 3 .i64 keyLaw Tryd.underlying50 Tryd.underlying3 (zeroInt _) M i D rfl HN3.out.map _ _ rfl HKEY.out ?_; intro c hat hwc; have HN4 := hid_mk (HN3.out.less.set i HBLN.out hlt c); have HBF : Hid (Bef b i c) := by {show Bef _ _ _; exact HI.out.hit h4 (by rw [HKE.out]; exact hh) c (by rw [HKE.out]; exact hat)}; clear hat hwc)
            | (at_mapUpdate; refine wpList_mapUpdate_own _ rfl _ _ _ 50 rfl 51 3 keyLaw Tryd.underlying50 _ M i D rfl HN4.out.map (by unfold maxLen; omega) _ _ _ rfl rfl HKEY.out _ [] (plainElem_int Tryd.underlying3 HWF.out) ?_; intro w9 hown9 hgrow9; have HN9 := hid_mk (HN4.out.upd hgrow9 hown9); clear hown9 hgrow9))
          go_roundw
          case rel => exact ⟨i + 1, bf ++ [c], _, by go_num, by omega, by have := HBLN.out; simp; omega, HPUT.out, bef_snoc HBLN.out HBE.out HBF.out, HN9.out⟩
          case measure => simp [intOf]; omega
        | false =>
          have HBF : Hid (Bef b i (-1)) := HI.out.miss (by rw [HKE.out]; exact hh)
          go_wp2_with (first
            | (at_lookup; refine wpList_lookup_own_ok_int _ rfl _ _ 50 rfl 51 3 .i64 keyLaw Tryd.underlying50 Tryd.underlying3 (zeroInt _) M i D rfl HN3.out.map _ _ rfl HKEY.out ?_; intro c hat hwc; clear hat hwc)
            | (at_mapUpdate; refine wpList_mapUpdate_own _ rfl _ _ _ 50 rfl 51 3 keyLaw Tryd.underlying50 _ M i D rfl HN3.out.map (by unfold maxLen; omega) _ _ _ rfl rfl HKEY.out _ [] (plainElem_int Tryd.underlying3 HWF.out) ?_; intro w9 hown9 hgrow9; have HN9 := hid_mk (HN3.out.upd hgrow9 hown9); clear hown9 hgrow9))
          go_roundw
          case rel => exact ⟨i + 1, bf ++ [-1], _, by go_num, by omega, by have := HBLN.out; simp; omega, HPUT.out, bef_snoc HBLN.out HBE.out HBF.out, HN9.out⟩
          case measure => simp [intOf]; omega
      · have h4' : (b.length : Int) < (i : Int) + 4 := by omega
        go_wp2
        go_roundw
        case rel => exact ⟨i + 1, bf ++ [-1], D, by go_num, by omega, by have := HBLN.out; simp; omega, HI.out.skip h4, fun k hk => by
            rcases Nat.lt_or_ge k bf.length with h | h
            · rw [List.getElem_append_left h]; exact HBE.out k h
            · have hkk : k = i := by have := HBLN.out; simp at hk; omega
              subst hkk
              rw [List.getElem_append_right h]
              simp
              exact bef_none b _ h4, HN1.out.more⟩
        case measure => simp [intOf]; omega
    · have hlt' : ¬ (i : Int) < (b.length : Int) := by omega
      have f0 := HN.out.thaw 0
      have f1 := HN.out.thaw 1
      have hib : i = b.length := by omega
      subst hib
      go_wp2
      refine bodyPost_ret (v := .agg #[.slice (some ⟨B, 0, none⟩) b.length cap, .slice (some ⟨F, 0, none⟩) b.length b.length]) (by simp [results, Tryd.results19, go_sem, c2, c3]) rfl ?_
      have hne : F ≠ w.heap.size := by have := HN.out.o1; omega
      have hp : IPart ((wr.setCell ⟨w.heap.size, 0, none⟩ (.slice (some ⟨B, 0, none⟩) b.length cap)).setCell ⟨w.heap.size, 1, none⟩ (.slice (some ⟨F, 0, none⟩) b.length b.length)) F b.length bf := by
        refine HN.out.part.same ?_
        rw [heap_set_other _ _ _ _ _ hne, heap_set_other _ _ _ _ _ hne]
      exact ⟨F, bf, rfl, HBLN.out, by have := HN.out.o1; omega, hp.lt, hp.ints, HBE.out, (HN.out.below.setCell (Nat.le_refl _) _).setCell (Nat.le_refl _) _⟩
end Go.Proofs.YtppmjdmdflcoiabDoor
