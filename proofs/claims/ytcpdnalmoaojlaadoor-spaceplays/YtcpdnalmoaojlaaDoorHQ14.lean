import Derived.Test.YtcpdnalmoaojlaaDoorHQ11
import Derived.Test.YtcpdnalmoaojlaaDoorHQ12

/-
  Bytes that are lent, and come back; bytes that are spoilt; runs, and the first ones of them.
-/
namespace Go.Proofs.YtcpdnalmoaojlaaDoor
open Go.ChangeShapes Go.WideShapes Go.ChangeAt Go.RowKit Go.Shelf
set_option linter.unusedVariables false
set_option linter.unusedSimpArgs false

theorem lent_any (l : List UInt8) (b off cap : Nat) (w : World) (hl : l.length ≤ 140737488355328) (hb : b < w.heap.size) (hc : BytesAt w b off l) :
    Calls Tryd.prog 50 #[.slice (some ⟨b, off, none⟩) l.length cap] w fun e w' => e = .returned (.slice (some ⟨w.heap.size, 0, none⟩) l.length (l.length + 9)) ∧ Block w' w.heap.size (l ++ List.replicate 9 77) ∧ Below w.heap.size w w' := by
  obtain ⟨i0, hi, hz0, hz1, hz2⟩ := info_parts Tryd.info5
  have HC : Hid (BytesAt w b off l) := hc
  clear hc
  go_enter Tryd.func50, Tryd.ntmps50
  go_wp2_with (at_make; refine wpList_make_own _ rfl _ _ 53 rfl w.heap.size 5 i0 (.int .u8 0) 1 Tryd.underlying53 hi hz0 hz1 _ _ _ (l.length + 9) rfl rfl (by omega) ?b2 ?b3 (Nat.le_refl _) ?_)
  case b2 => rw [hz2]; omega
  case b3 => unfold maxLen; omega
  intro w0 hown0 hgrow0
  have bel0 : Below w.heap.size w w0 := (Below.refl _ _).grown hgrow0 (Nat.le_refl _) (fun k h => by cases h)
  go_wp2_with (at_builtin; refine wpList_append_fits _ rfl _ _ 53 rfl w.heap.size 5 i0 1 Tryd.underlying53 hi hz1 w.heap.size 0 (l.length + 9) _ rfl hown0 ⟨b, off, none⟩ l.length cap (l.map by8) rfl (by simp) ?c1 ?c2 (by omega) ?_)
  case c1 =>
    intro j u hj
    have hj' : j < l.length := by
      have := (List.getElem?_eq_some_iff.1 hj).1
      simpa using this
    have h := (HC.out.below bel0 hb) j hj'
    simp [hj', by8] at hj
    subst hj
    rw [add_at]; exact h
  case c2 => intro u hu; simp at hu; obtain ⟨x, _, rfl⟩ := hu; rfl
  intro w1 hown1 hgrow1
  have hp : Part w1 w.heap.size (l.length + 9) l.length l := by
    exact Part.of_owns (by simpa using hown1)
  have hs0 : w.heap.size < w0.heap.size := by
    obtain ⟨_, h⟩ := hown0
    rcases h with ⟨h, _⟩ | ⟨g, c, cur, h3, _, h4, _⟩
    · cases h
    · simp at h3
      obtain ⟨rfl, _⟩ := h3
      exact (Array.getElem?_eq_some_iff.1 h4).1
  have bel1 : Below w.heap.size w w1 := bel0.grown hgrow1 bel0.size (fun k h => by cases h; exact Nat.le_refl _)
  clear hown0 hown1 hgrow0 hgrow1 hi hz0 hz1 hz2
  go_wp2
  go_loopw [5] (fun i wr => ∃ k : Nat, i = .int .i64 ((l.length + k : Nat) : Int) ∧ k ≤ 9 ∧ Part wr w.heap.size (l.length + 9) (l.length + k) (l ++ List.replicate k 77) ∧ Below w.heap.size w wr) (fun i _ => l.length + 9 - (intOf i).toNat)
  case atStart => exact ⟨0, by simp, by omega, by simpa using hp, bel1⟩
  case round =>
    obtain ⟨k, rfl, hk, hpr, hbel⟩ := hrel
    have HP : Hid (Part wr w.heap.size (l.length + 9) (l.length + k) (l ++ List.replicate k 77)) := hpr
    have HB : Hid (Below w.heap.size w wr) := hbel
    clear hp bel1 bel0 HC
    by_cases h9 : k < 9
    · obtain ⟨v, hv, hf⟩ := hpr.cell (by omega)
      clear hpr hbel
      go_wp2
      go_roundw
      case rel => exact ⟨k + 1, by go_num, by omega, by have h := HP.out.next (by omega) (by simp) 77; rw [List.replicate_succ', ← List.append_assoc]; exact h, HB.out.setCell (Nat.le_refl _) _⟩
      case measure => simp [intOf]; omega
    · have hk9 : k = 9 := by omega
      clear hpr hbel
      subst hk9
      go_wp2
      go_ret
      exact ⟨rfl, HP.out.whole, HB.out⟩

theorem same_true (l : List UInt8) (b off cap b' off' cap' : Nat) (w : World) (h : BytesAt w b off l) (h' : BytesAt w b' off' l) :
    Calls Tryd.prog 66 #[.slice (some ⟨b, off, none⟩) l.length cap, .slice (some ⟨b', off', none⟩) l.length cap'] w fun e w' => e = .returned (.bool true) ∧ w' = w := by
  have k1 := run_convert_bytes_back (P := Tryd.prog) w 53 9 5 ⟨b, off, none⟩ cap l Tryd.underlying53 Tryd.underlying5 Tryd.underlying9 (fun j hj => by rw [add_at]; exact h j hj)
  have k2 := run_convert_bytes_back (P := Tryd.prog) w 53 9 5 ⟨b', off', none⟩ cap' l Tryd.underlying53 Tryd.underlying5 Tryd.underlying9 (fun j hj => by rw [add_at]; exact h' j hj)
  clear h h'
  go_enter Tryd.func66, Tryd.ntmps66
  go_wp2
  go_ret
  exact ⟨rfl, rfl⟩

theorem back_any (l : List UInt8) (B b off cap : Nat) (w : World) (hl : l.length ≤ 140737488355328) (hB : Block w B (l ++ List.replicate 9 77)) (hc : BytesAt w b off l) :
    Calls Tryd.prog 51 #[.slice (some ⟨B, 0, none⟩) l.length (l.length + 9), .slice (some ⟨b, off, none⟩) l.length cap] w fun e w' => e = .returned (.bool true) ∧ w.grownBy w' (some B) := by
  have hs := same_true l B 0 (l.length + 9) b off cap w hB.bytes hc
  have hr : Rest w B (l.length + 9) 0 (l ++ List.replicate 9 77) := by have h := Rest.of_block hB; simpa using h
  clear hB hc
  go_enter Tryd.func51, Tryd.ntmps51
  go_wp2_with (go_at_call 66; refine hs.mono ?_; rintro e w' ⟨rfl, rfl⟩; clear hs)
  go_loopw [5, 7] (fun ok i wr => ∃ k : Nat, ok = .bool true ∧ i = .int .i64 k ∧ k ≤ l.length + 9 ∧ Rest wr B (l.length + 9) k ((l ++ List.replicate 9 77).drop k) ∧ w'.grownBy wr (some B)) (fun _ i _ => l.length + 9 - (intOf i).toNat)
  case atStart => exact ⟨0, rfl, rfl, by omega, by simpa using hr, World.grownBy.refl _ _⟩
  case round =>
    obtain ⟨k, rfl, rfl, hk, hrest, hg⟩ := hrel
    have HG : Hid (w'.grownBy wr (some B)) := hg
    clear hg hr
    by_cases h9 : k < l.length + 9
    · obtain ⟨x, hx⟩ : ∃ x, x = (l ++ List.replicate 9 77)[k]'(by simpa using h9) := ⟨_, rfl⟩
      rw [List.drop_eq_getElem_cons (by simpa using h9), ← hx] at hrest
      have HN : Hid (∀ v, Rest (wr.setCell ⟨B, k, none⟩ v) B (l.length + 9) (k + 1) ((l ++ List.replicate 9 77).drop (k + 1))) := fun v => hrest.next v
      obtain ⟨hv, hf⟩ := hrest.cell
      clear hrest
      by_cases hn : l.length ≤ k
      · have hx77 : x = 77 := by rw [hx, List.getElem_append_right hn]; exact List.getElem_replicate _
        subst hx77
        have hv77 : wr.cell? ⟨B, k, none⟩ = some (.int .u8 77) := hv
        have hn' : (l.length : Int) ≤ (k : Int) := by omega
        clear hv hx
        go_wp2
        go_roundw
        case rel => exact ⟨k + 1, rfl, by go_num, by omega, HN.out _, grown_set HG.out _⟩
        case measure => simp [intOf]; omega
      · have hn' : (k : Int) < (l.length : Int) := by omega
        clear hx
        go_wp2
        go_roundw
        case rel => exact ⟨k + 1, rfl, by go_num, by omega, HN.out _, grown_set HG.out _⟩
        case measure => simp [intOf]; omega
    · clear hrest
      go_wp2
      go_ret
      exact ⟨rfl, HG.out⟩

set_option maxRecDepth 100000 in
theorem wipe_any (g N c : Nat) (cur : Array Value) (w : World) (hc : w.heap[g]? = some (.cells cur 5 (0, 0))) (hs : cur.size = c) (hN : N ≤ c) (hm : c ≤ 9223372036854775807) :
    Calls Tryd.prog 52 #[.slice (some ⟨g, 0, none⟩) N c] w fun e w' => (∃ u, e = .returned u) ∧ Kept (fun k => k ≠ g) w w' := by
  have HC := hid_mk hc
  have HS := hid_mk hs
  have hci : ¬ (c : Int) < 0 := by omega
  clear hc hs
  go_enter Tryd.func52, Tryd.ntmps52
  go_wp2_with fail
  go_loopg [2] c (fun k i wr => ∃ (j : Nat) (cu : Array Value), i = .int .i64 (j : Int) ∧ j ≤ c ∧ k = c - j ∧ wr.heap[g]? = some (.cells cu 5 (0, 0)) ∧ cu.size = c ∧ Kept (fun k => k ≠ g) w wr)
  case atStart => exact ⟨0, cur, rfl, by omega, by omega, HC.out, HS.out, Kept.refl _ _⟩
  case round =>
    obtain ⟨j, cu, rfl, hj, hk, hcu, hsz, hkp⟩ := hrel
    have HGK := hid_mk hk
    have HKP := hid_mk hkp
    have HCU := hid_mk hcu
    have HSZ := hid_mk hsz
    clear hk hkp
    by_cases hlt : j < c
    · have hji : (j : Int) < (c : Int) := by omega
      have hf := unfrozen hcu j
      obtain ⟨u, hu⟩ : ∃ u, wr.cell? ⟨g, j, none⟩ = some u := by
        have : j < cu.size := by omega
        exact ⟨cu[j], by simp [World.cell?, hcu, this]⟩
      have x1 : IntKind.i64.wrap ((j : Int) + 1) = (j : Int) + 1 := by rw [IntKind.wrap_i64]; omega
      clear hcu hsz
      go_wp2_with fail
      go_roundg (c - (j + 1))
      case measure => have := HGK.out; omega
      case rel =>
        refine ⟨j + 1, _, by go_num, by omega, rfl, heap_put HCU.out _, by simpa using HSZ.out, HKP.out.trans ⟨rfl, rfl, rfl, by simp [World.setCell], fun k _ hk => Below.heap_setCell _ _ _ _ hk⟩⟩
    · obtain rfl : j = c := by omega
      clear hcu hsz
      go_wp2_with fail
      go_end0
      exact ⟨⟨_, rfl⟩, HKP.out⟩
set_option maxRecDepth 100000 in
theorem prunsK_any (s rows K : Nat) (l : List Pc) (w : World) (hs : SpAt w s rows l) (hok : SpOk rows l) :
    Calls Tryd.prog 11 #[plv s, .int .i64 (K : Int)] w fun e w' => ∃ v1 v, e = .returned (.tuple #[v1, v]) ∧ ROwns w' w.heap.size v1 ((fil l).take K) ∧ ROwns w' w.heap.size v (fil l) ∧ Below w.heap.size w w' := by
  obtain ⟨V, hV⟩ : ∃ V, V = w.alloc (.cells #[.pointer (some ⟨s, 0, none⟩)] 26) := ⟨_, rfl⟩
  have bV : Below w.heap.size w V := by rw [hV]; exact Below.alloc (Below.refl _ _) (Nat.le_refl _) _
  have eV : V.heap[w.heap.size]? = some (.cells #[.pointer (some ⟨s, 0, none⟩)] 26 (0, 0)) := by rw [hV]; exact heap_alloc_new _ _
  have c0 : V.cell? ⟨w.heap.size, 0, none⟩ = some (.pointer (some ⟨s, 0, none⟩)) := by simp [World.cell?, eV]
  have HT : Hid (Calls Tryd.prog 38 #[.pointer (some ⟨s, 0, none⟩)] V fun e w' => e = .returned (.func (.func 54) #[] #[.pointer (some ⟨V.heap.size, 0, none⟩)]) ∧ w' = V.alloc (.cells #[.pointer (some ⟨s, 0, none⟩)] 24)) := (callsIn_wide (n := 3)).1 (runs_in 3 _ V)
  obtain ⟨X, hX⟩ : ∃ X, X = V.alloc (.cells #[.pointer (some ⟨s, 0, none⟩)] 24) := ⟨_, rfl⟩
  have bX : Below V.heap.size V X := by rw [hX]; exact Below.alloc (Below.refl _ _) (Nat.le_refl _) _
  have sX : X.heap.size = V.heap.size + 1 := by rw [hX]; simp
  have HL : Hid (Calls Tryd.prog 37 #[.func (.func 54) #[] #[.pointer (some ⟨V.heap.size, 0, none⟩)], .int .i64 (K : Int)] X fun e w' => ∃ v1 v, e = .returned (.tuple #[v1, v]) ∧ ROwns w' X.heap.size v1 ((fil l).take K) ∧ ROwns w' X.heap.size v (fil l) ∧ Below X.heap.size X w') := by
    have hlt := (hs.below bV).lt
    obtain ⟨p0, h1, h2⟩ := hs.below bV
    obtain ⟨_, _, _, c3⟩ := sp_cells h1
    have cT : X.cell? ⟨V.heap.size, 0, none⟩ = some (.pointer (some ⟨s, 0, none⟩)) := by
      have h := heap_alloc_new V (.cells #[.pointer (some ⟨s, 0, none⟩)] 24)
      rw [← hX] at h
      simp [World.cell?, h]
    have hlen := fits_len hok.fits
    exact listed_most 54 K _ Small (fun k => k < V.heap.size ∨ k = V.heap.size) l.length (fil l) X (enters_of Tryd.func54 (by kernel_rfl) rfl)
      (runs_seq V.heap.size s p0 l Small hok.small V X h2 c3 hlt bX (by omega) cT) (fun k hk => by rcases hk with h | h <;> omega) (by have := hok.rows30; omega)
  have HB : Hid (Below w.heap.size w X) := bV.trans (bX.mono bV.size)
  have HX := hid_mk hX
  clear hs bV eV hok bX sX hX
  unfold plv
  go_enter Tryd.func11, Tryd.ntmps11
  go_wp2_with fail
  rw [← hV]
  clear hV
  go_wp2_with (first | (go_at_call 38; refine HT.out.mono ?_; clear HT; rintro e w2 ⟨rfl, hw2⟩; rw [hw2, ← HX.out]; clear hw2) | (go_at_call 37; refine HL.out.mono ?_; clear HL; rintro e w3 ⟨v1, v, rfl, h0, h1, h2⟩; have H0 := hid_mk h0; have H1 := hid_mk h1; have H2 := hid_mk h2; clear h0 h1 h2))
  go_ret2
  have low : ∀ {v l}, ROwns w3 X.heap.size v l → ROwns w3 w.heap.size v l := fun {v l} h => by
    refine ⟨h.1, ?_⟩
    rcases h.2 with hn | ⟨g, c, cur, h3, h4, h5⟩
    · exact .inl hn
    · exact .inr ⟨g, c, cur, h3, Nat.le_trans HB.out.size h4, h5⟩
  exact ⟨_, _, rfl, low H0.out, low H1.out, HB.out.trans (H2.out.mono HB.out.size)⟩
end Go.Proofs.YtcpdnalmoaojlaaDoor
