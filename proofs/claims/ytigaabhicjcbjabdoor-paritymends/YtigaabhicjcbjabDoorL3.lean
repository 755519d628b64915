/-
  All that was lent is as it was; two lists of lists that are the same.
-/
import Derived.Test.YtigaabhicjcbjabDoorL2
import Derived.BigRegion
import Derived.RegionTactic
import Derived.Deep.RegionWith
import Derived.Handy
namespace Go.Proofs.YtigaabhicjcbjabDoor
open Go.ChangeShapes Go.WideShapes Go.ChangeAt Go.RowKit
set_option linter.unusedVariables false

/-- What is still lent, from the k-th on; and what is beside it. -/
structure AllInv (w : World) (base : Nat) (va vb : Value) (M : List (List UInt8)) (vs : List Value) (G : Nat → Nat) (N : Nat) (k : Nat) (W : World) : Prop where
  lent : ∀ j (h : j < M.length), k ≤ j → Block W (G j) (M[j] ++ List.replicate 9 77)
  out : SOwns W base vb vs
  old : Lst Cold W base va M
  below : Below base w W
  frame : ∀ b, N ≤ b → b < w.heap.size → W.heap[b]? = w.heap[b]?
theorem AllInv.drew {w : World} {base : Nat} {va vb : Value} {M : List (List UInt8)} {vs : List Value} {G : Nat → Nat} {N k : Nat} {W : World} (h : AllInv w base va vb M vs G N k W) : AllInv w base va vb M vs G N k W.drew :=
  ⟨fun j a b => h.lent j a b, h.out.below (drew_below _ _), h.old.below (drew_below _ _), h.below.trans (drew_below _ _), fun b h1 h2 => h.frame b h1 h2⟩
theorem AllInv.step {w : World} {base : Nat} {va vb : Value} {M : List (List UInt8)} {vs : List Value} {G : Nat → Nat} {N k : Nat} {W W' : World} (h : AllInv w base va vb M vs G N k W) (hGN : G k < N) (hk : k < M.length) (hmono : ∀ i j, i < j → j < M.length → G i < G j) (hb : base ≤ G k) (hs : base ≤ W.heap.size) (hg : W.grownBy W' (some (G k))) : AllInv w base va vb M vs G N (k + 1) W' := by
  have hB := h.lent k hk (Nat.le_refl _)
  refine ⟨fun j a b => (h.lent j a (by omega)).grown hg (by have := hmono k j (by omega) a; omega), h.out.grown hg (h.out.ne5 hB.cells), ?_, h.below.trans (grown_below hg hb hs), fun b h1 h2 => (hg.block b (Nat.lt_of_lt_of_le h2 h.below.size) (fun e => by cases e; omega)).trans (h.frame b h1 h2)⟩
  obtain ⟨us, u1, u2, u3⟩ := h.old
  refine ⟨us, u1.grown hg (u1.ne5 hB.cells), u2, fun i a b => (u3 i a b).keep (fun b cur fz e hz => hg.block b (Array.getElem?_eq_some_iff.1 e).1 (fun e2 => ?_))⟩
  cases e2
  rw [hB.cells] at e
  cases e
  exact hz rfl
theorem back_e (l : List UInt8) (n c B : Nat) (u : Value) (w : World) (hn : n = l.length) (hc9 : c = n + 9) (hl : l.length ≤ 140737488355328) (hB : Block w B (l ++ List.replicate 9 77)) (p : Nat × Nat → Prop) (base : Nat) (hu : ElP p w base u l) :
    Calls Tryd.prog 10 #[.slice (some ⟨B, 0, none⟩) n c, u] w fun e w' => e = .returned (.bool true) ∧ w.grownBy w' (some B) := by
  rcases hu with ⟨rfl, rfl⟩ | ⟨b, off, cp, rfl, _, h3, _⟩
  · subst hn hc9
    exact back_nil B w hB
  · subst hn
    exact back_n l _ c B b off cp w rfl hc9 hl hB h3
set_option maxRecDepth 100000 in
set_option maxHeartbeats 1000000 in
theorem lall_any (M : List (List UInt8)) (base : Nat) (va vb : Value) (vs : List Value) (G : Nat → Nat) (N : Nat) (w : World) (hGN : ∀ i, i < M.length → G i < N) (hl : M.length ≤ 100) (hp : ∀ b ∈ M, b.length ≤ 140737488355328) (hbase : base ≤ w.heap.size) (hA : Lst Cold w base va M) (hN : Lnt w base vb M vs G) :
    Calls Tryd.prog 18 #[vb, va] w fun e w' => e = .returned (.bool true) ∧ Lst Cold w' base va M ∧ Below base w w' ∧ ∀ b, N ≤ b → b < w.heap.size → w'.heap[b]? = w.heap[b]? := by
  obtain ⟨h1, h2, h3, h4, h5⟩ := hN
  have HI : Hid (AllInv w base va vb M vs G N 0 w) := ⟨fun j a _ => (h3 j (by omega) a).2.2, h1, hA, Below.refl _ _, fun _ _ _ => rfl⟩
  obtain ⟨ao, ac, rfl⟩ := hA.shape
  obtain ⟨bo, bc, rfl⟩ := h1.shape
  have H2 := hid_mk h2
  have H3 : Hid (∀ i (h1 : i < vs.length) (h2 : i < M.length), vs[i] = .slice (some ⟨G i, 0, none⟩) M[i].length (M[i].length + 9) ∧ base ≤ G i) := fun i a b => ⟨(h3 i a b).1, (h3 i a b).2.1⟩
  have H4 := hid_mk h4
  have HP := hid_mk hp
  have HGN := hid_mk hGN
  rw [h2] at HI ⊢
  clear h1 h2 h3 h4 h5 hA hp hGN
  go_enter Tryd.func18, Tryd.ntmps18
  go_wp2
  go_loopw [5, 6] (fun ok i wr => ∃ k : Nat, ok = .bool true ∧ i = .int .i64 (k : Int) ∧ k ≤ M.length ∧ AllInv w base (.slice ao M.length ac) (.slice bo M.length bc) M vs G N k wr) (fun _ i _ => M.length - (intOf i).toNat)
  case atStart => exact ⟨0, rfl, rfl, by omega, HI.out⟩
  case round =>
    obtain ⟨k, rfl, rfl, hk, hinv⟩ := hrel
    have HV := hid_mk hinv
    clear hinv HI
    by_cases hlt : k < M.length
    · obtain ⟨g, rfl, hg1, hg2, hg3, hc1⟩ := HV.out.out.get k (by rw [H2.out]; exact hlt)
      rw [(H3.out k (by rw [H2.out]; exact hlt) hlt).1] at hc1
      obtain ⟨us, u1, u2, u3⟩ := HV.out.old
      obtain ⟨g', rfl, _, _, _, hc2⟩ := u1.get k (by rw [u2]; exact hlt)
      have hel := u3 k (by rw [u2]; exact hlt) hlt
      obtain ⟨xo, xc, hx⟩ := hel.rd.shape
      rw [hx] at hc2 hel
      have HBK : Hid (Calls Tryd.prog 10 #[.slice (some ⟨G k, 0, none⟩) M[k].length (M[k].length + 9), .slice xo M[k].length xc] wr.drew fun e w' => e = .returned (.bool true) ∧ wr.drew.grownBy w' (some (G k))) :=
        back_e M[k] _ _ (G k) _ wr.drew rfl rfl (HP.out _ (List.getElem_mem hlt)) (HV.out.lent k hlt (Nat.le_refl _)) Cold base (hel.below (drew_below _ _))
      obtain ⟨m, hm⟩ : ∃ m, m = M[k].length := ⟨_, rfl⟩
      rw [← hm] at hc1 hc2 HBK
      clear hx hel u1 u2 u3 hm
      go_wp2
      go_region_with (go_at_call 10; refine HBK.out.mono ?_; rintro e w3 ⟨rfl, hg⟩; have HG3 := hid_mk hg; clear hg)
      all_goals go_wp2
      all_goals refine ⟨⟨k + 1, rfl, by go_num, by omega, HV.out.drew.step (HGN.out k hlt) hlt H4.out (H3.out k (by rw [H2.out]; exact hlt) hlt).2 (Nat.le_trans hbase HV.out.drew.below.size) HG3.out⟩, ?_⟩
      all_goals (simp [intOf]; omega)
    · have hkk : k = M.length := by omega
      subst hkk
      go_wp2
      go_ret
      exact ⟨rfl, HV.out.old, HV.out.below, HV.out.frame⟩
/-- Two lists that read the same. -/
theorem same_rd (l : List UInt8) (n₀ n₁ : Nat) (u v : Value) (w : World) (hu : Rd n₀ w u l) (hv : Rd n₁ w v l) : Calls Tryd.prog 12 #[u, v] w fun e w' => e = .returned (.bool true) ∧ w' = w := by
  have t : ∀ {n : Nat} {x : Value} (h : Rd n w x l), (convert 22 9 x).run Tryd.prog w = .ok (.string (str l)) w := by
    intro n x h
    rcases h with ⟨rfl, rfl⟩ | ⟨b, off, cp, rfl, _, hc⟩
    · exact run_convert_bytes_nil (P := Tryd.prog) (w := w) 22 5 Tryd.underlying22 Tryd.underlying5 0 0 9 Tryd.underlying9
    · exact run_convert_bytes_back (P := Tryd.prog) w 22 9 5 ⟨b, off, none⟩ cp l Tryd.underlying22 Tryd.underlying5 Tryd.underlying9 (fun j hj => by rw [add_at]; exact hc j hj)
  have k1 := t hu
  have k2 := t hv
  clear t hu hv
  go_enter Tryd.func12, Tryd.ntmps12
  go_wp2
  go_ret
  exact ⟨rfl, rfl⟩
set_option maxRecDepth 100000 in
theorem alike_any (M : List (List UInt8)) (n₀ n₁ : Nat) (u v : Value) (w : World) (hl : M.length ≤ 1000000) (h0 : n₀ ≤ w.heap.size) (h1 : n₁ ≤ w.heap.size) (hu : Pcs n₀ w u M) (hv : Pcs n₁ w v M) : Calls Tryd.prog 20 #[u, v] w fun e w' => e = .returned (.bool true) ∧ ∃ m, w' = w.drewN m := by
  obtain ⟨ao, ac, rfl⟩ := hu.shape
  obtain ⟨bo, bc, rfl⟩ := hv.shape
  have HU := hid_mk hu
  have HV := hid_mk hv
  clear hu hv
  go_enter Tryd.func20, Tryd.ntmps20
  go_wp2
  go_loopw [5] (fun i wr => ∃ k : Nat, i = .int .i64 (k : Int) ∧ k ≤ M.length ∧ ∃ q, wr = w.drewN q) (fun i _ => M.length - (intOf i).toNat)
  case atStart => exact ⟨0, rfl, by omega, 0, rfl⟩
  case round =>
    obtain ⟨k, rfl, hk, q, hq⟩ := hrel
    have HUq : Hid (Pcs n₀ wr (.slice ao M.length ac) M) := by show Pcs _ _ _ _; rw [hq]; exact HU.out.below (drewN_below n₀ w q) (Nat.le_refl _)
    have HVq : Hid (Pcs n₁ wr (.slice bo M.length bc) M) := by show Pcs _ _ _ _; rw [hq]; exact HV.out.below (drewN_below n₁ w q) (Nat.le_refl _)
    have HQ := hid_mk hq
    clear hq
    by_cases hlt : k < M.length
    · obtain ⟨b, off, ul, ucp, rfl, hb, hc, hr⟩ := HUq.out.get k hlt
      obtain ⟨b2, off2, ul2, ucp2, rfl, hb2, hc2, hr2⟩ := HVq.out.get k hlt
      have HS : Hid (∀ n, Calls Tryd.prog 12 #[.slice ul M[k].length ucp, .slice ul2 M[k].length ucp2] (wr.drewN n) fun e w' => e = .returned (.bool true) ∧ w' = wr.drewN n) := fun n =>
        same_rd M[k] n₀ n₁ _ _ (wr.drewN n) (hr.below (drewN_below n₀ wr n) (Nat.le_refl _)) (hr2.below (drewN_below n₁ wr n) (Nat.le_refl _))
      obtain ⟨m, hm⟩ : ∃ m, m = M[k].length := ⟨_, rfl⟩
      rw [← hm] at hc hc2 HS
      clear hr hr2 hm
      go_wp2
      go_quiet (first | (go_at_call 12; exact Calls.quiet_of_same (HS.out _)))
      go_wp2
      go_roundw
      case rel => exact ⟨k + 1, by go_num, by omega, q + nq, by rw [HQ.out, World.drewN_drewN]⟩
      case measure => simp [intOf]; omega
    · have hkk : k = M.length := by omega
      subst hkk
      go_wp2
      go_ret
      exact ⟨rfl, q, HQ.out⟩
end Go.Proofs.YtigaabhicjcbjabDoor
