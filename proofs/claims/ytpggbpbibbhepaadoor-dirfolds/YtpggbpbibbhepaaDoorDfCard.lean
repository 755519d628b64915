/-
  DirFolds: the row and the card.
-/
import Derived.Test.YtpggbpbibbhepaaDoorCards
import Derived.Test.YtpggbpbibbhepaaDoorTie
import Derived.Test.YtpggbpbibbhepaaDoorDt
import Derived.Test.YtpggbpbibbhepaaDoorDg
namespace Go.Proofs.YtpggbpbibbhepaaDoor
open Go.ChangeShapes Go.WideShapes Go.ChangeAt Go.RowKit
open Go.ChangeMaps (open_string shut_string)

theorem df_laid (os : Os) : laidMet Tryd.prog Rows.dirFoldsRow.laid ((laidIn (World.holding Tryd.prog os ⟨#[], #[], []⟩)).forCall (fun _ _ => 0) ⟨#[], #[.string ByteArray.empty], []⟩).memory :=
  laidMet_of_run' 8 (by kernel_rfl) (by kernel_rfl)
theorem df_reads (os : Os) {H : Type} (enc : TypeId × Value → H) : ∃ places, DataW.whole enc Tryd.prog ((laidIn (World.holding Tryd.prog os ⟨#[], #[], []⟩)).forCall (fun _ _ => 0) ⟨#[], #[.string ByteArray.empty], []⟩).memory Tryd.f3.params.toList Rows.dirFoldsSpec.vars false #[Value.string ByteArray.empty].toList 8 = some ([.lit (.string [])], [], places) :=
  ⟨[], by kernel_rfl⟩

set_option maxRecDepth 100000 in
theorem df_lifted (hF : ∀ s : ByteArray, s.size + 4 ≤ 140737488355328 → FoldOk s) (hG : ∀ s : ByteArray, s.size + 4 ≤ 140737488355328 → GoodOk s) (os : Os) (started : os.Started) (H : Type) (enc : TypeId × Value → H) (F : Stop.Interp) :
    ReturnsInHanded {} Tryd.checked os 3 .any ((OpenSpec.ofChange Rows.dirFoldsSpec).preRow enc Tryd.prog Tryd.f3 Rows.dirFoldsRow.domain false Rows.dirFoldsRow.laid) (((OpenSpec.ofChange Rows.dirFoldsSpec).at F).post enc Tryd.prog Tryd.f3 false true false false) := by
  obtain ⟨places, hx⟩ := df_reads os enc
  refine returnsInHanded_of_row (C := Tryd.checked) (s := OpenSpec.ofChange Rows.dirFoldsSpec) own started (by kernel_rfl) Tryd.func3
    (witness_row_at (enc := enc) (C := Tryd.checked) false (laidIn (World.holding Tryd.prog os ⟨#[], #[], []⟩)) #[.string ByteArray.empty] rfl (by kernel_rfl) (by kernel_rfl) (by kernel_rfl)
      (OpenSpec.preRow_of_cond 8 hx (by kernel_rfl) (fun k hk => by cases hk) (by kernel_rfl) (df_laid os))) ?_
  intro W base args ds gs before hval0 hW hcnd _ hsz0 hL _ _
  have hval : ∀ (j : Nat) t v, Tryd.f3.params[j]? = some t → args[j]? = some v → Value.okWide Tryd.prog W .any base t v := hval0
  have hsz : (DataW.weightsEach Tryd.prog (Tryd.f3.params.toList ++ Rows.dirFoldsSpec.plain.varTypes Tryd.prog) (ds ++ gs)).all (· ≤ reachBytes) = true := hsz0
  have hW' := hW
  obtain ⟨p, q, hA0, hV, rfl, hfz, hnd⟩ := hW
  have hA : DataW.TrodAll enc Tryd.prog W 0 (fun _ => true) true Tryd.f3.params.toList args.toList ds p := hA0
  rw [Tryd.params3] at hA hval hsz
  obtain ⟨v0, vs0, d0, ds0, p0, q0, hargs, rfl, rfl, h0, r0⟩ := trodAll_cons hA
  obtain ⟨rfl, rfl, rfl⟩ := trodAll_nil r0
  obtain rfl : args = #[v0] := by cases args; simp_all
  obtain ⟨rfl, rfl⟩ := trodVars_none hV
  obtain ⟨a0, rfl, rfl, rfl, w0⟩ := open_string Tryd.underlying9 (hval 0 9 v0 rfl rfl) h0
  have s0 := sized_string hsz (j := 0) (t := 9) rfl rfl
  have e0 := bl_length a0
  simp only [bl] at e0
  rw [e0] at s0
  have hr : reachBytes = 140737488351232 := rfl
  clear hA0 hval0 hsz0 hsz
  simp only [List.append_nil] at hW'
  have hT := tabs_of hL
  have hN : 2 ≤ W.heap.size := tabs_size hT
  refine (law_walk a0 W (by omega) hT hN (hF a0 (by omega)) (hG a0 (by omega))).mono fun e W' ⟨he, bel⟩ => ?_
  subst he
  exact ⟨_, rfl, _, _, _, [], _, [], hW', trodAll_mk1 (shut_bool Tryd.underlying4 _), (trodAll_cons_mk (shut_string Tryd.underlying9 w0) trodAll_mk0), rfl, bel.frame _, fun h => by cases h⟩

theorem df_said (hF : ∀ s : ByteArray, s.size + 4 ≤ 140737488355328 → FoldOk s) (hG : ∀ s : ByteArray, s.size + 4 ≤ 140737488355328 → GoodOk s) : Rows.DirFoldsSaid :=
  OpenClaim.holds_of_cond 3 Tryd.f3 rfl rfl rfl rfl rfl rfl rfl ⟨rfl, rfl, rfl, rfl, rfl⟩ rfl rfl rfl rfl rfl (by kernel_rfl) Tryd.func3 (by kernel_rfl)
    (of_decide_eq_true (by kernel_rfl)) (by unfold Func.isWrapper; first | (rw [if_pos (by decide +kernel)]; kernel_rfl) | (rw [if_neg (by decide +kernel)]; exact ⟨rfl, rfl⟩))
    (fun os started H enc _ F => by rw [OpenClaim.pre_eq_preRow]; exact df_lifted hF hG os started H enc F)

theorem df_plain (f : FuncId) (fn : Func) (hf : Tryd.pinned.checked.prog.funcNamed "bedrock/bedrocklaw.DirFolds" = some f) (hfn : Tryd.pinned.checked.prog.funcs[f]? = some fn) :
    false = Tryd.pinned.checked.prog.looks [] ∧ ∀ (j : Nat) t, fn.params[j]? = some t → Tryd.pinned.checked.prog.wantsStandIn t = false := by
  obtain rfl : f = 3 := Option.some.inj ((show Tryd.prog.funcNamed "bedrock/bedrocklaw.DirFolds" = some 3 by kernel_rfl).symm.trans hf) |>.symm
  obtain rfl : fn = Tryd.f3 := (Option.some.inj (Tryd.func3.symm.trans hfn)).symm
  refine ⟨by kernel_rfl, fun j t ht => ?_⟩
  rw [Tryd.params3] at ht
  obtain rfl : t = 9 := by simpa using Array.mem_of_getElem? ht
  exact (show Tryd.prog.wantsStandIn 9 = false by kernel_rfl)

/-- THE CARD: a name without its case, and which names are good. -/
theorem card_of (hF : ∀ s : ByteArray, s.size + 4 ≤ 140737488355328 → FoldOk s) (hG : ∀ s : ByteArray, s.size + 4 ≤ 140737488355328 → GoodOk s) : Rows.DirFoldsCardSaid :=
  Claim7.holds_tied_plain_at .later [] _ _ _ _ (df_said hF hG) (fun _ h => by cases h) (by kernel_rfl) (fun _ h => by cases h) dirFolds_row_tie rfl ⟨rfl, rfl⟩ (by kernel_rfl) rfl df_plain (by kernel_rfl)
end Go.Proofs.YtpggbpbibbhepaaDoor
