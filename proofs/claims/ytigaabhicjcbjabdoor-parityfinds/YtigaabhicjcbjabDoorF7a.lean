/-
  'out[i] = append(out[i], fill[0])': one region of the document's own Mend.
-/
import Derived.Test.YtigaabhicjcbjabDoorF6
namespace Go.Proofs.YtigaabhicjcbjabDoor
open Go.ChangeShapes Go.WideShapes Go.ChangeAt Go.RowKit
set_option linter.unusedVariables false

set_option maxRecDepth 1000000 in
set_option maxHeartbeats 4000000 in
theorem region25 {Q : Exit → Act → World → Prop} {Y : World} {g k xc fb foff m' c' j t h2 gc2 base : Nat} {x : UInt8} {f : Nat → UInt8} (t0 t1 t2 t3 t4 t5 t6 t7 t8 t10 t11 t14 t15 t16 t17 t18 t19 t20 t21 t22 t23 t24 t25 t26 t27 t28 t29 t30 t31 t32 t33 t34 t35 t36 t37 t38 t39 t40 t41 t42 t43 t44 t45 t46 t47 t48 t49 t50 t51 t52 t53 t54 t55 t56 t57 t58 t59 t60 t61 t62 t63 t64 t65 t66 t67 t68 t69 t70 t71 t72 t73 t74 t75 t76 t77 t78 t79 t80 t81 t82 t83 t84 t85 t86 t87 t88 t89 t90 t91 t92 t93 t94 t95 t96 t97 t98 t99 t100 t101 t102 t103 t104 t105 t106 t107 t108 t109 t110 : Value)
    (hjk : (j : Int) < (k : Int)) (hgY : g < Y.heap.size) (hfY : fb < Y.heap.size) (hcell : Y.cell? ⟨g, j, none⟩ = some (.slice (some ⟨h2, 0, none⟩) t gc2)) (hfz : Y.frozen? ⟨g, j, none⟩ = false) (hfc : Y.cell? ⟨fb, foff, none⟩ = some (.int .u8 (x.toNat : Int))) (hhg : h2 ≠ g) (hfh : fb ≠ h2) (hfg : fb ≠ g) (hbase : base ≤ Y.heap.size) (ht : t ≤ 4096) (hmc : m' ≤ c')
    (hown : Owns Y base (.slice (some ⟨h2, 0, none⟩) t gc2) (vec t f))
    (hQ : ∀ (q96 q97 q98 q99 q100 q101 q102 q103 q104 q105 q106 q107 : Value) (g6 c6 : Nat) (w6 : World), Owns w6 base (.slice (some ⟨g6, 0, none⟩) (t + 1) c6) (vec t f ++ [x]) → (Y.drew.alloc (.cells #[.int .u8 (x.toNat : Int)] 5)).grownBy w6 (some h2) → (h2 = g6 ∨ g6 = Y.heap.size + 1) → Q .normal { tmps := #[t0, t1, t2, t3, t4, t5, t6, t7, t8, .slice (some ⟨g, 0, none⟩) k xc, t10, t11, .slice (some ⟨fb, foff, none⟩) (m' + 1) (c' + 1), .int .i64 (j : Int), t14, t15, t16, t17, t18, t19, t20, t21, t22, t23, t24, t25, t26, t27, t28, t29, t30, t31, t32, t33, t34, t35, t36, t37, t38, t39, t40, t41, t42, t43, t44, t45, t46, t47, t48, t49, t50, t51, t52, t53, t54, t55, t56, t57, t58, t59, t60, t61, t62, t63, t64, t65, t66, t67, t68, t69, t70, t71, t72, t73, t74, t75, t76, t77, t78, t79, t80, t81, t82, t83, t84, t85, t86, t87, t88, t89, t90, t91, t92, t93, t94, t95, q96, q97, q98, q99, q100, q101, q102, q103, q104, q105, q106, q107, t108, t109, t110], defers := [] } (w6.setCell ⟨g, j, none⟩ (.slice (some ⟨g6, 0, none⟩) (t + 1) c6))) :
    Code.wp Tryd.prog
    (Code.region 25
      #[{ dst := some 96, op := Op.move (Operand.tmp 9), type := 33, pos := "parity.go:137", after := #[],
          guard := none },
        { dst := some 97, op := Op.move (Operand.tmp 13), type := 3, pos := "parity.go:137", after := #[],
          guard := none },
        { dst := some 98, op := Op.move (Operand.tmp 9), type := 33, pos := "parity.go:137", after := #[],
          guard := none },
        { dst := some 99, op := Op.move (Operand.tmp 13), type := 3, pos := "parity.go:137", after := #[],
          guard := none },
        { dst := some 100, op := Op.indexAddr 33 (Operand.tmp 98) (Operand.tmp 99), type := 0, pos := "parity.go:137",
          after := #[{ on := 2, ground := Ground.data }, { on := 3, ground := Ground.data }], guard := none },
        { dst := some 101, op := Op.load 22 (Operand.tmp 100), type := 22, pos := "parity.go:137",
          after := #[{ on := 4, ground := Ground.data }], guard := none },
        { dst := some 102, op := Op.move (Operand.tmp 12), type := 22, pos := "parity.go:137", after := #[],
          guard := none },
        { dst := some 103, op := Op.indexAddr 22 (Operand.tmp 102) (Operand.const (Value.int IntKind.i64 0)), type := 0,
          pos := "parity.go:137", after := #[{ on := 6, ground := Ground.data }], guard := none },
        { dst := some 104, op := Op.load 5 (Operand.tmp 103), type := 5, pos := "parity.go:137",
          after := #[{ on := 7, ground := Ground.data }], guard := none },
        { dst := some 105, op := Op.buildSlice 22 1 #[(0, Operand.tmp 104)], type := 22, pos := "parity.go:137",
          after := #[{ on := 8, ground := Ground.data }], guard := none },
        { dst := some 106,
          op :=
            Op.call
              { callee := Callee.builtin Builtin.append, args := #[Operand.tmp 101, Operand.tmp 105],
                argTypes := #[22, 22] },
          type := 22, pos := "parity.go:137",
          after := #[{ on := 5, ground := Ground.data }, { on := 9, ground := Ground.data }], guard := none },
        { dst := some 107, op := Op.indexAddr 33 (Operand.tmp 96) (Operand.tmp 97), type := 0, pos := "parity.go:137",
          after :=
            #[{ on := 0, ground := Ground.data }, { on := 1, ground := Ground.data },
              { on := 0, ground := Ground.phase }, { on := 1, ground := Ground.phase },
              { on := 2, ground := Ground.phase }, { on := 3, ground := Ground.phase },
              { on := 4, ground := Ground.phase }, { on := 5, ground := Ground.phase },
              { on := 6, ground := Ground.phase }, { on := 7, ground := Ground.phase },
              { on := 8, ground := Ground.phase }, { on := 9, ground := Ground.phase },
              { on := 10, ground := Ground.phase }],
          guard := none },
        { dst := none, op := Op.store 22 (Operand.tmp 107) (Operand.tmp 106), type := 0, pos := "parity.go:137",
          after :=
            #[{ on := 11, ground := Ground.data }, { on := 10, ground := Ground.data },
              { on := 10, ground := Ground.chain }, { on := 0, ground := Ground.phase },
              { on := 1, ground := Ground.phase }, { on := 2, ground := Ground.phase },
              { on := 3, ground := Ground.phase }, { on := 4, ground := Ground.phase },
              { on := 5, ground := Ground.phase }, { on := 6, ground := Ground.phase },
              { on := 7, ground := Ground.phase }, { on := 8, ground := Ground.phase },
              { on := 9, ground := Ground.phase }, { on := 10, ground := Ground.phase }],
          guard := none }]
      true) Q { tmps := #[t0, t1, t2, t3, t4, t5, t6, t7, t8, .slice (some ⟨g, 0, none⟩) k xc, t10, t11, .slice (some ⟨fb, foff, none⟩) (m' + 1) (c' + 1), .int .i64 (j : Int), t14, t15, t16, t17, t18, t19, t20, t21, t22, t23, t24, t25, t26, t27, t28, t29, t30, t31, t32, t33, t34, t35, t36, t37, t38, t39, t40, t41, t42, t43, t44, t45, t46, t47, t48, t49, t50, t51, t52, t53, t54, t55, t56, t57, t58, t59, t60, t61, t62, t63, t64, t65, t66, t67, t68, t69, t70, t71, t72, t73, t74, t75, t76, t77, t78, t79, t80, t81, t82, t83, t84, t85, t86, t87, t88, t89, t90, t91, t92, t93, t94, t95, t96, t97, t98, t99, t100, t101, t102, t103, t104, t105, t106, t107, t108, t109, t110], defers := [] } Y := by
  obtain ⟨i0, hi, hz0, hz1, hz2⟩ := info_parts Tryd.info5
  have HYA : Hid (Below Y.heap.size Y (Y.drew.alloc (.cells #[.int .u8 (x.toNat : Int)] 5))) := (drew_below Y.heap.size Y).alloc (Nat.le_refl Y.heap.size) _
  have HOW : Hid (World.ownsRow (Y.drew.alloc (.cells #[.int .u8 (x.toNat : Int)] 5)) base 5 1 (.slice (some ⟨h2, 0, none⟩) t gc2) t ((vec t f).map by8)) := by
    have h := hown.below HYA.out
    unfold Owns at h
    rw [vec_length] at h
    exact h
  have HNW : Hid (∀ jj u, [by8 x][jj]? = some u → (Y.drew.alloc (.cells #[.int .u8 (x.toNat : Int)] 5)).cell? ((⟨Y.heap.size, 0, none⟩ : Addr).add jj) = some u) := add_bytes (l := [x]) (one_bytes Y.drew x _ rfl _ rfl)
  have HON : Hid (∀ u ∈ [by8 x], u.oneCell' = true) := by8_one [x]
  have HCA := hid_mk ((HYA.out.cell (p := ⟨g, j, none⟩) hgY).trans hcell)
  have HFA := hid_mk ((HYA.out.frozen (p := ⟨g, j, none⟩) hgY).trans hfz)
  have HFCA := hid_mk ((HYA.out.cell (p := ⟨fb, foff, none⟩) hfY).trans hfc)
  have HQ := hid_mk hQ
  have HI0 := hid_mk hi
  have HZ0 := hid_mk hz0
  have HZ1 := hid_mk hz1
  have HZ2 := hid_mk hz2
  have HHG := hid_mk hhg
  have HFH := hid_mk hfh
  have HGY := hid_mk hgY
  have HFY := hid_mk hfY
  have HBS := hid_mk hbase
  have hfg' : g ≠ fb := Ne.symm hfg
  have hcA := HCA.out
  have hfcA := HFCA.out
  clear hQ hi hz0 hz1 hz2 hown hhg hfh hbase
  refine wp_region_noPanic ?_
  go_region_law ((refine step_append_lies _ (by rfl) _ _ _ (by rfl) base 5 i0 (.int .u8 0) 1 1 Tryd.underlying22 HI0.out HZ0.out HZ1.out HZ2.out rfl (by omega) (.slice (some ⟨h2, 0, none⟩) t gc2) t _ (by rfl) HOW.out ⟨Y.heap.size, 0, none⟩ 1 1 [by8 x] (by rfl) rfl HNW.out HON.out (by omega) (by unfold maxLen; omega) (by omega) (by have := HBS.out; simp; omega) (Y.heap.size + 1) (by simp) ?_; intro g6 c6 w6 hown6 hgr6 hat6 hlt6; have d1 : w6.cell? ⟨g, j, none⟩ = some (.slice (some ⟨h2, 0, none⟩) t gc2) := (World.cell?_of_block (a := ⟨g, j, none⟩) (hgr6.block g (by have := HGY.out; simp; omega) (fun e => HHG.out (by simpa [Value.ownBlock] using e.symm)))).trans HCA.out; have d2 : w6.frozen? ⟨g, j, none⟩ = false := (World.frozen?_of_block (a := ⟨g, j, none⟩) (hgr6.block g (by have := HGY.out; simp; omega) (fun e => HHG.out (by simpa [Value.ownBlock] using e.symm)))).trans HFA.out; have d3 : w6.cell? ⟨fb, foff, none⟩ = some (.int .u8 (x.toNat : Int)) := (World.cell?_of_block (a := ⟨fb, foff, none⟩) (hgr6.block fb (by have := HFY.out; simp; omega) (fun e => HFH.out (by simpa [Value.ownBlock] using e)))).trans HFCA.out; have HO6 := hid_mk hown6; have HG6 := hid_mk hgr6; have HA6 := hid_mk hat6; clear hown6 hgr6 hat6 hlt6))
  all_goals refine NoPanic.normal ?_
  all_goals refine HQ.out _ _ _ _ _ _ _ _ _ _ _ _ g6 c6 w6 ?_ HG6.out ?_
  all_goals first
    | (have h := HO6.out; unfold Owns; rw [List.length_append, List.map_append, vec_length]; exact h)
    | (rcases HA6.out with h | h; exact .inl (by simpa [Value.ownBlock] using h); exact .inr h)
end Go.Proofs.YtigaabhicjcbjabDoor
