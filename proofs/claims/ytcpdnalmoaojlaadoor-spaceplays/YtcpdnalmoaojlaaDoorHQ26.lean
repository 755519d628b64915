import Derived.Test.YtcpdnalmoaojlaaDoorHPk
import Derived.Deep.AppendLies
import Derived.BigRegion

/-
  SpacePlays: a step: others are taken up.
-/
namespace Go.Proofs.YtcpdnalmoaojlaaDoor
open Go.RowKit Go.Shelf
set_option linter.unusedVariables false
set_option linter.unusedSimpArgs false

set_option maxRecDepth 1000000 in
set_option maxHeartbeats 40000000 in
theorem step_swap {w0 : World} {P B3 : Nat} {c : PR} {ks : List PR} {kv : Value} {xd xa xb xc : Int} {xt : ByteArray} {w2 : World} {at' : Int} (hsb : SB w0 P B3 c ks kv xd xa xb xc xt w2) (hat : I64' at') (code : Code) (hcode : code = swapC (Tryd.f8.body.getD .skip)) (Q0 : Exit → Act → World → Prop) (hret : ∀ (a' : Act) (w' : World), a'.tmps.getD 4 undef = .bool true → a'.defers = [] → StepQ w0 P w' → Q0 .ret a' w') (u1 u2 u4 u6 u7 u8 u9 u10 u11 u12 u13 u14 u15 u16 u17 u18 u19 u20 u21 u22 u23 u24 u25 u26 u27 u28 u29 u30 u31 u32 u33 u34 u35 u36 u37 u38 u39 u40 u41 u42 u43 u44 u45 u46 u47 u48 u49 u50 u51 u52 u53 u54 u55 u56 u57 u58 u59 u60 u61 u62 u63 u64 u65 u66 u67 u68 u69 u70 u71 u72 u73 u74 u75 u76 u77 u78 u79 u80 u81 u82 u83 u84 u85 u86 u87 u88 u89 u90 u91 u92 u93 u94 u95 u96 u97 u98 u99 u100 u101 u102 u103 u104 u105 u106 u107 u108 u109 u110 u111 u112 u113 u114 u115 u116 u117 u118 u119 u120 u121 u122 u123 u124 u125 u126 u127 u128 u129 u130 u131 u132 u133 u134 u135 u136 u137 u138 u139 u140 u141 u142 u143 u144 u145 u146 u147 u148 u149 u150 u151 u152 u153 u154 u155 u156 u157 u158 u159 u160 u161 u162 u163 u164 u165 u166 u167 u168 u169 u170 u171 u172 u173 u174 u175 u176 u177 u178 u179 u180 u181 u182 u183 u184 u185 u186 u187 u188 u189 u190 u191 u192 u193 u194 u195 u196 u197 u198 u199 u200 u201 u202 u203 u204 u205 u206 u207 u208 u209 u210 u211 u212 u213 u214 u215 u216 u217 u218 u219 u220 u221 u222 u223 u224 u225 u226 u227 u228 u229 u230 u231 u232 u233 u234 u235 u236 u237 u238 u239 u240 u241 u242 u243 u244 u245 u246 u247 u248 u249 u250 u251 u252 u253 u254 u255 u256 u257 u258 u259 u260 u261 u262 u263 u264 u265 u266 u267 u268 u269 : Value) :
    Code.wp Tryd.prog code Q0 ⟨#[.pointer (some ⟨P, 0, none⟩), u1, u2, .pointer (some ⟨B3, 0, none⟩), u4, .int .i64 at', u6, u7, u8, u9, u10, u11, u12, u13, u14, u15, u16, u17, u18, u19, u20, u21, u22, u23, u24, u25, u26, u27, u28, u29, u30, u31, u32, u33, u34, u35, u36, u37, u38, u39, u40, u41, u42, u43, u44, u45, u46, u47, u48, u49, u50, u51, u52, u53, u54, u55, u56, u57, u58, u59, u60, u61, u62, u63, u64, u65, u66, u67, u68, u69, u70, u71, u72, u73, u74, u75, u76, u77, u78, u79, u80, u81, u82, u83, u84, u85, u86, u87, u88, u89, u90, u91, u92, u93, u94, u95, u96, u97, u98, u99, u100, u101, u102, u103, u104, u105, u106, u107, u108, u109, u110, u111, u112, u113, u114, u115, u116, u117, u118, u119, u120, u121, u122, u123, u124, u125, u126, u127, u128, u129, u130, u131, u132, u133, u134, u135, u136, u137, u138, u139, u140, u141, u142, u143, u144, u145, u146, u147, u148, u149, u150, u151, u152, u153, u154, u155, u156, u157, u158, u159, u160, u161, u162, u163, u164, u165, u166, u167, u168, u169, u170, u171, u172, u173, u174, u175, u176, u177, u178, u179, u180, u181, u182, u183, u184, u185, u186, u187, u188, u189, u190, u191, u192, u193, u194, u195, u196, u197, u198, u199, u200, u201, u202, u203, u204, u205, u206, u207, u208, u209, u210, u211, u212, u213, u214, u215, u216, u217, u218, u219, u220, u221, u222, u223, u224, u225, u226, u227, u228, u229, u230, u231, u232, u233, u234, u235, u236, u237, u238, u239, u240, u241, u242, u243, u244, u245, u246, u247, u248, u249, u250, u251, u252, u253, u254, u255, u256, u257, u258, u259, u260, u261, u262, u263, u264, u265, u266, u267, u268, u269], []⟩ w2 := by
  subst hcode
  conv => arg 2; whnf
  have HRT := hid_mk hret
  have HSB := hid_mk hsb
  have HATI := hid_mk hat
  have HOK := hid_mk hsb.ok
  have HJ2 := hid_mk hsb.j
  have HKS := hid_mk hsb.k4
  have HNB := hid_mk hsb.nb
  have HC3 := hid_mk hsb.cells
  have HA := hid_mk hsb.ia
  have HBW := hid_mk hsb.ib
  obtain ⟨y0, y1, y2, y3⟩ := hsb.cells w2 rfl
  obtain ⟨u0', u1', u2'⟩ := hsb.j.cells
  have HB3W : Hid (B3 < w2.heap.size) := (Array.getElem?_eq_some_iff.1 hsb.box).1
  clear hret hsb hat
  obtain ⟨ak, ck, hkv⟩ := HJ2.out.kow.frm
  rw [hkv] at u2'
  obtain ⟨Kn, hKn⟩ : ∃ Kn, Kn = ks.length := ⟨_, rfl⟩
  rw [← hKn] at u2' hkv
  have HKV := hid_mk hkv
  have HKN := hid_mk hKn
  have hK4 : Kn ≤ 4 := by have := HKS.out; omega
  clear hkv hKn
  by_cases hz : Kn = 0
  · subst hz
    go_wp2_with fail
    refine HRT.out _ _ rfl rfl ?_
    exact ⟨c, ks, kv, HJ2.out, HOK.out, HKS.out⟩
  · have hzi : ¬ (Kn : Int) = 0 := by omega
    obtain ⟨i, hi⟩ : ∃ i : Nat, (i : Int) = xa % (Kn : Int) := ⟨(xa % (Kn : Int)).toNat, by have := Int.emod_nonneg xa (b := (Kn : Int)) (by omega); omega⟩
    have hiK : i < Kn := by have := Int.emod_lt_of_pos xa (b := (Kn : Int)) (by omega); omega
    have HPI : Hid (∀ W, Calls Tryd.prog 5 #[.int .i64 xa, .int .i64 (Kn : Int)] W fun e w' => e = .returned (.int .i64 (i : Int)) ∧ w' = W) := fun W => by rw [hi]; exact pickL xa Kn W HA.out (by omega) (by omega)
    have hik : i < ks.length := by rw [← HKN.out]; exact hiK
    obtain ⟨g, cpk, cur, hg1, hg2, k0, k1⟩ := HJ2.out.kow.at hik
    rw [HKV.out, ← HKN.out] at hg1
    obtain ⟨rfl, rfl⟩ : ak = some ⟨g, 0, none⟩ ∧ ck = cpk := by simp at hg1; exact hg1
    obtain ⟨s', hs'⟩ : ∃ s', s' = ks[i].s := ⟨_, rfl⟩
    obtain ⟨r', hr'⟩ : ∃ r', r' = ks[i].r := ⟨_, rfl⟩
    rw [← hs'] at k0
    rw [← hr'] at k1
    have hii : (i : Int) < (Kn : Int) := by omega
    have HGX := hid_mk hg2
    have HSR : Hid (s' = ks[i].s ∧ r' = ks[i].r) := ⟨hs', hr'⟩
    have HIK := hid_mk hik
    clear hi hg1 hs' hr' hz
    go_upto_region 39 with fail
    go_region_held3 (fun w' => w'.cell? ⟨B3, 1, none⟩ = some (.int .i64 xa) ∧ w'.cell? ⟨P, 2, none⟩ = some (.slice (some ⟨g, 0, none⟩) Kn ck)) (exact ⟨y1, u2'⟩) (first
      | (go_at_call 5; refine (HPI.out _).mono ?_; clear HPI; rintro e w5 ⟨rfl, hw5⟩; rw [hw5]; clear hw5))
    obtain ⟨Y2, hY2⟩ : ∃ Y2, Y2 = w2.drew := ⟨_, rfl⟩
    have HY2 : Hid (Below w2.heap.size w2 Y2) := by show Below _ _ _; rw [hY2]; exact Below.drew (Below.refl _ _)
    have hgl : g < w2.heap.size := (Array.getElem?_eq_some_iff.1 HGX.out).1
    have m0 : Y2.cell? ⟨g, i * 2, none⟩ = some (.pointer (some ⟨s', 0, none⟩)) := (HY2.out.cell (p := ⟨g, i * 2, none⟩) hgl).trans k0
    have m1 : Y2.cell? ⟨g, i * 2 + 1, none⟩ = some (.pointer (some ⟨r', 0, none⟩)) := (HY2.out.cell (p := ⟨g, i * 2 + 1, none⟩) hgl).trans k1
    obtain ⟨n0, n1, n2⟩ := (HJ2.out.keepN HY2.out).cells
    rw [HKV.out] at n2
    rw [← hY2]
    clear hY2 u0' u1' u2' y0 y1 y2 y3 k0 k1
    go_upto_region 41 with fail
    obtain ⟨X2, hX2⟩ : ∃ X2, X2 = Y2.alloc (.cells #[.pointer (some ⟨s', 0, none⟩), .pointer (some ⟨r', 0, none⟩)] 73) := ⟨_, rfl⟩
    obtain ⟨bo, hbo⟩ : ∃ bo, bo = Y2.heap.size := ⟨_, rfl⟩
    have bX2 : Below w2.heap.size w2 X2 := by rw [hX2]; exact HY2.out.alloc HY2.out.size _
    have eX2 : X2.heap[bo]? = some (.cells #[.pointer (some ⟨s', 0, none⟩), .pointer (some ⟨r', 0, none⟩)] 73 (0, 0)) := by rw [hX2, hbo]; exact heap_alloc_new _ _
    have HJX := hid_mk (HJ2.out.keepN bX2)
    have hgX : X2.heap[g]? = some (.cells cur 73 (0, 0)) := (bX2.block g hgl).trans HGX.out
    obtain ⟨o0, o1, o2⟩ := HJX.out.cells
    rw [HKV.out] at o2
    have gf := unfrozen hgX
    have Pf := unfrozen HJX.out.box
    have c0 : X2.cell? ⟨g, i * 2, none⟩ = some (.pointer (some ⟨s', 0, none⟩)) := (bX2.cell (p := ⟨g, i * 2, none⟩) hgl).trans ((World.cell?_of_block (w := w2) rfl).trans ((HY2.out.cell (p := ⟨g, i * 2, none⟩) hgl).symm.trans m0))
    have c1 : X2.cell? ⟨g, i * 2 + 1, none⟩ = some (.pointer (some ⟨r', 0, none⟩)) := (bX2.cell (p := ⟨g, i * 2 + 1, none⟩) hgl).trans ((World.cell?_of_block (w := w2) rfl).trans ((HY2.out.cell (p := ⟨g, i * 2 + 1, none⟩) hgl).symm.trans m1))
    have e0 : X2.cell? ⟨bo, 0, none⟩ = some (.pointer (some ⟨s', 0, none⟩)) := by simp [World.cell?, eX2]
    have e1 : X2.cell? ⟨bo, 1, none⟩ = some (.pointer (some ⟨r', 0, none⟩)) := by simp [World.cell?, eX2]
    have hgP : ¬ g = P := fun e => by rw [e] at hgX; have := hgX.symm.trans HJX.out.box; simp at this
    have hbP : ¬ bo = P := fun e => by rw [e] at eX2; have := eX2.symm.trans HJX.out.box; simp at this
    have hbg : ¬ bo = g := by have := HY2.out.size; omega
    have HSW : Hid (PJ w0 P ks[i] ks[i].rows ks[i].l (ks.set i c) (.slice (some ⟨g, 0, none⟩) ks.length ck) ((((X2.setCell ⟨g, i * 2, none⟩ (.pointer (some ⟨c.s, 0, none⟩))).setCell ⟨g, i * 2 + 1, none⟩ (.pointer (some ⟨c.r, 0, none⟩))).setCell ⟨P, 0, none⟩ (.pointer (some ⟨s', 0, none⟩))).setCell ⟨P, 1, none⟩ (.pointer (some ⟨r', 0, none⟩))) ∧ SpOk ks[i].rows ks[i].l) := by
      have h0 := HJX.out
      rw [HKV.out, HKN.out] at h0
      have h := h0.swapN HOK.out HIK.out
      rw [← HSR.out.1, ← HSR.out.2] at h
      exact h
    rw [← hX2, ← hbo]
    clear hX2 hbo bX2 eX2 hgX hgl m0 m1 n0 n1 n2
    obtain ⟨X3, hX3⟩ : ∃ X3, X3 = (X2.setCell ⟨g, i * 2, none⟩ (.pointer (some ⟨c.s, 0, none⟩))).setCell ⟨g, i * 2 + 1, none⟩ (.pointer (some ⟨c.r, 0, none⟩)) := ⟨_, rfl⟩
    have key3 : ∀ (r o : Nat), r ≠ g → X3.cell? ⟨r, o, none⟩ = X2.cell? ⟨r, o, none⟩ := fun r o hr => by
      rw [hX3]
      exact (World.cell?_of_block (w := X2.setCell ⟨g, i * 2, none⟩ (.pointer (some ⟨c.s, 0, none⟩))) (Below.heap_setCell _ _ _ _ hr)).trans (World.cell?_of_block (w := X2) (Below.heap_setCell _ _ _ _ hr))
    have hPg : P ≠ g := fun e => hgP e.symm
    have oD0 : X2.drew.cell? ⟨P, 0, none⟩ = some (.pointer (some ⟨c.s, 0, none⟩)) := o0
    have oD1 : X2.drew.cell? ⟨P, 1, none⟩ = some (.pointer (some ⟨c.r, 0, none⟩)) := o1
    have oD2 : X2.drew.cell? ⟨P, 2, none⟩ = some (.slice (some ⟨g, 0, none⟩) Kn ck) := o2
    have s0 : X3.cell? ⟨P, 0, none⟩ = some (.pointer (some ⟨c.s, 0, none⟩)) := (key3 P 0 hPg).trans o0
    have s1 : X3.cell? ⟨P, 1, none⟩ = some (.pointer (some ⟨c.r, 0, none⟩)) := (key3 P 1 hPg).trans o1
    have s2 : X3.cell? ⟨P, 2, none⟩ = some (.slice (some ⟨g, 0, none⟩) Kn ck) := (key3 P 2 hPg).trans o2
    have e0' : X3.cell? ⟨bo, 0, none⟩ = some (.pointer (some ⟨s', 0, none⟩)) := (key3 bo 0 hbg).trans e0
    have e1' : X3.cell? ⟨bo, 1, none⟩ = some (.pointer (some ⟨r', 0, none⟩)) := (key3 bo 1 hbg).trans e1
    have sD0 := s0
    have sD1 := s1
    have sD2 := s2
    rw [hX3] at sD0 sD1 sD2
    have HX3 := hid_mk hX3
    have HPF3 : Hid (X3.heap[P]? = X2.heap[P]?) := by show _ = _; rw [hX3, Below.heap_setCell _ _ _ _ hPg, Below.heap_setCell _ _ _ _ hPg]
    clear hX3 key3 e0 e1
    go_region_held3 (fun w' => w'.cell? ⟨P, 0, none⟩ = some (.pointer (some ⟨c.s, 0, none⟩)) ∧ w'.cell? ⟨P, 1, none⟩ = some (.pointer (some ⟨c.r, 0, none⟩)) ∧ w'.cell? ⟨P, 2, none⟩ = some (.slice (some ⟨g, 0, none⟩) Kn ck)) (first | with_reducible exact ⟨oD0, oD1, oD2⟩ | exact ⟨sD0, sD1, sD2⟩) (fail)
    try rw [← HX3.out]
    have HSW3 : Hid (PJ w0 P ks[i] ks[i].rows ks[i].l (ks.set i c) (.slice (some ⟨g, 0, none⟩) ks.length ck) ((X3.setCell ⟨P, 0, none⟩ (.pointer (some ⟨s', 0, none⟩))).setCell ⟨P, 1, none⟩ (.pointer (some ⟨r', 0, none⟩))) ∧ SpOk ks[i].rows ks[i].l) := by have h := HSW.out; rw [← HX3.out] at h; exact h
    have hb3 : X3.heap[P]? = some (.cells #[.pointer (some ⟨c.s, 0, none⟩), .pointer (some ⟨c.r, 0, none⟩), kv] 35 (0, 0)) := HPF3.out.trans HJX.out.box
    have Pf3 := unfrozen hb3
    obtain ⟨X4, hX4⟩ : ∃ X4, X4 = (X3.setCell ⟨P, 0, none⟩ (.pointer (some ⟨s', 0, none⟩))).setCell ⟨P, 1, none⟩ (.pointer (some ⟨r', 0, none⟩)) := ⟨_, rfl⟩
    have hPb : bo ≠ P := hbP
    have eD0 : X3.drew.drew.cell? ⟨bo, 0, none⟩ = some (.pointer (some ⟨s', 0, none⟩)) := e0'
    have eD1 : X3.drew.drew.cell? ⟨bo, 1, none⟩ = some (.pointer (some ⟨r', 0, none⟩)) := e1'
    have kp : ∀ (W : World) (p : Nat) (x : Value) (o : Nat), (W.setCell ⟨P, p, none⟩ x).cell? ⟨bo, o, none⟩ = W.cell? ⟨bo, o, none⟩ := fun W p x o => World.cell?_of_block (w := W) (Below.heap_setCell _ _ _ _ hPb)
    have HJ4 : Hid (PJ w0 P ks[i] ks[i].rows ks[i].l (ks.set i c) (.slice (some ⟨g, 0, none⟩) ks.length ck) X4 ∧ SpOk ks[i].rows ks[i].l) := by have h := HSW3.out; rw [← hX4] at h; exact h
    have f0 : X4.cell? ⟨P, 0, none⟩ = some (.pointer (some ⟨s', 0, none⟩)) := HJ4.out.1.cells.1.trans (by rw [HSR.out.1]; rfl)
    have HX4 := hid_mk hX4
    clear hX4 sD0 sD1 sD2 oD0 oD1 oD2 o0 o1 o2 c0 c1 gf Pf
    go_upto_region 42 with fail
    go_region_held3 (fun w' => w'.cell? ⟨bo, 0, none⟩ = some (.pointer (some ⟨s', 0, none⟩)) ∧ w'.cell? ⟨bo, 1, none⟩ = some (.pointer (some ⟨r', 0, none⟩))) (first | with_reducible exact ⟨eD0, eD1⟩ | exact ⟨(kp X3 _ _ _).trans e0', (kp X3 _ _ _).trans e1'⟩ | exact ⟨((kp _ _ _ _).trans (kp X3 _ _ _)).trans e0', ((kp _ _ _ _).trans (kp X3 _ _ _)).trans e1'⟩ | exact ⟨e0', e1'⟩) (fail)
    try rw [← HX4.out]
    have HIS : Hid (∀ W, Calls Tryd.prog 32 #[.agg #[.pointer (some ⟨s', 0, none⟩)]] W fun e w' => e = .returned (.bool true) ∧ Below W.heap.size W w') := fun W => pis_any s' W
    clear eD0 eD1 kp s0 s1 s2 e0' e1' Pf3
    go_wp2_with (first | (go_at_call 32; refine (HIS.out _).mono ?_; clear HIS; rintro e w9 ⟨rfl, b9⟩; have HB9 : Hid (Below X4.heap.size X4 w9) := (Below.drew (Below.drew (Below.refl _ _))).trans b9; clear b9))
    refine HRT.out _ _ rfl rfl ?_
    exact ⟨ks[i], ks.set i c, _, HJ4.out.1.keepN HB9.out, HJ4.out.2, by rw [List.length_set]; exact HKS.out⟩
end Go.Proofs.YtcpdnalmoaojlaaDoor
