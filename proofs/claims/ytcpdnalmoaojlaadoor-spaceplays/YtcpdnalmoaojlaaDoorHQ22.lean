import Derived.Test.YtcpdnalmoaojlaaDoorHPk
import Derived.Deep.AppendLies

/-
  SpacePlays: a step: Take.
-/
namespace Go.Proofs.YtcpdnalmoaojlaaDoor
open Go.RowKit Go.Shelf
set_option linter.unusedVariables false
set_option linter.unusedSimpArgs false

set_option maxRecDepth 1000000 in
set_option maxHeartbeats 40000000 in
theorem step_take {w0 : World} {P B3 : Nat} {c : PR} {ks : List PR} {kv : Value} {xd xa xb xc : Int} {xt : ByteArray} {w2 : World} {at' : Int} (hsb : SB w0 P B3 c ks kv xd xa xb xc xt w2) (hat : I64' at') (code : Code) (hcode : code = takeC (Tryd.f8.body.getD .skip)) (Q0 : Exit → Act → World → Prop) (hret : ∀ (a' : Act) (w' : World), a'.tmps.getD 4 undef = .bool true → a'.defers = [] → StepQ w0 P w' → Q0 .ret a' w') (u1 u2 u4 u6 u7 u8 u9 u10 u11 u12 u13 u14 u15 u16 u17 u18 u19 u20 u21 u22 u23 u24 u25 u26 u27 u28 u29 u30 u31 u32 u33 u34 u35 u36 u37 u38 u39 u40 u41 u42 u43 u44 u45 u46 u47 u48 u49 u50 u51 u52 u53 u54 u55 u56 u57 u58 u59 u60 u61 u62 u63 u64 u65 u66 u67 u68 u69 u70 u71 u72 u73 u74 u75 u76 u77 u78 u79 u80 u81 u82 u83 u84 u85 u86 u87 u88 u89 u90 u91 u92 u93 u94 u95 u96 u97 u98 u99 u100 u101 u102 u103 u104 u105 u106 u107 u108 u109 u110 u111 u112 u113 u114 u115 u116 u117 u118 u119 u120 u121 u122 u123 u124 u125 u126 u127 u128 u129 u130 u131 u132 u133 u134 u135 u136 u137 u138 u139 u140 u141 u142 u143 u144 u145 u146 u147 u148 u149 u150 u151 u152 u153 u154 u155 u156 u157 u158 u159 u160 u161 u162 u163 u164 u165 u166 u167 u168 u169 u170 u171 u172 u173 u174 u175 u176 u177 u178 u179 u180 u181 u182 u183 u184 u185 u186 u187 u188 u189 u190 u191 u192 u193 u194 u195 u196 u197 u198 u199 u200 u201 u202 u203 u204 u205 u206 u207 u208 u209 u210 u211 u212 u213 u214 u215 u216 u217 u218 u219 u220 u221 u222 u223 u224 u225 u226 u227 u228 u229 u230 u231 u232 u233 u234 u235 u236 u237 u238 u239 u240 u241 u242 u243 u244 u245 u246 u247 u248 u249 u250 u251 u252 u253 u254 u255 u256 u257 u258 u259 u260 u261 u262 u263 u264 u265 u266 u267 u268 u269 : Value) :
    Code.wp Tryd.prog code Q0 ⟨#[.pointer (some ⟨P, 0, none⟩), u1, u2, .pointer (some ⟨B3, 0, none⟩), u4, .int .i64 at', u6, u7, u8, u9, u10, u11, u12, u13, u14, u15, u16, u17, u18, u19, u20, u21, u22, u23, u24, u25, u26, u27, u28, u29, u30, u31, u32, u33, u34, u35, u36, u37, u38, u39, u40, u41, u42, u43, u44, u45, u46, u47, u48, u49, u50, u51, u52, u53, u54, u55, u56, u57, u58, u59, u60, u61, u62, u63, u64, u65, u66, u67, u68, u69, u70, u71, u72, u73, u74, u75, u76, u77, u78, u79, u80, u81, u82, u83, u84, u85, u86, u87, u88, u89, u90, u91, u92, u93, u94, u95, u96, u97, u98, u99, u100, u101, u102, u103, u104, u105, u106, u107, u108, u109, u110, u111, u112, u113, u114, u115, u116, u117, u118, u119, u120, u121, u122, u123, u124, u125, u126, u127, u128, u129, u130, u131, u132, u133, u134, u135, u136, u137, u138, u139, u140, u141, u142, u143, u144, u145, u146, u147, u148, u149, u150, u151, u152, u153, u154, u155, u156, u157, u158, u159, u160, u161, u162, u163, u164, u165, u166, u167, u168, u169, u170, u171, u172, u173, u174, u175, u176, u177, u178, u179, u180, u181, u182, u183, u184, u185, u186, u187, u188, u189, u190, u191, u192, u193, u194, u195, u196, u197, u198, u199, u200, u201, u202, u203, u204, u205, u206, u207, u208, u209, u210, u211, u212, u213, u214, u215, u216, u217, u218, u219, u220, u221, u222, u223, u224, u225, u226, u227, u228, u229, u230, u231, u232, u233, u234, u235, u236, u237, u238, u239, u240, u241, u242, u243, u244, u245, u246, u247, u248, u249, u250, u251, u252, u253, u254, u255, u256, u257, u258, u259, u260, u261, u262, u263, u264, u265, u266, u267, u268, u269], []⟩ w2 := by
  subst hcode
  conv => arg 2; whnf
  have HRT := hid_mk hret
  have HSB := hid_mk hsb
  have HATI := hid_mk hat
  have HOK := hid_mk hsb.ok
  have HJ2 := hid_mk hsb.j
  have HKS := hid_mk hsb.k4
  have HNB := hid_mk hsb.nb
  have HC3 := hid_mk hsb.cells
  have HA := hid_mk hsb.ia
  have HBW := hid_mk hsb.ib
  obtain ⟨y0, y1, y2, y3⟩ := hsb.cells w2 rfl
  obtain ⟨u0', u1', u2'⟩ := hsb.j.cells
  have HB3W : Hid (B3 < w2.heap.size) := (Array.getElem?_eq_some_iff.1 hsb.box).1
  clear hret hsb hat
  obtain ⟨n0, hn0⟩ : ∃ n0 : Int, n0 = xa % 12 := ⟨_, rfl⟩
  have HN0 : Hid (I64' n0) := ⟨by omega, by omega⟩
  have HP12 : Hid (∀ W, Calls Tryd.prog 5 #[.int .i64 xa, .int .i64 12] W fun e w' => e = .returned (.int .i64 n0) ∧ w' = W) := fun W => by rw [hn0]; exact pickL xa 12 W HA.out (by omega) (by omega)
  obtain ⟨q20, hq20⟩ : ∃ q20 : Int, q20 = xb % 20 := ⟨_, rfl⟩
  have HP20 : Hid (∀ W, Calls Tryd.prog 5 #[.int .i64 xb, .int .i64 20] W fun e w' => e = .returned (.int .i64 q20) ∧ w' = W) := fun W => by rw [hq20]; exact pickL xb 20 W HBW.out (by omega) (by omega)
  clear hn0 hq20
  go_upto_region 11 with (first | (go_at_call 5; refine (HP12.out _).mono ?_; clear HP12; rintro e w5 ⟨rfl, hw5⟩; rw [hw5]; clear hw5))
  go_upto_if 65 with (first | (go_at_call 5; refine (HP20.out _).mono ?_; clear HP20; rintro e w5 ⟨rfl, hw5⟩; rw [hw5]; clear hw5))
  go_cut [7] from 59 to 67 (fun v wx => ∃ n : Int, v = .int .i64 n ∧ I64' n ∧ wx = w2)
  case first =>
    by_cases h19 : q20 = 19
    · subst h19
      go_wp2_with fail
      go_meet
      exact ⟨_, rfl, HA.out, rfl⟩
    · have hb19 : (q20 == 19) = false := by simp [h19]
      go_wp2_with fail
      go_meet
      exact ⟨_, rfl, HN0.out, rfl⟩
  case rest =>
    obtain ⟨n, rfl, hn, hwc6⟩ := hcut
    rw [hwc6]
    clear hwc6
    obtain ⟨tg, htg⟩ : ∃ tg : Nat, (tg : Int) = xc % 18446744073709551616 := ⟨(xc % 18446744073709551616).toNat, by omega⟩
    have htg2 : tg < 18446744073709551616 := by omega
    have m4 : IntKind.u64.wrap xc = (tg : Int) := by rw [htg]; simp only [IntKind.wrap, IntKind.bits, IntKind.signed]; simp
    obtain ⟨X, E, l1, hok1, hTA, hTB⟩ := take_both (w0 := w0) (P := P) (ks := ks) (kv := kv) HOK.out n tg hn htg2
    have HOK1 := hid_mk hok1
    have HTA := hid_mk hTA
    have HTB := hid_mk hTB
    clear hok1 hTA hTB hn htg htg2
    go_upto_region 13 with fail
    go_region_held3 (fun w' => w'.cell? ⟨P, 0, none⟩ = some (.pointer (some ⟨c.s, 0, none⟩)) ∧ w'.cell? ⟨B3, 3, none⟩ = some (.int .i64 xc)) (first | exact ⟨u0', y3⟩ | exact ⟨v0, v3⟩) (first
      | (go_at_call 12; refine (HTA.out _ (HJ2.out.keepN (Below.drew (Below.refl _ _)))).mono ?_; clear HTA; rintro e w3 ht; have he3 : w3.heap[B3]? = w2.heap[B3]? := (ht.2.1.block B3 HB3W.out HNB.out.1); have HL3 : Hid (B3 < w3.heap.size) := Nat.lt_of_lt_of_le HB3W.out ht.2.1.size; obtain ⟨hee, hj3⟩ := SpT.next (HJ2.out.keepN (Below.drew (Below.refl _ _))) ht; subst hee; have HJ3 := hid_mk hj3; have HE3 := hid_mk he3; obtain ⟨v0, v1, _⟩ := hj3.cells; obtain ⟨_, _, _, v3⟩ := HC3.out w3 he3; clear ht hj3 he3))
    go_upto_region 14 with fail
    go_region_held3 (fun w' => w'.cell? ⟨P, 1, none⟩ = some (.pointer (some ⟨c.r, 0, none⟩)) ∧ w'.cell? ⟨B3, 3, none⟩ = some (.int .i64 xc)) (first | exact ⟨v1, v3⟩ | exact ⟨z1, z3⟩) (first
      | (go_at_call 24; refine (HTB.out _ (HJ3.out.keepN (Below.drew (Below.refl _ _)))).mono ?_; clear HTB; rintro e w4 ht; have he4 : w4.heap[B3]? = w2.heap[B3]? := (by obtain ⟨v', hk4, _⟩ := ht.2; exact (hk4.block B3 HL3.out HNB.out.2).trans HE3.out); obtain ⟨hee, c', hcs, hcr, hj4, hok4⟩ := RfT.next (HJ3.out.keepN (Below.drew (Below.refl _ _))) HOK1.out ht; subst hee; have HJ4 := hid_mk hj4; have HOK4 := hid_mk hok4; have z1 : w4.cell? ⟨P, 1, none⟩ = some (.pointer (some ⟨c.r, 0, none⟩)) := (by rw [← hcr]; exact hj4.cells.2.1); obtain ⟨_, _, _, z3⟩ := HC3.out w4 he4; clear ht hj4 he4 hcs hcr hok4))
    go_wp2_with fail
    refine HRT.out _ _ rfl rfl ?_
    exact ⟨c', ks, kv, HJ4.out, HOK4.out, HKS.out⟩
end Go.Proofs.YtcpdnalmoaojlaaDoor

/-
  SpacePlays: a step: Share, Drop, Turn.
-/
namespace Go.Proofs.YtcpdnalmoaojlaaDoor
open Go.RowKit Go.Shelf
set_option linter.unusedVariables false
set_option linter.unusedSimpArgs false

set_option maxRecDepth 1000000 in
set_option maxHeartbeats 40000000 in
theorem step_share {w0 : World} {P B3 : Nat} {c : PR} {ks : List PR} {kv : Value} {xd xa xb xc : Int} {xt : ByteArray} {w2 : World} {at' : Int} (hsb : SB w0 P B3 c ks kv xd xa xb xc xt w2) (hat : I64' at') (code : Code) (hcode : code = shareC (Tryd.f8.body.getD .skip)) (Q0 : Exit → Act → World → Prop) (hret : ∀ (a' : Act) (w' : World), a'.tmps.getD 4 undef = .bool true → a'.defers = [] → StepQ w0 P w' → Q0 .ret a' w') (u1 u2 u4 u6 u7 u8 u9 u10 u11 u12 u13 u14 u15 u16 u17 u18 u19 u20 u21 u22 u23 u24 u25 u26 u27 u28 u29 u30 u31 u32 u33 u34 u35 u36 u37 u38 u39 u40 u41 u42 u43 u44 u45 u46 u47 u48 u49 u50 u51 u52 u53 u54 u55 u56 u57 u58 u59 u60 u61 u62 u63 u64 u65 u66 u67 u68 u69 u70 u71 u72 u73 u74 u75 u76 u77 u78 u79 u80 u81 u82 u83 u84 u85 u86 u87 u88 u89 u90 u91 u92 u93 u94 u95 u96 u97 u98 u99 u100 u101 u102 u103 u104 u105 u106 u107 u108 u109 u110 u111 u112 u113 u114 u115 u116 u117 u118 u119 u120 u121 u122 u123 u124 u125 u126 u127 u128 u129 u130 u131 u132 u133 u134 u135 u136 u137 u138 u139 u140 u141 u142 u143 u144 u145 u146 u147 u148 u149 u150 u151 u152 u153 u154 u155 u156 u157 u158 u159 u160 u161 u162 u163 u164 u165 u166 u167 u168 u169 u170 u171 u172 u173 u174 u175 u176 u177 u178 u179 u180 u181 u182 u183 u184 u185 u186 u187 u188 u189 u190 u191 u192 u193 u194 u195 u196 u197 u198 u199 u200 u201 u202 u203 u204 u205 u206 u207 u208 u209 u210 u211 u212 u213 u214 u215 u216 u217 u218 u219 u220 u221 u222 u223 u224 u225 u226 u227 u228 u229 u230 u231 u232 u233 u234 u235 u236 u237 u238 u239 u240 u241 u242 u243 u244 u245 u246 u247 u248 u249 u250 u251 u252 u253 u254 u255 u256 u257 u258 u259 u260 u261 u262 u263 u264 u265 u266 u267 u268 u269 : Value) :
    Code.wp Tryd.prog code Q0 ⟨#[.pointer (some ⟨P, 0, none⟩), u1, u2, .pointer (some ⟨B3, 0, none⟩), u4, .int .i64 at', u6, u7, u8, u9, u10, u11, u12, u13, u14, u15, u16, u17, u18, u19, u20, u21, u22, u23, u24, u25, u26, u27, u28, u29, u30, u31, u32, u33, u34, u35, u36, u37, u38, u39, u40, u41, u42, u43, u44, u45, u46, u47, u48, u49, u50, u51, u52, u53, u54, u55, u56, u57, u58, u59, u60, u61, u62, u63, u64, u65, u66, u67, u68, u69, u70, u71, u72, u73, u74, u75, u76, u77, u78, u79, u80, u81, u82, u83, u84, u85, u86, u87, u88, u89, u90, u91, u92, u93, u94, u95, u96, u97, u98, u99, u100, u101, u102, u103, u104, u105, u106, u107, u108, u109, u110, u111, u112, u113, u114, u115, u116, u117, u118, u119, u120, u121, u122, u123, u124, u125, u126, u127, u128, u129, u130, u131, u132, u133, u134, u135, u136, u137, u138, u139, u140, u141, u142, u143, u144, u145, u146, u147, u148, u149, u150, u151, u152, u153, u154, u155, u156, u157, u158, u159, u160, u161, u162, u163, u164, u165, u166, u167, u168, u169, u170, u171, u172, u173, u174, u175, u176, u177, u178, u179, u180, u181, u182, u183, u184, u185, u186, u187, u188, u189, u190, u191, u192, u193, u194, u195, u196, u197, u198, u199, u200, u201, u202, u203, u204, u205, u206, u207, u208, u209, u210, u211, u212, u213, u214, u215, u216, u217, u218, u219, u220, u221, u222, u223, u224, u225, u226, u227, u228, u229, u230, u231, u232, u233, u234, u235, u236, u237, u238, u239, u240, u241, u242, u243, u244, u245, u246, u247, u248, u249, u250, u251, u252, u253, u254, u255, u256, u257, u258, u259, u260, u261, u262, u263, u264, u265, u266, u267, u268, u269], []⟩ w2 := by
  subst hcode
  conv => arg 2; whnf
  have HRT := hid_mk hret
  have HSB := hid_mk hsb
  have HATI := hid_mk hat
  have HOK := hid_mk hsb.ok
  have HJ2 := hid_mk hsb.j
  have HKS := hid_mk hsb.k4
  have HNB := hid_mk hsb.nb
  have HC3 := hid_mk hsb.cells
  have HA := hid_mk hsb.ia
  have HBW := hid_mk hsb.ib
  obtain ⟨y0, y1, y2, y3⟩ := hsb.cells w2 rfl
  obtain ⟨u0', u1', u2'⟩ := hsb.j.cells
  have HB3W : Hid (B3 < w2.heap.size) := (Array.getElem?_eq_some_iff.1 hsb.box).1
  clear hret hsb hat
  obtain ⟨E, l1, hok1, hTA, hTB⟩ := share_both (w0 := w0) (P := P) (ks := ks) (kv := kv) HOK.out at' HATI.out
  have HOK1 := hid_mk hok1
  have HTA := hid_mk hTA
  have HTB := hid_mk hTB
  clear hok1 hTA hTB
  go_upto_region 17 with fail
  go_region_held3 (fun w' => w'.cell? ⟨P, 0, none⟩ = some (.pointer (some ⟨c.s, 0, none⟩)) ∧ w'.cell? ⟨P, 1, none⟩ = some (.pointer (some ⟨c.r, 0, none⟩))) (first | exact ⟨u0', u1'⟩ | exact ⟨v0, v1⟩ | exact ⟨z0, z1⟩) (first
    | (go_at_call 14; refine (HTA.out _ (HJ2.out.keepN (Below.drew (Below.refl _ _)))).mono ?_; clear HTA; rintro e w3 ht; obtain ⟨hee, hj3⟩ := SpT.next (HJ2.out.keepN (Below.drew (Below.refl _ _))) ht; subst hee; have HJ3 := hid_mk hj3; obtain ⟨v0, v1, _⟩ := hj3.cells; clear ht hj3)
    | (go_at_call 25; refine (HTB.out _ HJ3.out).mono ?_; clear HTB; rintro e w4 ht; obtain ⟨hee, c', hcs, hcr, hj4, hok4⟩ := RfT.next HJ3.out HOK1.out ht; subst hee; have HJ4 := hid_mk hj4; have HOK4 := hid_mk hok4; have z0 : w4.cell? ⟨P, 0, none⟩ = some (.pointer (some ⟨c.s, 0, none⟩)) := (by rw [← hcs]; exact hj4.cells.1); have z1 : w4.cell? ⟨P, 1, none⟩ = some (.pointer (some ⟨c.r, 0, none⟩)) := (by rw [← hcr]; exact hj4.cells.2.1); clear ht hj4 hcs hcr hok4))
  go_wp2_with fail
  refine HRT.out _ _ rfl rfl ?_
  exact ⟨c', ks, kv, HJ4.out, HOK4.out, HKS.out⟩
set_option maxRecDepth 1000000 in
set_option maxHeartbeats 40000000 in
theorem step_drop {w0 : World} {P B3 : Nat} {c : PR} {ks : List PR} {kv : Value} {xd xa xb xc : Int} {xt : ByteArray} {w2 : World} {at' : Int} (hsb : SB w0 P B3 c ks kv xd xa xb xc xt w2) (hat : I64' at') (code : Code) (hcode : code = dropC (Tryd.f8.body.getD .skip)) (Q0 : Exit → Act → World → Prop) (hret : ∀ (a' : Act) (w' : World), a'.tmps.getD 4 undef = .bool true → a'.defers = [] → StepQ w0 P w' → Q0 .ret a' w') (u1 u2 u4 u6 u7 u8 u9 u10 u11 u12 u13 u14 u15 u16 u17 u18 u19 u20 u21 u22 u23 u24 u25 u26 u27 u28 u29 u30 u31 u32 u33 u34 u35 u36 u37 u38 u39 u40 u41 u42 u43 u44 u45 u46 u47 u48 u49 u50 u51 u52 u53 u54 u55 u56 u57 u58 u59 u60 u61 u62 u63 u64 u65 u66 u67 u68 u69 u70 u71 u72 u73 u74 u75 u76 u77 u78 u79 u80 u81 u82 u83 u84 u85 u86 u87 u88 u89 u90 u91 u92 u93 u94 u95 u96 u97 u98 u99 u100 u101 u102 u103 u104 u105 u106 u107 u108 u109 u110 u111 u112 u113 u114 u115 u116 u117 u118 u119 u120 u121 u122 u123 u124 u125 u126 u127 u128 u129 u130 u131 u132 u133 u134 u135 u136 u137 u138 u139 u140 u141 u142 u143 u144 u145 u146 u147 u148 u149 u150 u151 u152 u153 u154 u155 u156 u157 u158 u159 u160 u161 u162 u163 u164 u165 u166 u167 u168 u169 u170 u171 u172 u173 u174 u175 u176 u177 u178 u179 u180 u181 u182 u183 u184 u185 u186 u187 u188 u189 u190 u191 u192 u193 u194 u195 u196 u197 u198 u199 u200 u201 u202 u203 u204 u205 u206 u207 u208 u209 u210 u211 u212 u213 u214 u215 u216 u217 u218 u219 u220 u221 u222 u223 u224 u225 u226 u227 u228 u229 u230 u231 u232 u233 u234 u235 u236 u237 u238 u239 u240 u241 u242 u243 u244 u245 u246 u247 u248 u249 u250 u251 u252 u253 u254 u255 u256 u257 u258 u259 u260 u261 u262 u263 u264 u265 u266 u267 u268 u269 : Value) :
    Code.wp Tryd.prog code Q0 ⟨#[.pointer (some ⟨P, 0, none⟩), u1, u2, .pointer (some ⟨B3, 0, none⟩), u4, .int .i64 at', u6, u7, u8, u9, u10, u11, u12, u13, u14, u15, u16, u17, u18, u19, u20, u21, u22, u23, u24, u25, u26, u27, u28, u29, u30, u31, u32, u33, u34, u35, u36, u37, u38, u39, u40, u41, u42, u43, u44, u45, u46, u47, u48, u49, u50, u51, u52, u53, u54, u55, u56, u57, u58, u59, u60, u61, u62, u63, u64, u65, u66, u67, u68, u69, u70, u71, u72, u73, u74, u75, u76, u77, u78, u79, u80, u81, u82, u83, u84, u85, u86, u87, u88, u89, u90, u91, u92, u93, u94, u95, u96, u97, u98, u99, u100, u101, u102, u103, u104, u105, u106, u107, u108, u109, u110, u111, u112, u113, u114, u115, u116, u117, u118, u119, u120, u121, u122, u123, u124, u125, u126, u127, u128, u129, u130, u131, u132, u133, u134, u135, u136, u137, u138, u139, u140, u141, u142, u143, u144, u145, u146, u147, u148, u149, u150, u151, u152, u153, u154, u155, u156, u157, u158, u159, u160, u161, u162, u163, u164, u165, u166, u167, u168, u169, u170, u171, u172, u173, u174, u175, u176, u177, u178, u179, u180, u181, u182, u183, u184, u185, u186, u187, u188, u189, u190, u191, u192, u193, u194, u195, u196, u197, u198, u199, u200, u201, u202, u203, u204, u205, u206, u207, u208, u209, u210, u211, u212, u213, u214, u215, u216, u217, u218, u219, u220, u221, u222, u223, u224, u225, u226, u227, u228, u229, u230, u231, u232, u233, u234, u235, u236, u237, u238, u239, u240, u241, u242, u243, u244, u245, u246, u247, u248, u249, u250, u251, u252, u253, u254, u255, u256, u257, u258, u259, u260, u261, u262, u263, u264, u265, u266, u267, u268, u269], []⟩ w2 := by
  subst hcode
  conv => arg 2; whnf
  have HRT := hid_mk hret
  have HSB := hid_mk hsb
  have HATI := hid_mk hat
  have HOK := hid_mk hsb.ok
  have HJ2 := hid_mk hsb.j
  have HKS := hid_mk hsb.k4
  have HNB := hid_mk hsb.nb
  have HC3 := hid_mk hsb.cells
  have HA := hid_mk hsb.ia
  have HBW := hid_mk hsb.ib
  obtain ⟨y0, y1, y2, y3⟩ := hsb.cells w2 rfl
  obtain ⟨u0', u1', u2'⟩ := hsb.j.cells
  have HB3W : Hid (B3 < w2.heap.size) := (Array.getElem?_eq_some_iff.1 hsb.box).1
  clear hret hsb hat
  obtain ⟨E, l1, hok1, hTA, hTB⟩ := drop_both (w0 := w0) (P := P) (ks := ks) (kv := kv) HOK.out at' HATI.out
  have HOK1 := hid_mk hok1
  have HTA := hid_mk hTA
  have HTB := hid_mk hTB
  clear hok1 hTA hTB
  go_upto_region 20 with fail
  go_region_held3 (fun w' => w'.cell? ⟨P, 0, none⟩ = some (.pointer (some ⟨c.s, 0, none⟩)) ∧ w'.cell? ⟨P, 1, none⟩ = some (.pointer (some ⟨c.r, 0, none⟩))) (first | exact ⟨u0', u1'⟩ | exact ⟨v0, v1⟩ | exact ⟨z0, z1⟩) (first
    | (go_at_call 13; refine (HTA.out _ (HJ2.out.keepN (Below.drew (Below.refl _ _)))).mono ?_; clear HTA; rintro e w3 ht; obtain ⟨hee, hj3⟩ := SpT.next (HJ2.out.keepN (Below.drew (Below.refl _ _))) ht; subst hee; have HJ3 := hid_mk hj3; obtain ⟨v0, v1, _⟩ := hj3.cells; clear ht hj3)
    | (go_at_call 26; refine (HTB.out _ HJ3.out).mono ?_; clear HTB; rintro e w4 ht; obtain ⟨hee, c', hcs, hcr, hj4, hok4⟩ := RfT.next HJ3.out HOK1.out ht; subst hee; have HJ4 := hid_mk hj4; have HOK4 := hid_mk hok4; have z0 : w4.cell? ⟨P, 0, none⟩ = some (.pointer (some ⟨c.s, 0, none⟩)) := (by rw [← hcs]; exact hj4.cells.1); have z1 : w4.cell? ⟨P, 1, none⟩ = some (.pointer (some ⟨c.r, 0, none⟩)) := (by rw [← hcr]; exact hj4.cells.2.1); clear ht hj4 hcs hcr hok4))
  go_wp2_with fail
  refine HRT.out _ _ rfl rfl ?_
  exact ⟨c', ks, kv, HJ4.out, HOK4.out, HKS.out⟩
set_option maxRecDepth 1000000 in
set_option maxHeartbeats 40000000 in
theorem step_turn {w0 : World} {P B3 : Nat} {c : PR} {ks : List PR} {kv : Value} {xd xa xb xc : Int} {xt : ByteArray} {w2 : World} {at' : Int} (hsb : SB w0 P B3 c ks kv xd xa xb xc xt w2) (hat : I64' at') (code : Code) (hcode : code = turnC (Tryd.f8.body.getD .skip)) (Q0 : Exit → Act → World → Prop) (hret : ∀ (a' : Act) (w' : World), a'.tmps.getD 4 undef = .bool true → a'.defers = [] → StepQ w0 P w' → Q0 .ret a' w') (u1 u2 u4 u6 u7 u8 u9 u10 u11 u12 u13 u14 u15 u16 u17 u18 u19 u20 u21 u22 u23 u24 u25 u26 u27 u28 u29 u30 u31 u32 u33 u34 u35 u36 u37 u38 u39 u40 u41 u42 u43 u44 u45 u46 u47 u48 u49 u50 u51 u52 u53 u54 u55 u56 u57 u58 u59 u60 u61 u62 u63 u64 u65 u66 u67 u68 u69 u70 u71 u72 u73 u74 u75 u76 u77 u78 u79 u80 u81 u82 u83 u84 u85 u86 u87 u88 u89 u90 u91 u92 u93 u94 u95 u96 u97 u98 u99 u100 u101 u102 u103 u104 u105 u106 u107 u108 u109 u110 u111 u112 u113 u114 u115 u116 u117 u118 u119 u120 u121 u122 u123 u124 u125 u126 u127 u128 u129 u130 u131 u132 u133 u134 u135 u136 u137 u138 u139 u140 u141 u142 u143 u144 u145 u146 u147 u148 u149 u150 u151 u152 u153 u154 u155 u156 u157 u158 u159 u160 u161 u162 u163 u164 u165 u166 u167 u168 u169 u170 u171 u172 u173 u174 u175 u176 u177 u178 u179 u180 u181 u182 u183 u184 u185 u186 u187 u188 u189 u190 u191 u192 u193 u194 u195 u196 u197 u198 u199 u200 u201 u202 u203 u204 u205 u206 u207 u208 u209 u210 u211 u212 u213 u214 u215 u216 u217 u218 u219 u220 u221 u222 u223 u224 u225 u226 u227 u228 u229 u230 u231 u232 u233 u234 u235 u236 u237 u238 u239 u240 u241 u242 u243 u244 u245 u246 u247 u248 u249 u250 u251 u252 u253 u254 u255 u256 u257 u258 u259 u260 u261 u262 u263 u264 u265 u266 u267 u268 u269 : Value) :
    Code.wp Tryd.prog code Q0 ⟨#[.pointer (some ⟨P, 0, none⟩), u1, u2, .pointer (some ⟨B3, 0, none⟩), u4, .int .i64 at', u6, u7, u8, u9, u10, u11, u12, u13, u14, u15, u16, u17, u18, u19, u20, u21, u22, u23, u24, u25, u26, u27, u28, u29, u30, u31, u32, u33, u34, u35, u36, u37, u38, u39, u40, u41, u42, u43, u44, u45, u46, u47, u48, u49, u50, u51, u52, u53, u54, u55, u56, u57, u58, u59, u60, u61, u62, u63, u64, u65, u66, u67, u68, u69, u70, u71, u72, u73, u74, u75, u76, u77, u78, u79, u80, u81, u82, u83, u84, u85, u86, u87, u88, u89, u90, u91, u92, u93, u94, u95, u96, u97, u98, u99, u100, u101, u102, u103, u104, u105, u106, u107, u108, u109, u110, u111, u112, u113, u114, u115, u116, u117, u118, u119, u120, u121, u122, u123, u124, u125, u126, u127, u128, u129, u130, u131, u132, u133, u134, u135, u136, u137, u138, u139, u140, u141, u142, u143, u144, u145, u146, u147, u148, u149, u150, u151, u152, u153, u154, u155, u156, u157, u158, u159, u160, u161, u162, u163, u164, u165, u166, u167, u168, u169, u170, u171, u172, u173, u174, u175, u176, u177, u178, u179, u180, u181, u182, u183, u184, u185, u186, u187, u188, u189, u190, u191, u192, u193, u194, u195, u196, u197, u198, u199, u200, u201, u202, u203, u204, u205, u206, u207, u208, u209, u210, u211, u212, u213, u214, u215, u216, u217, u218, u219, u220, u221, u222, u223, u224, u225, u226, u227, u228, u229, u230, u231, u232, u233, u234, u235, u236, u237, u238, u239, u240, u241, u242, u243, u244, u245, u246, u247, u248, u249, u250, u251, u252, u253, u254, u255, u256, u257, u258, u259, u260, u261, u262, u263, u264, u265, u266, u267, u268, u269], []⟩ w2 := by
  subst hcode
  conv => arg 2; whnf
  have HRT := hid_mk hret
  have HSB := hid_mk hsb
  have HATI := hid_mk hat
  have HOK := hid_mk hsb.ok
  have HJ2 := hid_mk hsb.j
  have HKS := hid_mk hsb.k4
  have HNB := hid_mk hsb.nb
  have HC3 := hid_mk hsb.cells
  have HA := hid_mk hsb.ia
  have HBW := hid_mk hsb.ib
  obtain ⟨y0, y1, y2, y3⟩ := hsb.cells w2 rfl
  obtain ⟨u0', u1', u2'⟩ := hsb.j.cells
  have HB3W : Hid (B3 < w2.heap.size) := (Array.getElem?_eq_some_iff.1 hsb.box).1
  clear hret hsb hat
  have HD1 : Hid (Calls Tryd.prog 15 #[.agg #[.pointer (some ⟨c.s, 0, none⟩)]] w2 fun e w' => (∃ v, e = .returned v) ∧ Only c.s w2 w' ∧ SpAt w' c.s c.rows (turnL c.l)) := pturn_any c.s c.rows c.l w2 HJ2.out.sp HOK.out
  go_wp2_with (first
    | (go_at_call 15; refine HD1.out.mono ?_; clear HD1; rintro e w3 ⟨⟨v3, rfl⟩, ho, hs3⟩; have HJ3 := hid_mk (HJ2.out.spN ho hs3); obtain ⟨v0, v1, _⟩ := HJ3.out.cells; have HTU := hid_mk (rturn_any c.r c.rows c.v (refR c.l) w3 HJ3.out.rf HOK.out.rows30); clear ho hs3)
    | (go_at_call 27; refine HTU.out.mono ?_; clear HTU; rintro e w4 ⟨⟨v4, rfl⟩, k4, r4⟩; have HJ4 := hid_mk (HJ3.out.rfN (l' := turnL c.l) (rows' := c.rows) (v' := c.v) (k4.sub fun k _ hk e => hk (.inr e)) (fun k hk => .inl hk) (r4.congr (turnTo_ref HOK.out.fits))); clear k4 r4))
  refine HRT.out _ _ rfl rfl ?_
  exact ⟨⟨c.s, c.r, c.v, c.rows, turnL c.l⟩, ks, kv, HJ4.out, turn_ok HOK.out, HKS.out⟩
end Go.Proofs.YtcpdnalmoaojlaaDoor
