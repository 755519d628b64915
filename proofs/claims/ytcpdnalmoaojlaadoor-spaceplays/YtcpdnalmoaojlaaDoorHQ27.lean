import Derived.Test.YtcpdnalmoaojlaaDoorHQ22
import Derived.Test.YtcpdnalmoaojlaaDoorHQ24
import Derived.Test.YtcpdnalmoaojlaaDoorHQ25
import Derived.Test.YtcpdnalmoaojlaaDoorHQ26

/-
  SpacePlays: a step's switch.
-/
namespace Go.Proofs.YtcpdnalmoaojlaaDoor
open Go.RowKit Go.Shelf
set_option linter.unusedVariables false
set_option linter.unusedSimpArgs false

set_option maxRecDepth 1000000 in
set_option maxHeartbeats 40000000 in
theorem step_switch {w0 : World} {P B3 : Nat} {c : PR} {ks : List PR} {kv : Value} {xd xa xb xc : Int} {xt : ByteArray} {w2 : World} {at' d : Int} (hsb : SB w0 P B3 c ks kv xd xa xb xc xt w2) (hat : I64' at') (hd : 0 ≤ d ∧ d < 11) (code : Code) (hcode : code = swC (Tryd.f8.body.getD .skip)) (Q0 : Exit → Act → World → Prop) (hret : ∀ (a' : Act) (w' : World), a'.tmps.getD 4 undef = .bool true → a'.defers = [] → StepQ w0 P w' → Q0 .ret a' w') (u1 u2 u4 u6 u7 u8 u9 u10 u11 u12 u13 u14 u15 u16 u17 u18 u19 u20 u21 u22 u23 u24 u25 u26 u27 u28 u29 u30 u31 u32 u33 u34 u35 u36 u37 u38 u39 u40 u41 u42 u43 u44 u45 u46 u47 u48 u49 u50 u51 u52 u54 u55 u56 u57 u58 u59 u60 u61 u62 u63 u64 u65 u66 u67 u68 u69 u70 u71 u72 u73 u74 u75 u76 u77 u78 u79 u80 u81 u82 u83 u84 u85 u86 u87 u88 u89 u90 u91 u92 u93 u94 u95 u96 u97 u98 u99 u100 u101 u102 u103 u104 u105 u106 u107 u108 u109 u110 u111 u112 u113 u114 u115 u116 u117 u118 u119 u120 u121 u122 u123 u124 u125 u126 u127 u128 u129 u130 u131 u132 u133 u134 u135 u136 u137 u138 u139 u140 u141 u142 u143 u144 u145 u146 u147 u148 u149 u150 u151 u152 u153 u154 u155 u156 u157 u158 u159 u160 u161 u162 u163 u164 u165 u166 u167 u168 u169 u170 u171 u172 u173 u174 u175 u176 u177 u178 u179 u180 u181 u182 u183 u184 u185 u186 u187 u188 u189 u190 u191 u192 u193 u194 u195 u196 u197 u198 u199 u200 u201 u202 u203 u204 u205 u206 u207 u208 u209 u210 u211 u212 u213 u214 u215 u216 u217 u218 u219 u220 u221 u222 u223 u224 u225 u226 u227 u228 u229 u230 u231 u232 u233 u234 u235 u236 u237 u238 u239 u240 u241 u242 u243 u244 u245 u246 u247 u248 u249 u250 u251 u252 u253 u254 u255 u256 u257 u258 u259 u260 u261 u262 u263 u264 u265 u266 u267 u268 u269 : Value) :
    Code.wp Tryd.prog code Q0 ⟨#[.pointer (some ⟨P, 0, none⟩), u1, u2, .pointer (some ⟨B3, 0, none⟩), u4, .int .i64 at', u6, u7, u8, u9, u10, u11, u12, u13, u14, u15, u16, u17, u18, u19, u20, u21, u22, u23, u24, u25, u26, u27, u28, u29, u30, u31, u32, u33, u34, u35, u36, u37, u38, u39, u40, u41, u42, u43, u44, u45, u46, u47, u48, u49, u50, u51, u52, .int .i64 d, u54, u55, u56, u57, u58, u59, u60, u61, u62, u63, u64, u65, u66, u67, u68, u69, u70, u71, u72, u73, u74, u75, u76, u77, u78, u79, u80, u81, u82, u83, u84, u85, u86, u87, u88, u89, u90, u91, u92, u93, u94, u95, u96, u97, u98, u99, u100, u101, u102, u103, u104, u105, u106, u107, u108, u109, u110, u111, u112, u113, u114, u115, u116, u117, u118, u119, u120, u121, u122, u123, u124, u125, u126, u127, u128, u129, u130, u131, u132, u133, u134, u135, u136, u137, u138, u139, u140, u141, u142, u143, u144, u145, u146, u147, u148, u149, u150, u151, u152, u153, u154, u155, u156, u157, u158, u159, u160, u161, u162, u163, u164, u165, u166, u167, u168, u169, u170, u171, u172, u173, u174, u175, u176, u177, u178, u179, u180, u181, u182, u183, u184, u185, u186, u187, u188, u189, u190, u191, u192, u193, u194, u195, u196, u197, u198, u199, u200, u201, u202, u203, u204, u205, u206, u207, u208, u209, u210, u211, u212, u213, u214, u215, u216, u217, u218, u219, u220, u221, u222, u223, u224, u225, u226, u227, u228, u229, u230, u231, u232, u233, u234, u235, u236, u237, u238, u239, u240, u241, u242, u243, u244, u245, u246, u247, u248, u249, u250, u251, u252, u253, u254, u255, u256, u257, u258, u259, u260, u261, u262, u263, u264, u265, u266, u267, u268, u269], []⟩ w2 := by
  subst hcode
  conv => arg 2; whnf
  have HRT := hid_mk hret
  have HSB := hid_mk hsb
  have HATI := hid_mk hat
  have HD8 := hid_mk hd
  clear hret hsb hat hd
  obtain ⟨b4, hb4⟩ : ∃ b4, b4 = decide (d ≤ 3) := ⟨_, rfl⟩
  have HB4 := hid_mk hb4
  clear hb4
  go_upto_if 54 with fail
  go_cut [54] from 54 to 58 (fun v wx => v = .bool b4 ∧ wx = w2)
  case first =>
    have hdt := HD8.out
    by_cases e0 : d = 0
    · subst e0; go_wp2_with fail; go_meet; exact ⟨by rw [HB4.out]; rfl, rfl⟩
    · by_cases e1 : d = 1
      · subst e1; go_wp2_with fail; go_meet; exact ⟨by rw [HB4.out]; rfl, rfl⟩
      · by_cases e2 : d = 2
        · subst e2; go_wp2_with fail; go_meet; exact ⟨by rw [HB4.out]; rfl, rfl⟩
        · by_cases e3 : d = 3
          · subst e3; go_wp2_with fail; go_meet; exact ⟨by rw [HB4.out]; rfl, rfl⟩
          · have HF : Hid (decide (d ≤ 3) = false) := decide_eq_false (by omega)
            have x0 : (d == 0) = false := by simp [e0]
            have x1 : (d == 1) = false := by simp [e1]
            have x2 : (d == 2) = false := by simp [e2]
            have x3 : (d == 3) = false := by simp [e3]
            clear hdt
            go_wp2_with fail
            go_meet
            exact ⟨by rw [HB4.out, HF.out], rfl⟩
  case rest =>
    obtain ⟨rfl, hwc5⟩ := hcut
    rw [hwc5]
    clear hwc5
    have hdt := HD8.out
    by_cases hT : d ≤ 3
    · obtain rfl : b4 = true := by rw [HB4.out]; exact decide_eq_true hT
      clear hdt hT HB4 HD8
      go_upto_if 54 with fail
      refine wp_cond_true rfl ?_
      exact step_take HSB.out HATI.out _ rfl _ HRT.out _ _ _ _ _ _ _ _ _ _ _ _ _ _ _ _ _ _ _ _ _ _ _ _ _ _ _ _ _ _ _ _ _ _ _ _ _ _ _ _ _ _ _ _ _ _ _ _ _ _ _ _ _ _ _ _ _ _ _ _ _ _ _ _ _ _ _ _ _ _ _ _ _ _ _ _ _ _ _ _ _ _ _ _ _ _ _ _ _ _ _ _ _ _ _ _ _ _ _ _ _ _ _ _ _ _ _ _ _ _ _ _ _ _ _ _ _ _ _ _ _ _ _ _ _ _ _ _ _ _ _ _ _ _ _ _ _ _ _ _ _ _ _ _ _ _ _ _ _ _ _ _ _ _ _ _ _ _ _ _ _ _ _ _ _ _ _ _ _ _ _ _ _ _ _ _ _ _ _ _ _ _ _ _ _ _ _ _ _ _ _ _ _ _ _ _ _ _ _ _ _ _ _ _ _ _ _ _ _ _ _ _ _ _ _ _ _ _ _ _ _ _ _ _ _ _ _ _ _ _ _ _ _ _ _ _ _ _ _ _ _ _ _ _ _ _ _ _ _ _ _ _ _ _ _ _ _ _ _ _ _ _ _ _ _ _ _
    obtain rfl : b4 = false := by rw [HB4.out]; exact decide_eq_false hT
    clear HB4 HD8
    go_upto_if 54 with fail
    refine wp_cond_false rfl ?_
    by_cases h4 : d = 4
    · subst h4
      clear hdt
      go_upto_if 100 with fail
      refine wp_cond_true rfl ?_
      exact step_share HSB.out HATI.out _ rfl _ HRT.out _ _ _ _ _ _ _ _ _ _ _ _ _ _ _ _ _ _ _ _ _ _ _ _ _ _ _ _ _ _ _ _ _ _ _ _ _ _ _ _ _ _ _ _ _ _ _ _ _ _ _ _ _ _ _ _ _ _ _ _ _ _ _ _ _ _ _ _ _ _ _ _ _ _ _ _ _ _ _ _ _ _ _ _ _ _ _ _ _ _ _ _ _ _ _ _ _ _ _ _ _ _ _ _ _ _ _ _ _ _ _ _ _ _ _ _ _ _ _ _ _ _ _ _ _ _ _ _ _ _ _ _ _ _ _ _ _ _ _ _ _ _ _ _ _ _ _ _ _ _ _ _ _ _ _ _ _ _ _ _ _ _ _ _ _ _ _ _ _ _ _ _ _ _ _ _ _ _ _ _ _ _ _ _ _ _ _ _ _ _ _ _ _ _ _ _ _ _ _ _ _ _ _ _ _ _ _ _ _ _ _ _ _ _ _ _ _ _ _ _ _ _ _ _ _ _ _ _ _ _ _ _ _ _ _ _ _ _ _ _ _ _ _ _ _ _ _ _ _ _ _ _ _ _ _ _ _ _ _ _ _ _ _ _ _ _ _
    have hb4 : (d == 4) = false := by simp [h4]
    go_upto_if 100 with fail
    refine wp_cond_false rfl ?_
    obtain ⟨b5, hb5⟩ : ∃ b5, b5 = decide (d = 5 ∨ d = 6) := ⟨_, rfl⟩
    have HB5 := hid_mk hb5
    clear hb5
    go_upto_if 115 with fail
    go_cut [115] from 115 to 117 (fun v wx => v = .bool b5 ∧ wx = w2)
    case first =>
      by_cases e5 : d = 5
      · subst e5; clear hdt; go_wp2_with fail; go_meet; exact ⟨by rw [HB5.out]; rfl, rfl⟩
      · by_cases e6 : d = 6
        · subst e6; clear hdt; go_wp2_with fail; go_meet; exact ⟨by rw [HB5.out]; rfl, rfl⟩
        · have HF : Hid (decide (d = 5 ∨ d = 6) = false) := decide_eq_false (by omega)
          have x5 : (d == 5) = false := by simp [e5]
          have x6 : (d == 6) = false := by simp [e6]
          clear hdt
          go_wp2_with fail
          go_meet
          exact ⟨by rw [HB5.out, HF.out], rfl⟩
    case rest =>
      obtain ⟨rfl, hwc6⟩ := hcut
      rw [hwc6]
      clear hwc6
      by_cases hDr : d = 5 ∨ d = 6
      · obtain rfl : b5 = true := by rw [HB5.out]; exact decide_eq_true hDr
        clear hdt hDr HB5
        go_upto_if 115 with fail
        refine wp_cond_true rfl ?_
        exact step_drop HSB.out HATI.out _ rfl _ HRT.out _ _ _ _ _ _ _ _ _ _ _ _ _ _ _ _ _ _ _ _ _ _ _ _ _ _ _ _ _ _ _ _ _ _ _ _ _ _ _ _ _ _ _ _ _ _ _ _ _ _ _ _ _ _ _ _ _ _ _ _ _ _ _ _ _ _ _ _ _ _ _ _ _ _ _ _ _ _ _ _ _ _ _ _ _ _ _ _ _ _ _ _ _ _ _ _ _ _ _ _ _ _ _ _ _ _ _ _ _ _ _ _ _ _ _ _ _ _ _ _ _ _ _ _ _ _ _ _ _ _ _ _ _ _ _ _ _ _ _ _ _ _ _ _ _ _ _ _ _ _ _ _ _ _ _ _ _ _ _ _ _ _ _ _ _ _ _ _ _ _ _ _ _ _ _ _ _ _ _ _ _ _ _ _ _ _ _ _ _ _ _ _ _ _ _ _ _ _ _ _ _ _ _ _ _ _ _ _ _ _ _ _ _ _ _ _ _ _ _ _ _ _ _ _ _ _ _ _ _ _ _ _ _ _ _ _ _ _ _ _ _ _ _ _ _ _ _ _ _ _ _ _ _ _ _ _ _ _ _ _ _ _ _ _ _ _ _
      obtain rfl : b5 = false := by rw [HB5.out]; exact decide_eq_false hDr
      clear HB5
      go_upto_if 115 with fail
      refine wp_cond_false rfl ?_
      by_cases h7 : d = 7
      · subst h7
        clear hdt
        go_upto_if 131 with fail
        refine wp_cond_true rfl ?_
        exact step_turn HSB.out HATI.out _ rfl _ HRT.out _ _ _ _ _ _ _ _ _ _ _ _ _ _ _ _ _ _ _ _ _ _ _ _ _ _ _ _ _ _ _ _ _ _ _ _ _ _ _ _ _ _ _ _ _ _ _ _ _ _ _ _ _ _ _ _ _ _ _ _ _ _ _ _ _ _ _ _ _ _ _ _ _ _ _ _ _ _ _ _ _ _ _ _ _ _ _ _ _ _ _ _ _ _ _ _ _ _ _ _ _ _ _ _ _ _ _ _ _ _ _ _ _ _ _ _ _ _ _ _ _ _ _ _ _ _ _ _ _ _ _ _ _ _ _ _ _ _ _ _ _ _ _ _ _ _ _ _ _ _ _ _ _ _ _ _ _ _ _ _ _ _ _ _ _ _ _ _ _ _ _ _ _ _ _ _ _ _ _ _ _ _ _ _ _ _ _ _ _ _ _ _ _ _ _ _ _ _ _ _ _ _ _ _ _ _ _ _ _ _ _ _ _ _ _ _ _ _ _ _ _ _ _ _ _ _ _ _ _ _ _ _ _ _ _ _ _ _ _ _ _ _ _ _ _ _ _ _ _ _ _ _ _ _ _ _ _ _ _ _ _ _ _ _ _ _ _
      have hb7 : (d == 7) = false := by simp [h7]
      go_upto_if 131 with fail
      refine wp_cond_false rfl ?_
      by_cases h8 : d = 8
      · subst h8
        clear hdt
        go_upto_if 143 with fail
        refine wp_cond_true rfl ?_
        exact step_grow HSB.out HATI.out _ rfl _ HRT.out _ _ _ _ _ _ _ _ _ _ _ _ _ _ _ _ _ _ _ _ _ _ _ _ _ _ _ _ _ _ _ _ _ _ _ _ _ _ _ _ _ _ _ _ _ _ _ _ _ _ _ _ _ _ _ _ _ _ _ _ _ _ _ _ _ _ _ _ _ _ _ _ _ _ _ _ _ _ _ _ _ _ _ _ _ _ _ _ _ _ _ _ _ _ _ _ _ _ _ _ _ _ _ _ _ _ _ _ _ _ _ _ _ _ _ _ _ _ _ _ _ _ _ _ _ _ _ _ _ _ _ _ _ _ _ _ _ _ _ _ _ _ _ _ _ _ _ _ _ _ _ _ _ _ _ _ _ _ _ _ _ _ _ _ _ _ _ _ _ _ _ _ _ _ _ _ _ _ _ _ _ _ _ _ _ _ _ _ _ _ _ _ _ _ _ _ _ _ _ _ _ _ _ _ _ _ _ _ _ _ _ _ _ _ _ _ _ _ _ _ _ _ _ _ _ _ _ _ _ _ _ _ _ _ _ _ _ _ _ _ _ _ _ _ _ _ _ _ _ _ _ _ _ _ _ _ _ _ _ _ _ _ _ _ _ _ _
      have hb8 : (d == 8) = false := by simp [h8]
      go_upto_if 143 with fail
      refine wp_cond_false rfl ?_
      by_cases h9 : d = 9
      · subst h9
        clear hdt
        go_upto_if 187 with fail
        refine wp_cond_true rfl ?_
        exact step_copy HSB.out HATI.out _ rfl _ HRT.out _ _ _ _ _ _ _ _ _ _ _ _ _ _ _ _ _ _ _ _ _ _ _ _ _ _ _ _ _ _ _ _ _ _ _ _ _ _ _ _ _ _ _ _ _ _ _ _ _ _ _ _ _ _ _ _ _ _ _ _ _ _ _ _ _ _ _ _ _ _ _ _ _ _ _ _ _ _ _ _ _ _ _ _ _ _ _ _ _ _ _ _ _ _ _ _ _ _ _ _ _ _ _ _ _ _ _ _ _ _ _ _ _ _ _ _ _ _ _ _ _ _ _ _ _ _ _ _ _ _ _ _ _ _ _ _ _ _ _ _ _ _ _ _ _ _ _ _ _ _ _ _ _ _ _ _ _ _ _ _ _ _ _ _ _ _ _ _ _ _ _ _ _ _ _ _ _ _ _ _ _ _ _ _ _ _ _ _ _ _ _ _ _ _ _ _ _ _ _ _ _ _ _ _ _ _ _ _ _ _ _ _ _ _ _ _ _ _ _ _ _ _ _ _ _ _ _ _ _ _ _ _ _ _ _ _ _ _ _ _ _ _ _ _ _ _ _ _ _ _ _ _ _ _ _ _ _ _ _ _ _ _ _ _ _ _ _
      have hb9 : (d == 9) = false := by simp [h9]
      go_upto_if 187 with fail
      refine wp_cond_false rfl ?_
      obtain rfl : d = 10 := by omega
      go_upto_if 215 with fail
      refine wp_cond_true rfl ?_
      exact step_swap HSB.out HATI.out _ rfl _ HRT.out _ _ _ _ _ _ _ _ _ _ _ _ _ _ _ _ _ _ _ _ _ _ _ _ _ _ _ _ _ _ _ _ _ _ _ _ _ _ _ _ _ _ _ _ _ _ _ _ _ _ _ _ _ _ _ _ _ _ _ _ _ _ _ _ _ _ _ _ _ _ _ _ _ _ _ _ _ _ _ _ _ _ _ _ _ _ _ _ _ _ _ _ _ _ _ _ _ _ _ _ _ _ _ _ _ _ _ _ _ _ _ _ _ _ _ _ _ _ _ _ _ _ _ _ _ _ _ _ _ _ _ _ _ _ _ _ _ _ _ _ _ _ _ _ _ _ _ _ _ _ _ _ _ _ _ _ _ _ _ _ _ _ _ _ _ _ _ _ _ _ _ _ _ _ _ _ _ _ _ _ _ _ _ _ _ _ _ _ _ _ _ _ _ _ _ _ _ _ _ _ _ _ _ _ _ _ _ _ _ _ _ _ _ _ _ _ _ _ _ _ _ _ _ _ _ _ _ _ _ _ _ _ _ _ _ _ _ _ _ _ _ _ _ _ _ _ _ _ _ _ _ _ _ _ _ _ _ _ _ _ _ _ _ _ _ _ _
end Go.Proofs.YtcpdnalmoaojlaaDoor
