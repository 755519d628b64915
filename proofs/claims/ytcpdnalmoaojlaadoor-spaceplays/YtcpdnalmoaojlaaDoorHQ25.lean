import Derived.Test.YtcpdnalmoaojlaaDoorHPk
import Derived.Deep.AppendLies
import Derived.Laws.Cover1

/-
  SpacePlays: a step: others are laid aside.
-/
namespace Go.Proofs.YtcpdnalmoaojlaaDoor
open Go.RowKit Go.Shelf
set_option linter.unusedVariables false
set_option linter.unusedSimpArgs false

theorem infoOther : (Tryd.prog.info? 73).map (fun i => (i.zero, i.size, i.bytes)) = some (some (.agg #[.pointer none, .pointer none]), 2, 16) := by kernel_rfl
/-- One more is laid aside, as the step does it. -/
theorem push_step {w0 : World} {P Kn ck : Nat} {ak : Option Addr} {c : PR} {ks : List PR} {kv : Value} {w2 : World} (hj : PJ w0 P c c.rows c.l ks kv w2) (hok : SpOk c.rows c.l) (hks : ks.length ≤ 4) (hkv : kv = .slice ak Kn ck) (hkn : Kn = ks.length) (hz : Kn < 4) :
    ∀ (s' r' : Nat) (v' : Value) (w4 : World) (g c6 : Nat) (w6 : World) {w3 : World}, w2.drew.heap.size ≤ s' → w3.heap.size ≤ r' → (∀ k, own v' k → w3.heap.size ≤ k) → SpAt w4 s' c.rows c.l → RfAt w4 r' v' c.rows (refR c.l) → Below w2.heap.size w2 w3 → Below w2.heap.size w2 w4 →
      w6.ownsRow w0.heap.size 73 2 (.slice (some ⟨g, 0, none⟩) (Kn + 1) c6) (Kn + 1) (kvL ks ++ [.pointer (some ⟨s', 0, none⟩), .pointer (some ⟨r', 0, none⟩)]) → (w4.alloc (.cells #[.pointer (some ⟨s', 0, none⟩), .pointer (some ⟨r', 0, none⟩)] 73)).grownBy w6 (Value.slice ak Kn ck).ownBlock → ((Value.slice ak Kn ck).ownBlock = some g ∨ g = w4.heap.size + 1) →
      (w6.cell? ⟨P, 0, none⟩ = some (.pointer (some ⟨c.s, 0, none⟩)) ∧ w6.cell? ⟨P, 1, none⟩ = some (.pointer (some ⟨c.r, 0, none⟩)) ∧ w6.cell? ⟨P, 2, none⟩ = some (.slice ak Kn ck)) ∧ (∀ i, w6.frozen? ⟨P, i, none⟩ = false) ∧ ((w6.setCell ⟨P, 2, none⟩ (.slice (some ⟨g, 0, none⟩) (Kn + 1) c6)).cell? ⟨P, 0, none⟩ = some (.pointer (some ⟨c.s, 0, none⟩)) ∧ (w6.setCell ⟨P, 2, none⟩ (.slice (some ⟨g, 0, none⟩) (Kn + 1) c6)).cell? ⟨P, 1, none⟩ = some (.pointer (some ⟨c.r, 0, none⟩))) ∧ StepQ w0 P (w6.setCell ⟨P, 2, none⟩ (.slice (some ⟨g, 0, none⟩) (Kn + 1) c6)) := by
  intro s' r' v' w4 g c6 w6 w3 l3 l4 o4 p3 p4 b3 b4 hown hgr hat
  have hb := b4.alloc b4.size (.cells #[.pointer (some ⟨s', 0, none⟩), .pointer (some ⟨r', 0, none⟩)] 73)
  have h4X : Below w4.heap.size w4 (w4.alloc (.cells #[.pointer (some ⟨s', 0, none⟩), .pointer (some ⟨r', 0, none⟩)] 73)) := Below.alloc (Below.refl _ _) (Nat.le_refl _) _
  have hp : PRok (w4.alloc (.cells #[.pointer (some ⟨s', 0, none⟩), .pointer (some ⟨r', 0, none⟩)] 73)) ⟨s', r', v', c.rows, c.l⟩ := ⟨p3.below h4X, hok, p4.below h4X⟩
  have hs3 := b3.size
  have hlow : ∀ k, ft ⟨s', r', v', c.rows, c.l⟩ k → w2.heap.size ≤ k := fun k hk => by
    rcases hk with e | e | e
    · have e' : k = s' := e
      have l3' : w2.heap.size ≤ s' := l3
      omega
    · have e' : k = r' := e
      omega
    · have := o4 k e; omega
  have hk : Kept (fun k => ¬ own kv k) (w4.alloc (.cells #[.pointer (some ⟨s', 0, none⟩), .pointer (some ⟨r', 0, none⟩)] 73)) w6 := ⟨hgr.os, hgr.tape, hgr.output, hgr.size, fun k hk hn => hgr.block k hk (fun e => hn (by rw [hkv]; exact e.symm))⟩
  have hn : ∀ k, own (.slice (some ⟨g, 0, none⟩) (Kn + 1) c6) k → own kv k ∨ (w4.alloc (.cells #[.pointer (some ⟨s', 0, none⟩), .pointer (some ⟨r', 0, none⟩)] 73)).heap.size ≤ k := fun k hk => by
    have e : g = k := own_slice hk
    subst e
    rcases hat with e | e
    · exact .inl (by rw [hkv]; exact e)
    · exact .inr (by rw [e]; simp)
  have hkw : KOwns w6 w0.heap.size (.slice (some ⟨g, 0, none⟩) (Kn + 1) c6) (ks ++ [⟨s', r', v', c.rows, c.l⟩]) := by
    unfold KOwns
    have e : kvL (ks ++ [⟨s', r', v', c.rows, c.l⟩]) = kvL ks ++ [.pointer (some ⟨s', 0, none⟩), .pointer (some ⟨r', 0, none⟩)] := by unfold kvL; rw [List.flatMap_append, List.flatMap_singleton]
    rw [e, List.length_append, ← hkn]
    exact hown
  obtain ⟨q1, q2⟩ := hj.push hok hb hp hlow hk hn hkw
  rw [hkv] at q1
  refine ⟨⟨by simp [World.cell?, q1], by simp [World.cell?, q1], by simp [World.cell?, q1]⟩, unfrozen q1, ⟨q2.cells.1, q2.cells.2.1⟩, ⟨c, ks ++ [⟨s', r', v', c.rows, c.l⟩], _, q2, hok, by rw [List.length_append, ← hkn]; simp; omega⟩⟩
set_option maxRecDepth 1000000 in
set_option maxHeartbeats 40000000 in
theorem step_copy {w0 : World} {P B3 : Nat} {c : PR} {ks : List PR} {kv : Value} {xd xa xb xc : Int} {xt : ByteArray} {w2 : World} {at' : Int} (hsb : SB w0 P B3 c ks kv xd xa xb xc xt w2) (hat : I64' at') (code : Code) (hcode : code = copyC (Tryd.f8.body.getD .skip)) (Q0 : Exit → Act → World → Prop) (hret : ∀ (a' : Act) (w' : World), a'.tmps.getD 4 undef = .bool true → a'.defers = [] → StepQ w0 P w' → Q0 .ret a' w') (u1 u2 u4 u6 u7 u8 u9 u10 u11 u12 u13 u14 u15 u16 u17 u18 u19 u20 u21 u22 u23 u24 u25 u26 u27 u28 u29 u30 u31 u32 u33 u34 u35 u36 u37 u38 u39 u40 u41 u42 u43 u44 u45 u46 u47 u48 u49 u50 u51 u52 u53 u54 u55 u56 u57 u58 u59 u60 u61 u62 u63 u64 u65 u66 u67 u68 u69 u70 u71 u72 u73 u74 u75 u76 u77 u78 u79 u80 u81 u82 u83 u84 u85 u86 u87 u88 u89 u90 u91 u92 u93 u94 u95 u96 u97 u98 u99 u100 u101 u102 u103 u104 u105 u106 u107 u108 u109 u110 u111 u112 u113 u114 u115 u116 u117 u118 u119 u120 u121 u122 u123 u124 u125 u126 u127 u128 u129 u130 u131 u132 u133 u134 u135 u136 u137 u138 u139 u140 u141 u142 u143 u144 u145 u146 u147 u148 u149 u150 u151 u152 u153 u154 u155 u156 u157 u158 u159 u160 u161 u162 u163 u164 u165 u166 u167 u168 u169 u170 u171 u172 u173 u174 u175 u176 u177 u178 u179 u180 u181 u182 u183 u184 u185 u186 u187 u188 u189 u190 u191 u192 u193 u194 u195 u196 u197 u198 u199 u200 u201 u202 u203 u204 u205 u206 u207 u208 u209 u210 u211 u212 u213 u214 u215 u216 u217 u218 u219 u220 u221 u222 u223 u224 u225 u226 u227 u228 u229 u230 u231 u232 u233 u234 u235 u236 u237 u238 u239 u240 u241 u242 u243 u244 u245 u246 u247 u248 u249 u250 u251 u252 u253 u254 u255 u256 u257 u258 u259 u260 u261 u262 u263 u264 u265 u266 u267 u268 u269 : Value) :
    Code.wp Tryd.prog code Q0 ⟨#[.pointer (some ⟨P, 0, none⟩), u1, u2, .pointer (some ⟨B3, 0, none⟩), u4, .int .i64 at', u6, u7, u8, u9, u10, u11, u12, u13, u14, u15, u16, u17, u18, u19, u20, u21, u22, u23, u24, u25, u26, u27, u28, u29, u30, u31, u32, u33, u34, u35, u36, u37, u38, u39, u40, u41, u42, u43, u44, u45, u46, u47, u48, u49, u50, u51, u52, u53, u54, u55, u56, u57, u58, u59, u60, u61, u62, u63, u64, u65, u66, u67, u68, u69, u70, u71, u72, u73, u74, u75, u76, u77, u78, u79, u80, u81, u82, u83, u84, u85, u86, u87, u88, u89, u90, u91, u92, u93, u94, u95, u96, u97, u98, u99, u100, u101, u102, u103, u104, u105, u106, u107, u108, u109, u110, u111, u112, u113, u114, u115, u116, u117, u118, u119, u120, u121, u122, u123, u124, u125, u126, u127, u128, u129, u130, u131, u132, u133, u134, u135, u136, u137, u138, u139, u140, u141, u142, u143, u144, u145, u146, u147, u148, u149, u150, u151, u152, u153, u154, u155, u156, u157, u158, u159, u160, u161, u162, u163, u164, u165, u166, u167, u168, u169, u170, u171, u172, u173, u174, u175, u176, u177, u178, u179, u180, u181, u182, u183, u184, u185, u186, u187, u188, u189, u190, u191, u192, u193, u194, u195, u196, u197, u198, u199, u200, u201, u202, u203, u204, u205, u206, u207, u208, u209, u210, u211, u212, u213, u214, u215, u216, u217, u218, u219, u220, u221, u222, u223, u224, u225, u226, u227, u228, u229, u230, u231, u232, u233, u234, u235, u236, u237, u238, u239, u240, u241, u242, u243, u244, u245, u246, u247, u248, u249, u250, u251, u252, u253, u254, u255, u256, u257, u258, u259, u260, u261, u262, u263, u264, u265, u266, u267, u268, u269], []⟩ w2 := by
  subst hcode
  conv => arg 2; whnf
  have HRT := hid_mk hret
  have HSB := hid_mk hsb
  have HATI := hid_mk hat
  have HOK := hid_mk hsb.ok
  have HJ2 := hid_mk hsb.j
  have HKS := hid_mk hsb.k4
  have HNB := hid_mk hsb.nb
  have HC3 := hid_mk hsb.cells
  have HA := hid_mk hsb.ia
  have HBW := hid_mk hsb.ib
  obtain ⟨y0, y1, y2, y3⟩ := hsb.cells w2 rfl
  obtain ⟨u0', u1', u2'⟩ := hsb.j.cells
  have HB3W : Hid (B3 < w2.heap.size) := (Array.getElem?_eq_some_iff.1 hsb.box).1
  clear hret hsb hat
  obtain ⟨ak, ck, hkv⟩ := HJ2.out.kow.frm
  obtain ⟨Kn, hKn⟩ : ∃ Kn, Kn = ks.length := ⟨_, rfl⟩
  rw [← hKn] at hkv
  rw [hkv] at u2'
  have HKV := hid_mk hkv
  have HKN := hid_mk hKn
  have hK4 : Kn ≤ 4 := by have := HKS.out; omega
  clear hkv hKn
  by_cases hz : Kn < 4
  · have hzi : (Kn : Int) < 4 := by omega
    have HCP : Hid (∀ W, Below w2.heap.size w2 W → Calls Tryd.prog 30 #[.agg #[.pointer (some ⟨c.s, 0, none⟩)]] W fun e w' => ∃ s', e = .returned (.agg #[.pointer (some ⟨s', 0, none⟩)]) ∧ W.heap.size ≤ s' ∧ SpAt w' s' c.rows c.l ∧ Below W.heap.size W w') := fun W hW => pcopy_any c.s c.rows c.l W (HJ2.out.keepN hW).sp
    have HCR : Hid (∀ W, Below w2.heap.size w2 W → Calls Tryd.prog 31 #[.pointer (some ⟨c.r, 0, none⟩)] W fun e w' => ∃ r' v', e = .returned (.pointer (some ⟨r', 0, none⟩)) ∧ W.heap.size ≤ r' ∧ (∀ k, own v' k → W.heap.size ≤ k) ∧ RfAt w' r' v' c.rows (refR c.l) ∧ Below W.heap.size W w') := fun W hW => rcopy_any c.r c.rows c.v (refR c.l) W (HJ2.out.keepN hW).rf HOK.out.rows30
    have HPC : Hid (∀ W, Below w2.heap.size w2 W → W.cell? ⟨P, 0, none⟩ = some (.pointer (some ⟨c.s, 0, none⟩)) ∧ W.cell? ⟨P, 1, none⟩ = some (.pointer (some ⟨c.r, 0, none⟩)) ∧ W.cell? ⟨P, 2, none⟩ = some (.slice ak Kn ck)) := fun W hW => ⟨(HJ2.out.keepN hW).cells.1, (HJ2.out.keepN hW).cells.2.1, by rw [← HKV.out]; exact (HJ2.out.keepN hW).cells.2.2⟩
    have HDR : Hid (Below w2.heap.size w2 w2.drew) := Below.drew (Below.refl _ _)
    have HKO : Hid (∀ W, Below w2.heap.size w2 W → W.ownsRow w0.heap.size 73 2 (.slice ak Kn ck) Kn (kvL ks)) := fun W hW => by
      have h := (HJ2.out.keepN hW).kow
      unfold KOwns at h
      rw [HKV.out, ← HKN.out] at h
      exact h
    have HNW : Hid (∀ (W : World) (s' r' : Nat), ∀ k u, ([.pointer (some ⟨s', 0, none⟩), .pointer (some ⟨r', 0, none⟩)] : List Value)[k]? = some u → (W.alloc (.cells #[.pointer (some ⟨s', 0, none⟩), .pointer (some ⟨r', 0, none⟩)] 73)).cell? (Addr.add ⟨W.heap.size, 0, none⟩ k) = some u) := by
      intro W s' r' k u hu
      rw [Addr.add_lit]
      have e := heap_alloc_new W (.cells #[.pointer (some ⟨s', 0, none⟩), .pointer (some ⟨r', 0, none⟩)] 73)
      simp only [World.cell?, e, Nat.zero_add]
      simpa using hu
    have HPUSH := hid_mk (push_step HJ2.out HOK.out HKS.out HKV.out HKN.out hz)
    obtain ⟨i0, hi, hz0, hz1, hz2⟩ := info_parts infoOther
    have HI0 := hid_mk hi
    have HZ0 := hid_mk hz0
    have HZ1 := hid_mk hz1
    have HZ2 := hid_mk hz2
    clear hi hz0 hz1 hz2 hz
    go_upto_region 34 with fail
    obtain ⟨a0, a1, a2⟩ := HPC.out w2.drew HDR.out
    clear u0' u1' u2' y0 y1 y2 y3
    refine wp_region_noPanic ?_
    refine wp_region_held_drew (S := (fun w' => w'.cell? ⟨P, 0, none⟩ = some (.pointer (some ⟨c.s, 0, none⟩)) ∧ w'.cell? ⟨P, 1, none⟩ = some (.pointer (some ⟨c.r, 0, none⟩)))) (by kernel_rfl) (by (try dsimp only); exact ⟨a0, a1⟩) (fun hHeld => ?_)
    refine wpAnyH_take (i := 0) (v := ?_) rfl (by kernel_rfl) (by kernel_rfl) (by kernel_rfl) (fun _ _ _ h => h) (Or.inl ⟨by kernel_rfl, ?_⟩) (by assumption) ?_
    rotate_left
    · (intro wq hSw; (try dsimp only at hSw); go_simp; (try with_reducible rfl))
    try simp only [Act.put, List.getElem_toArray, List.getElem_cons_zero, List.getElem_cons_succ, List.setIfInBounds_toArray, List.set_cons_zero, List.set_cons_succ]
    refine wpAnyH_take (i := 1) (v := ?_) rfl (by kernel_rfl) (by kernel_rfl) (by kernel_rfl) (fun _ _ _ h => h) (Or.inl ⟨by kernel_rfl, ?_⟩) (by assumption) ?_
    rotate_left
    · (intro wq hSw; (try dsimp only at hSw); go_simp; (try with_reducible rfl))
    try simp only [Act.put, List.getElem_toArray, List.getElem_cons_zero, List.getElem_cons_succ, List.setIfInBounds_toArray, List.set_cons_zero, List.set_cons_succ]
    refine wpAnyH_take (i := 2) (v := ?_) rfl (by kernel_rfl) (by kernel_rfl) (by kernel_rfl) (fun _ _ _ h => h) (Or.inl ⟨by kernel_rfl, ?_⟩) (by assumption) ?_
    rotate_left
    · (intro wq hSw; (try dsimp only at hSw); go_simp; (try with_reducible rfl))
    try simp only [Act.put, List.getElem_toArray, List.getElem_cons_zero, List.getElem_cons_succ, List.setIfInBounds_toArray, List.set_cons_zero, List.set_cons_succ]
    refine wpAnyH_take (i := 3) (v := ?_) rfl (by kernel_rfl) (by kernel_rfl) (by kernel_rfl) (fun _ _ _ h => h) (Or.inl ⟨by kernel_rfl, ?_⟩) (by assumption) ?_
    rotate_left
    · (intro wq hSw; (try dsimp only at hSw); go_simp; (try with_reducible rfl))
    try simp only [Act.put, List.getElem_toArray, List.getElem_cons_zero, List.getElem_cons_succ, List.setIfInBounds_toArray, List.set_cons_zero, List.set_cons_succ]
    refine wpAnyH_take (i := 5) (v := ?_) rfl (by kernel_rfl) (by kernel_rfl) (by kernel_rfl) (fun _ _ _ h => h) (Or.inl ⟨by kernel_rfl, ?_⟩) (by assumption) ?_
    rotate_left
    · (intro wq hSw; (try dsimp only at hSw); go_simp; (try with_reducible rfl))
    try simp only [Act.put, List.getElem_toArray, List.getElem_cons_zero, List.getElem_cons_succ, List.setIfInBounds_toArray, List.set_cons_zero, List.set_cons_succ]
    refine wpAnyH_take (i := 6) (v := ?_) rfl (by kernel_rfl) (by kernel_rfl) (by kernel_rfl) (fun _ _ _ h => h) (Or.inl ⟨by kernel_rfl, ?_⟩) (by assumption) ?_
    rotate_left
    · (intro wq hSw; (try dsimp only at hSw); go_simp; (try with_reducible rfl))
    try simp only [Act.put, List.getElem_toArray, List.getElem_cons_zero, List.getElem_cons_succ, List.setIfInBounds_toArray, List.set_cons_zero, List.set_cons_succ]
    refine wpAnyH_take (i := 7) (v := ?_) rfl (by kernel_rfl) (by kernel_rfl) (by kernel_rfl) (fun _ _ _ h => h) (Or.inl ⟨by kernel_rfl, ?_⟩) (by assumption) ?_
    rotate_left
    · (intro wq hSw; (try dsimp only at hSw); go_simp; (try with_reducible rfl))
    try simp only [Act.put, List.getElem_toArray, List.getElem_cons_zero, List.getElem_cons_succ, List.setIfInBounds_toArray, List.set_cons_zero, List.set_cons_succ]
    refine wpAnyH_take (i := 8) (v := ?_) rfl (by kernel_rfl) (by kernel_rfl) (by kernel_rfl) (fun _ _ _ h => h) (Or.inl ⟨by kernel_rfl, ?_⟩) (by assumption) ?_
    rotate_left
    · (intro wq hSw; (try dsimp only at hSw); go_simp; (try with_reducible rfl))
    try simp only [Act.put, List.getElem_toArray, List.getElem_cons_zero, List.getElem_cons_succ, List.setIfInBounds_toArray, List.set_cons_zero, List.set_cons_succ]
    refine wpAnyH_take (i := 10) (v := ?_) rfl (by kernel_rfl) (by kernel_rfl) (by kernel_rfl) (fun _ _ _ h => h) (Or.inl ⟨by kernel_rfl, ?_⟩) (by assumption) ?_
    rotate_left
    · (intro wq hSw; (try dsimp only at hSw); go_simp; (try with_reducible rfl))
    try simp only [Act.put, List.getElem_toArray, List.getElem_cons_zero, List.getElem_cons_succ, List.setIfInBounds_toArray, List.set_cons_zero, List.set_cons_succ]
    refine wpAnyH_take (i := 11) (v := ?_) rfl (by kernel_rfl) (by kernel_rfl) (by kernel_rfl) (fun _ _ _ h => h) (Or.inl ⟨by kernel_rfl, ?_⟩) (by assumption) ?_
    rotate_left
    · (intro wq hSw; (try dsimp only at hSw); go_simp; (try with_reducible rfl))
    try simp only [Act.put, List.getElem_toArray, List.getElem_cons_zero, List.getElem_cons_succ, List.setIfInBounds_toArray, List.set_cons_zero, List.set_cons_succ]
    refine wpAnyH_take (i := 12) (v := ?_) rfl (by kernel_rfl) (by kernel_rfl) (by kernel_rfl) (fun _ _ _ h => h) (Or.inl ⟨by kernel_rfl, ?_⟩) (by assumption) ?_
    rotate_left
    · (intro wq hSw; (try dsimp only at hSw); go_simp; (try with_reducible rfl))
    try simp only [Act.put, List.getElem_toArray, List.getElem_cons_zero, List.getElem_cons_succ, List.setIfInBounds_toArray, List.set_cons_zero, List.set_cons_succ]
    refine wpAnyH_take (i := 13) (v := ?_) rfl (by kernel_rfl) (by kernel_rfl) (by kernel_rfl) (fun _ _ _ h => h) (Or.inl ⟨by kernel_rfl, ?_⟩) (by assumption) ?_
    rotate_left
    · (intro wq hSw; (try dsimp only at hSw); go_simp; (try with_reducible rfl))
    try simp only [Act.put, List.getElem_toArray, List.getElem_cons_zero, List.getElem_cons_succ, List.setIfInBounds_toArray, List.set_cons_zero, List.set_cons_succ]
    refine wpAnyH_ready (rs := [4, 9]) (by kernel_rfl) (by simp) ?_
    refine AllReadyH.cons rfl (fun K hK => ?_) (AllReadyH.cons rfl (fun K hK => ?_) AllReadyH.nil)
    · go_simp
      refine hK.out _ _ (by (try dsimp only); exact ⟨a0, a1⟩) (fun hHeld => ?_)
      clear hK K
      try simp only [Act.put, List.getElem_toArray, List.getElem_cons_zero, List.getElem_cons_succ, List.setIfInBounds_toArray, List.set_cons_zero, List.set_cons_succ]
      refine wpAnyH_ready (rs := [9]) (by kernel_rfl) (by simp) ?_
      refine AllReadyH.cons rfl (fun K hK => ?_) AllReadyH.nil
      (go_simp; go_at_call 30; refine (HCP.out _ HDR.out).mono ?_; clear HCP; rintro e w3 ⟨s', rfl, l3, p3, b3⟩; have HL3 := hid_mk l3; have HP3 := hid_mk p3; have HB3 : Hid (Below w2.heap.size w2 w3) := HDR.out.trans (b3.mono HDR.out.size); obtain ⟨b0, b1, b2⟩ := HPC.out w3 HB3.out; clear l3 p3 b3; go_wp2_with fail)
      refine hK.out _ _ (by (try dsimp only); exact ⟨b0, b1⟩) (fun hHeld => ?_)
      clear hK K
      try simp only [Act.put, List.getElem_toArray, List.getElem_cons_zero, List.getElem_cons_succ, List.setIfInBounds_toArray, List.set_cons_zero, List.set_cons_succ]
      refine wpAnyH_ready (rs := [14]) (by kernel_rfl) (by simp) ?_
      refine AllReadyH.cons rfl (fun K hK => ?_) AllReadyH.nil
      (go_simp; go_at_call 31; refine (HCR.out _ HB3.out).mono ?_; clear HCR; rintro e w4 ⟨r', v', rfl, l4, o4, p4, b4⟩; have HL4 := hid_mk l4; have HO4 := hid_mk o4; have HP4 := hid_mk p4; have HP34 := hid_mk (HP3.out.below b4); have HB4 : Hid (Below w2.heap.size w2 w4) := HB3.out.trans (b4.mono HB3.out.size); obtain ⟨d0, d1, d2⟩ := HPC.out w4 HB4.out; have HAL : Hid (Below w2.heap.size w2 (w4.alloc (.cells #[.pointer (some ⟨s', 0, none⟩), .pointer (some ⟨r', 0, none⟩)] 73))) := HB4.out.alloc HB4.out.size _; obtain ⟨e0, e1, e2⟩ := HPC.out _ HAL.out; clear l4 o4 p4 b4; go_wp2_with fail)
      refine hK.out _ _ (by (try dsimp only); exact ⟨d0, d1⟩) (fun hHeld => ?_)
      clear hK K
      try simp only [Act.put, List.getElem_toArray, List.getElem_cons_zero, List.getElem_cons_succ, List.setIfInBounds_toArray, List.set_cons_zero, List.set_cons_succ]
      refine wpAnyH_take (i := 15) (v := ?_) rfl (by kernel_rfl) (by kernel_rfl) (by kernel_rfl) (fun _ _ _ h => h) (Or.inl ⟨by kernel_rfl, ?_⟩) (by assumption) ?_
      rotate_left
      · (intro wq hSw; (try dsimp only at hSw); go_simp; (try with_reducible rfl))
      try simp only [Act.put, List.getElem_toArray, List.getElem_cons_zero, List.getElem_cons_succ, List.setIfInBounds_toArray, List.set_cons_zero, List.set_cons_succ]
      refine wpAnyH_ready (rs := [16]) (by kernel_rfl) (by simp) ?_
      refine AllReadyH.cons rfl (fun K hK => ?_) AllReadyH.nil
      go_simp
      refine hK.out _ _ (by (try dsimp only); exact ⟨e0, e1⟩) (fun hHeld => ?_)
      clear hK K
      try simp only [Act.put, List.getElem_toArray, List.getElem_cons_zero, List.getElem_cons_succ, List.setIfInBounds_toArray, List.set_cons_zero, List.set_cons_succ]
      refine wpAnyH_ready (rs := [17]) (by kernel_rfl) (by simp) ?_
      refine AllReadyH.cons rfl (fun K hK => ?_) AllReadyH.nil
      (refine step_append_lies (w4.alloc (.cells #[.pointer (some ⟨s', 0, none⟩), .pointer (some ⟨r', 0, none⟩)] 73)) rfl _ _ 33 rfl w0.heap.size 73 i0 (.agg #[.pointer none, .pointer none]) 2 16 Tryd.underlying33 HI0.out HZ0.out HZ1.out HZ2.out rfl (by decide) (.slice ak Kn ck) Kn (kvL ks) rfl (HKO.out _ HAL.out) ⟨w4.heap.size, 0, none⟩ 1 1 [.pointer (some ⟨s', 0, none⟩), .pointer (some ⟨r', 0, none⟩)] rfl rfl (HNW.out _ _ _) (by simp [Value.oneCell']) (by decide) (by unfold maxLen; omega) (by omega) (Nat.le_trans HJ2.out.below.size HAL.out.size) (w4.heap.size + 1) (by simp) ?_; intro g6 c6 w6 hown6 hgr6 hat6 hlt6; have HPU := hid_mk (HPUSH.out s' r' v' w4 g6 c6 w6 HL3.out HL4.out HO4.out HP34.out HP4.out HB3.out HB4.out hown6 hgr6 hat6); obtain ⟨f0, f1, f2⟩ := HPU.out.1; have ff := HPU.out.2.1; clear hown6 hgr6 hat6 hlt6)
      refine hK.out _ _ (by (try dsimp only); exact ⟨f0, f1⟩) (fun hHeld => ?_)
      clear hK K
      try simp only [Act.put, List.getElem_toArray, List.getElem_cons_zero, List.getElem_cons_succ, List.setIfInBounds_toArray, List.set_cons_zero, List.set_cons_succ]
      refine wpAnyH_take (i := 18) (v := ?_) rfl (by kernel_rfl) (by kernel_rfl) (by kernel_rfl) (fun _ _ _ h => h) (Or.inl ⟨by kernel_rfl, ?_⟩) (by assumption) ?_
      rotate_left
      · (intro wq hSw; (try dsimp only at hSw); go_simp; (try with_reducible rfl))
      try simp only [Act.put, List.getElem_toArray, List.getElem_cons_zero, List.getElem_cons_succ, List.setIfInBounds_toArray, List.set_cons_zero, List.set_cons_succ]
      refine wpAnyH_take (i := 19) (v := ?_) rfl (by kernel_rfl) (by kernel_rfl) (by kernel_rfl) (fun _ _ _ h => h) (Or.inl ⟨by kernel_rfl, ?_⟩) (by assumption) ?_
      rotate_left
      · (intro wq hSw; (try dsimp only at hSw); go_simp; (try with_reducible rfl))
      try simp only [Act.put, List.getElem_toArray, List.getElem_cons_zero, List.getElem_cons_succ, List.setIfInBounds_toArray, List.set_cons_zero, List.set_cons_succ]
      refine wpAnyH_ready (rs := [20]) (by kernel_rfl) (by simp) ?_
      refine AllReadyH.cons rfl (fun K hK => ?_) AllReadyH.nil
      go_simp
      refine hK.out _ _ (by (try dsimp only); exact HPU.out.2.2.1) (fun hHeld => ?_)
      clear hK K
      try simp only [Act.put, List.getElem_toArray, List.getElem_cons_zero, List.getElem_cons_succ, List.setIfInBounds_toArray, List.set_cons_zero, List.set_cons_succ]
      refine wpAnyH_done (by kernel_rfl) ?_ _
      refine NoPanic.normal ?_
      go_wp2_with fail
      refine HRT.out _ _ rfl rfl ?_
      exact HPU.out.2.2.2
    · (go_simp; go_at_call 30; refine (HCP.out _ HDR.out).mono ?_; clear HCP; rintro e w3 ⟨s', rfl, l3, p3, b3⟩; have HL3 := hid_mk l3; have HP3 := hid_mk p3; have HB3 : Hid (Below w2.heap.size w2 w3) := HDR.out.trans (b3.mono HDR.out.size); obtain ⟨b0, b1, b2⟩ := HPC.out w3 HB3.out; clear l3 p3 b3; go_wp2_with fail)
      refine hK.out _ _ (by (try dsimp only); exact ⟨b0, b1⟩) (fun hHeld => ?_)
      clear hK K
      try simp only [Act.put, List.getElem_toArray, List.getElem_cons_zero, List.getElem_cons_succ, List.setIfInBounds_toArray, List.set_cons_zero, List.set_cons_succ]
      refine wpAnyH_ready (rs := [4, 14]) (by kernel_rfl) (by simp) ?_
      refine AllReadyH.cons rfl (fun K hK => ?_) (AllReadyH.cons rfl (fun K hK => ?_) AllReadyH.nil)
      · go_simp
        refine hK.out _ _ (by (try dsimp only); exact ⟨b0, b1⟩) (fun hHeld => ?_)
        clear hK K
        try simp only [Act.put, List.getElem_toArray, List.getElem_cons_zero, List.getElem_cons_succ, List.setIfInBounds_toArray, List.set_cons_zero, List.set_cons_succ]
        refine wpAnyH_ready (rs := [14]) (by kernel_rfl) (by simp) ?_
        refine AllReadyH.cons rfl (fun K hK => ?_) AllReadyH.nil
        (go_simp; go_at_call 31; refine (HCR.out _ HB3.out).mono ?_; clear HCR; rintro e w4 ⟨r', v', rfl, l4, o4, p4, b4⟩; have HL4 := hid_mk l4; have HO4 := hid_mk o4; have HP4 := hid_mk p4; have HP34 := hid_mk (HP3.out.below b4); have HB4 : Hid (Below w2.heap.size w2 w4) := HB3.out.trans (b4.mono HB3.out.size); obtain ⟨d0, d1, d2⟩ := HPC.out w4 HB4.out; have HAL : Hid (Below w2.heap.size w2 (w4.alloc (.cells #[.pointer (some ⟨s', 0, none⟩), .pointer (some ⟨r', 0, none⟩)] 73))) := HB4.out.alloc HB4.out.size _; obtain ⟨e0, e1, e2⟩ := HPC.out _ HAL.out; clear l4 o4 p4 b4; go_wp2_with fail)
        refine hK.out _ _ (by (try dsimp only); exact ⟨d0, d1⟩) (fun hHeld => ?_)
        clear hK K
        try simp only [Act.put, List.getElem_toArray, List.getElem_cons_zero, List.getElem_cons_succ, List.setIfInBounds_toArray, List.set_cons_zero, List.set_cons_succ]
        refine wpAnyH_take (i := 15) (v := ?_) rfl (by kernel_rfl) (by kernel_rfl) (by kernel_rfl) (fun _ _ _ h => h) (Or.inl ⟨by kernel_rfl, ?_⟩) (by assumption) ?_
        rotate_left
        · (intro wq hSw; (try dsimp only at hSw); go_simp; (try with_reducible rfl))
        try simp only [Act.put, List.getElem_toArray, List.getElem_cons_zero, List.getElem_cons_succ, List.setIfInBounds_toArray, List.set_cons_zero, List.set_cons_succ]
        refine wpAnyH_ready (rs := [16]) (by kernel_rfl) (by simp) ?_
        refine AllReadyH.cons rfl (fun K hK => ?_) AllReadyH.nil
        go_simp
        refine hK.out _ _ (by (try dsimp only); exact ⟨e0, e1⟩) (fun hHeld => ?_)
        clear hK K
        try simp only [Act.put, List.getElem_toArray, List.getElem_cons_zero, List.getElem_cons_succ, List.setIfInBounds_toArray, List.set_cons_zero, List.set_cons_succ]
        refine wpAnyH_ready (rs := [17]) (by kernel_rfl) (by simp) ?_
        refine AllReadyH.cons rfl (fun K hK => ?_) AllReadyH.nil
        (refine step_append_lies (w4.alloc (.cells #[.pointer (some ⟨s', 0, none⟩), .pointer (some ⟨r', 0, none⟩)] 73)) rfl _ _ 33 rfl w0.heap.size 73 i0 (.agg #[.pointer none, .pointer none]) 2 16 Tryd.underlying33 HI0.out HZ0.out HZ1.out HZ2.out rfl (by decide) (.slice ak Kn ck) Kn (kvL ks) rfl (HKO.out _ HAL.out) ⟨w4.heap.size, 0, none⟩ 1 1 [.pointer (some ⟨s', 0, none⟩), .pointer (some ⟨r', 0, none⟩)] rfl rfl (HNW.out _ _ _) (by simp [Value.oneCell']) (by decide) (by unfold maxLen; omega) (by omega) (Nat.le_trans HJ2.out.below.size HAL.out.size) (w4.heap.size + 1) (by simp) ?_; intro g6 c6 w6 hown6 hgr6 hat6 hlt6; have HPU := hid_mk (HPUSH.out s' r' v' w4 g6 c6 w6 HL3.out HL4.out HO4.out HP34.out HP4.out HB3.out HB4.out hown6 hgr6 hat6); obtain ⟨f0, f1, f2⟩ := HPU.out.1; have ff := HPU.out.2.1; clear hown6 hgr6 hat6 hlt6)
        refine hK.out _ _ (by (try dsimp only); exact ⟨f0, f1⟩) (fun hHeld => ?_)
        clear hK K
        try simp only [Act.put, List.getElem_toArray, List.getElem_cons_zero, List.getElem_cons_succ, List.setIfInBounds_toArray, List.set_cons_zero, List.set_cons_succ]
        refine wpAnyH_take (i := 18) (v := ?_) rfl (by kernel_rfl) (by kernel_rfl) (by kernel_rfl) (fun _ _ _ h => h) (Or.inl ⟨by kernel_rfl, ?_⟩) (by assumption) ?_
        rotate_left
        · (intro wq hSw; (try dsimp only at hSw); go_simp; (try with_reducible rfl))
        try simp only [Act.put, List.getElem_toArray, List.getElem_cons_zero, List.getElem_cons_succ, List.setIfInBounds_toArray, List.set_cons_zero, List.set_cons_succ]
        refine wpAnyH_take (i := 19) (v := ?_) rfl (by kernel_rfl) (by kernel_rfl) (by kernel_rfl) (fun _ _ _ h => h) (Or.inl ⟨by kernel_rfl, ?_⟩) (by assumption) ?_
        rotate_left
        · (intro wq hSw; (try dsimp only at hSw); go_simp; (try with_reducible rfl))
        try simp only [Act.put, List.getElem_toArray, List.getElem_cons_zero, List.getElem_cons_succ, List.setIfInBounds_toArray, List.set_cons_zero, List.set_cons_succ]
        refine wpAnyH_ready (rs := [20]) (by kernel_rfl) (by simp) ?_
        refine AllReadyH.cons rfl (fun K hK => ?_) AllReadyH.nil
        go_simp
        refine hK.out _ _ (by (try dsimp only); exact HPU.out.2.2.1) (fun hHeld => ?_)
        clear hK K
        try simp only [Act.put, List.getElem_toArray, List.getElem_cons_zero, List.getElem_cons_succ, List.setIfInBounds_toArray, List.set_cons_zero, List.set_cons_succ]
        refine wpAnyH_done (by kernel_rfl) ?_ _
        refine NoPanic.normal ?_
        go_wp2_with fail
        refine HRT.out _ _ rfl rfl ?_
        exact HPU.out.2.2.2
      · (go_simp; go_at_call 31; refine (HCR.out _ HB3.out).mono ?_; clear HCR; rintro e w4 ⟨r', v', rfl, l4, o4, p4, b4⟩; have HL4 := hid_mk l4; have HO4 := hid_mk o4; have HP4 := hid_mk p4; have HP34 := hid_mk (HP3.out.below b4); have HB4 : Hid (Below w2.heap.size w2 w4) := HB3.out.trans (b4.mono HB3.out.size); obtain ⟨d0, d1, d2⟩ := HPC.out w4 HB4.out; have HAL : Hid (Below w2.heap.size w2 (w4.alloc (.cells #[.pointer (some ⟨s', 0, none⟩), .pointer (some ⟨r', 0, none⟩)] 73))) := HB4.out.alloc HB4.out.size _; obtain ⟨e0, e1, e2⟩ := HPC.out _ HAL.out; clear l4 o4 p4 b4; go_wp2_with fail)
        refine hK.out _ _ (by (try dsimp only); exact ⟨d0, d1⟩) (fun hHeld => ?_)
        clear hK K
        try simp only [Act.put, List.getElem_toArray, List.getElem_cons_zero, List.getElem_cons_succ, List.setIfInBounds_toArray, List.set_cons_zero, List.set_cons_succ]
        refine wpAnyH_take (i := 15) (v := ?_) rfl (by kernel_rfl) (by kernel_rfl) (by kernel_rfl) (fun _ _ _ h => h) (Or.inl ⟨by kernel_rfl, ?_⟩) (by assumption) ?_
        rotate_left
        · (intro wq hSw; (try dsimp only at hSw); go_simp; (try with_reducible rfl))
        try simp only [Act.put, List.getElem_toArray, List.getElem_cons_zero, List.getElem_cons_succ, List.setIfInBounds_toArray, List.set_cons_zero, List.set_cons_succ]
        refine wpAnyH_ready (rs := [4, 16]) (by kernel_rfl) (by simp) ?_
        refine AllReadyH.cons rfl (fun K hK => ?_) (AllReadyH.cons rfl (fun K hK => ?_) AllReadyH.nil)
        · go_simp
          refine hK.out _ _ (by (try dsimp only); exact ⟨d0, d1⟩) (fun hHeld => ?_)
          clear hK K
          try simp only [Act.put, List.getElem_toArray, List.getElem_cons_zero, List.getElem_cons_succ, List.setIfInBounds_toArray, List.set_cons_zero, List.set_cons_succ]
          refine wpAnyH_ready (rs := [16]) (by kernel_rfl) (by simp) ?_
          refine AllReadyH.cons rfl (fun K hK => ?_) AllReadyH.nil
          go_simp
          refine hK.out _ _ (by (try dsimp only); exact ⟨e0, e1⟩) (fun hHeld => ?_)
          clear hK K
          try simp only [Act.put, List.getElem_toArray, List.getElem_cons_zero, List.getElem_cons_succ, List.setIfInBounds_toArray, List.set_cons_zero, List.set_cons_succ]
          refine wpAnyH_ready (rs := [17]) (by kernel_rfl) (by simp) ?_
          refine AllReadyH.cons rfl (fun K hK => ?_) AllReadyH.nil
          (refine step_append_lies (w4.alloc (.cells #[.pointer (some ⟨s', 0, none⟩), .pointer (some ⟨r', 0, none⟩)] 73)) rfl _ _ 33 rfl w0.heap.size 73 i0 (.agg #[.pointer none, .pointer none]) 2 16 Tryd.underlying33 HI0.out HZ0.out HZ1.out HZ2.out rfl (by decide) (.slice ak Kn ck) Kn (kvL ks) rfl (HKO.out _ HAL.out) ⟨w4.heap.size, 0, none⟩ 1 1 [.pointer (some ⟨s', 0, none⟩), .pointer (some ⟨r', 0, none⟩)] rfl rfl (HNW.out _ _ _) (by simp [Value.oneCell']) (by decide) (by unfold maxLen; omega) (by omega) (Nat.le_trans HJ2.out.below.size HAL.out.size) (w4.heap.size + 1) (by simp) ?_; intro g6 c6 w6 hown6 hgr6 hat6 hlt6; have HPU := hid_mk (HPUSH.out s' r' v' w4 g6 c6 w6 HL3.out HL4.out HO4.out HP34.out HP4.out HB3.out HB4.out hown6 hgr6 hat6); obtain ⟨f0, f1, f2⟩ := HPU.out.1; have ff := HPU.out.2.1; clear hown6 hgr6 hat6 hlt6)
          refine hK.out _ _ (by (try dsimp only); exact ⟨f0, f1⟩) (fun hHeld => ?_)
          clear hK K
          try simp only [Act.put, List.getElem_toArray, List.getElem_cons_zero, List.getElem_cons_succ, List.setIfInBounds_toArray, List.set_cons_zero, List.set_cons_succ]
          refine wpAnyH_take (i := 18) (v := ?_) rfl (by kernel_rfl) (by kernel_rfl) (by kernel_rfl) (fun _ _ _ h => h) (Or.inl ⟨by kernel_rfl, ?_⟩) (by assumption) ?_
          rotate_left
          · (intro wq hSw; (try dsimp only at hSw); go_simp; (try with_reducible rfl))
          try simp only [Act.put, List.getElem_toArray, List.getElem_cons_zero, List.getElem_cons_succ, List.setIfInBounds_toArray, List.set_cons_zero, List.set_cons_succ]
          refine wpAnyH_take (i := 19) (v := ?_) rfl (by kernel_rfl) (by kernel_rfl) (by kernel_rfl) (fun _ _ _ h => h) (Or.inl ⟨by kernel_rfl, ?_⟩) (by assumption) ?_
          rotate_left
          · (intro wq hSw; (try dsimp only at hSw); go_simp; (try with_reducible rfl))
          try simp only [Act.put, List.getElem_toArray, List.getElem_cons_zero, List.getElem_cons_succ, List.setIfInBounds_toArray, List.set_cons_zero, List.set_cons_succ]
          refine wpAnyH_ready (rs := [20]) (by kernel_rfl) (by simp) ?_
          refine AllReadyH.cons rfl (fun K hK => ?_) AllReadyH.nil
          go_simp
          refine hK.out _ _ (by (try dsimp only); exact HPU.out.2.2.1) (fun hHeld => ?_)
          clear hK K
          try simp only [Act.put, List.getElem_toArray, List.getElem_cons_zero, List.getElem_cons_succ, List.setIfInBounds_toArray, List.set_cons_zero, List.set_cons_succ]
          refine wpAnyH_done (by kernel_rfl) ?_ _
          refine NoPanic.normal ?_
          go_wp2_with fail
          refine HRT.out _ _ rfl rfl ?_
          exact HPU.out.2.2.2
        · go_simp
          refine hK.out _ _ (by (try dsimp only); exact ⟨e0, e1⟩) (fun hHeld => ?_)
          clear hK K
          try simp only [Act.put, List.getElem_toArray, List.getElem_cons_zero, List.getElem_cons_succ, List.setIfInBounds_toArray, List.set_cons_zero, List.set_cons_succ]
          refine wpAnyH_ready (rs := [4]) (by kernel_rfl) (by simp) ?_
          refine AllReadyH.cons rfl (fun K hK => ?_) AllReadyH.nil
          go_simp
          refine hK.out _ _ (by (try dsimp only); exact ⟨e0, e1⟩) (fun hHeld => ?_)
          clear hK K
          try simp only [Act.put, List.getElem_toArray, List.getElem_cons_zero, List.getElem_cons_succ, List.setIfInBounds_toArray, List.set_cons_zero, List.set_cons_succ]
          refine wpAnyH_ready (rs := [17]) (by kernel_rfl) (by simp) ?_
          refine AllReadyH.cons rfl (fun K hK => ?_) AllReadyH.nil
          (refine step_append_lies (w4.alloc (.cells #[.pointer (some ⟨s', 0, none⟩), .pointer (some ⟨r', 0, none⟩)] 73)) rfl _ _ 33 rfl w0.heap.size 73 i0 (.agg #[.pointer none, .pointer none]) 2 16 Tryd.underlying33 HI0.out HZ0.out HZ1.out HZ2.out rfl (by decide) (.slice ak Kn ck) Kn (kvL ks) rfl (HKO.out _ HAL.out) ⟨w4.heap.size, 0, none⟩ 1 1 [.pointer (some ⟨s', 0, none⟩), .pointer (some ⟨r', 0, none⟩)] rfl rfl (HNW.out _ _ _) (by simp [Value.oneCell']) (by decide) (by unfold maxLen; omega) (by omega) (Nat.le_trans HJ2.out.below.size HAL.out.size) (w4.heap.size + 1) (by simp) ?_; intro g6 c6 w6 hown6 hgr6 hat6 hlt6; have HPU := hid_mk (HPUSH.out s' r' v' w4 g6 c6 w6 HL3.out HL4.out HO4.out HP34.out HP4.out HB3.out HB4.out hown6 hgr6 hat6); obtain ⟨f0, f1, f2⟩ := HPU.out.1; have ff := HPU.out.2.1; clear hown6 hgr6 hat6 hlt6)
          refine hK.out _ _ (by (try dsimp only); exact ⟨f0, f1⟩) (fun hHeld => ?_)
          clear hK K
          try simp only [Act.put, List.getElem_toArray, List.getElem_cons_zero, List.getElem_cons_succ, List.setIfInBounds_toArray, List.set_cons_zero, List.set_cons_succ]
          refine wpAnyH_take (i := 18) (v := ?_) rfl (by kernel_rfl) (by kernel_rfl) (by kernel_rfl) (fun _ _ _ h => h) (Or.inl ⟨by kernel_rfl, ?_⟩) (by assumption) ?_
          rotate_left
          · (intro wq hSw; (try dsimp only at hSw); go_simp; (try with_reducible rfl))
          try simp only [Act.put, List.getElem_toArray, List.getElem_cons_zero, List.getElem_cons_succ, List.setIfInBounds_toArray, List.set_cons_zero, List.set_cons_succ]
          refine wpAnyH_take (i := 19) (v := ?_) rfl (by kernel_rfl) (by kernel_rfl) (by kernel_rfl) (fun _ _ _ h => h) (Or.inl ⟨by kernel_rfl, ?_⟩) (by assumption) ?_
          rotate_left
          · (intro wq hSw; (try dsimp only at hSw); go_simp; (try with_reducible rfl))
          try simp only [Act.put, List.getElem_toArray, List.getElem_cons_zero, List.getElem_cons_succ, List.setIfInBounds_toArray, List.set_cons_zero, List.set_cons_succ]
          refine wpAnyH_ready (rs := [20]) (by kernel_rfl) (by simp) ?_
          refine AllReadyH.cons rfl (fun K hK => ?_) AllReadyH.nil
          go_simp
          refine hK.out _ _ (by (try dsimp only); exact HPU.out.2.2.1) (fun hHeld => ?_)
          clear hK K
          try simp only [Act.put, List.getElem_toArray, List.getElem_cons_zero, List.getElem_cons_succ, List.setIfInBounds_toArray, List.set_cons_zero, List.set_cons_succ]
          refine wpAnyH_done (by kernel_rfl) ?_ _
          refine NoPanic.normal ?_
          go_wp2_with fail
          refine HRT.out _ _ rfl rfl ?_
          exact HPU.out.2.2.2
  · have hzi : ¬ (Kn : Int) < 4 := by omega
    clear hz
    go_wp2_with fail
    refine HRT.out _ _ rfl rfl ?_
    exact ⟨c, ks, kv, HJ2.out, HOK.out, HKS.out⟩
end Go.Proofs.YtcpdnalmoaojlaaDoor
