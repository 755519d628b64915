import Derived.Test.YtcpdnalmoaojlaaDoorGRg
import Derived.Test.YtcpdnalmoaojlaaDoorGSp8

/-
  append: which block the slice lies in then.
-/
namespace Go.Proofs.YtcpdnalmoaojlaaDoor
open Go.ChangeShapes Go.WideShapes Go.ChangeAt Go.RowKit
set_option linter.unusedVariables false

/-- The block of a slice. -/
def own (v : Value) (k : Nat) : Prop := v.ownBlock = some k
theorem append_where {P : Program} (w : World) (base : Nat) (t ty e : TypeId) (i : TypeInfo) (z : Value) (size bytes : Nat) (ht : P.underlying t = some (.slice e)) (hi : P.info? e = some i) (hz : i.zero = some z)
    (hsize : i.size = size) (hby : i.bytes = bytes) (v : Value) (n : Nat) (xs : List Value) (hown : w.ownsRow base e size v n xs) (a : Addr) (m c : Nat) (news : List Value) (hl : news.length = m * size)
    (hnews : ∀ j u, news[j]? = some u → w.cell? (a.add j) = some u) (h1 : ∀ u ∈ news, u.oneCell' = true) (hm0 : 0 < m) (h63 : n + m ≤ maxLen) (hbytes : (n + m) * bytes ≤ 140737488355328) (v' : Value) (w' : World)
    (hr : (Builtin.append_ #[t, t] ty #[v, .slice (some a) m c]).run P w = .ok v' w') : ∀ k, own v' k → own v k ∨ w.heap.size ≤ k := by
  subst hsize hby
  unfold maxLen at h63
  rcases hown.2 with ⟨rfl, rfl⟩ | ⟨g, cap, cur, rfl, hbg, hg, hnc, hcm, hcs, htake⟩
  · rw [run_append_nil (P := P) w t ty e i z ht hi hz a m c news hl hnews hm0 (by omega) (by rw [Nat.zero_add] at hbytes; omega)] at hr
    injection hr with e1 e2
    intro k hk
    rw [← e1] at hk
    simp [own, Value.ownBlock] at hk
    exact .inr (by omega)
  · by_cases hroom : n + m ≤ cap
    · have hfit : n * i.size + news.length ≤ cur.size := by rw [hl, hcs, ← Nat.add_mul]; exact Nat.mul_le_mul_right _ hroom
      rw [run_append_room (P := P) w t ty e i ht hi g n cap cur hg a m c news hl hnews h1 hroom hfit] at hr
      injection hr with e1 e2
      intro k hk
      rw [← e1] at hk
      exact .inl hk
    · rw [run_append_grow (P := P) w t ty e i z ht hi hz ⟨g, 0, none⟩ n cap xs hown.1 (hown.cells (g := g) rfl) a m c news hl hnews (by omega) (by omega) (growslice_fits (by omega) hbytes)] at hr
      injection hr with e1 e2
      intro k hk
      rw [← e1] at hk
      simp [own, Value.ownBlock] at hk
      exact .inr (by omega)
theorem owns_lt {w : World} {base : Nat} {e : TypeId} {size : Nat} {v : Value} {n : Nat} {xs : List Value} (h : w.ownsRow base e size v n xs) : ∀ k, own v k → k < w.heap.size := fun k hk => (h.lt k hk).2
theorem grow_own {w w' : World} {base : Nat} {e : TypeId} {size : Nat} {v v' : Value} {n : Nat} {xs : List Value} (hg : w.grownBy w' v.ownBlock) (h1 : ∀ k, own v' k → own v k ∨ w.heap.size ≤ k) (h2 : w'.ownsRow base e size v' n xs) : Grow (own v) w (own v') w' :=
  ⟨⟨hg.os, hg.tape, hg.output, hg.size, fun k hk hu => hg.block k hk (fun e => hu e.symm)⟩, fun k hk => ⟨h1 k hk, owns_lt h2 k hk⟩⟩
/-- append to a slice that a function has made itself. -/
theorem wpList_app {P : Program} {w : World} {ops : Array Oper} {rest : List Oper} {o : Oper} {a : Act} {Q : Exit → Act → World → Prop} (hgd : o.guard = none) (s x : Operand) (t : TypeId)
    (ho : o.op = .call { callee := .builtin .append, args := #[s, x], argTypes := #[t, t] }) (base : Nat) (e : TypeId) (i : TypeInfo) (z : Value) (size bytes : Nat) (ht : P.underlying t = some (.slice e)) (hi : P.info? e = some i) (hz : i.zero = some z)
    (hsize : i.size = size) (hby : i.bytes = bytes) (hzs : z.cells.size = size) (hsz : 0 < size) (v : Value) (n : Nat) (xs : List Value) (hs : a.eval s = v) (hown : w.ownsRow base e size v n xs)
    (ad : Addr) (m c : Nat) (news : List Value) (hx : a.eval x = .slice (some ad) m c) (hl : news.length = m * size) (hnews : ∀ j u, news[j]? = some u → w.cell? (ad.add j) = some u) (h1 : ∀ u ∈ news, u.oneCell' = true) (hm0 : 0 < m)
    (h63 : n + m ≤ maxLen) (hbytes : (n + m) * bytes ≤ 140737488355328) (hbase : base ≤ w.heap.size)
    (h : ∀ v' w', w'.ownsRow base e size v' (n + m) (xs ++ news) → Grow (own v) w (own v') w' → wpList P ops Q rest (a.put o.dst v') w') : wpList P ops Q (o :: rest) a w := by
  refine wpList_plain hgd fun _ hK => ?_
  obtain ⟨v', w', hr, h2, h3, h4⟩ := run_append_own (P := P) w base t o.type e i z size bytes ht hi hz hsize hby hzs hsz v n xs hown ad m c news hl hnews h1 h63 hbytes hbase
  have h5 := append_where w base t o.type e i z size bytes ht hi hz hsize hby v n xs hown ad m c news hl hnews h1 hm0 h63 hbytes v' w' hr
  unfold Oper.wp execOp
  simp only [ho, resolve, invoke, builtin, Sem.run_bind, Sem.run_pure, Result.andThen_ok, List.map_toArray, List.map_cons, List.map_nil, hs, hx, hr]
  exact hK _ _ (h v' w' h2 (grow_own h3 h5 h2))
theorem wpListIn_app {F : Fence} {n' : Nat} {P : Program} {w : World} {ops : Array Oper} {rest : List Oper} {o : Oper} {a : Act} {Q : Exit → Act → World → Prop} (hgd : o.guard = none) (s x : Operand) (t : TypeId)
    (ho : o.op = .call { callee := .builtin .append, args := #[s, x], argTypes := #[t, t] }) (base : Nat) (e : TypeId) (i : TypeInfo) (z : Value) (size bytes : Nat) (ht : P.underlying t = some (.slice e)) (hi : P.info? e = some i) (hz : i.zero = some z)
    (hsize : i.size = size) (hby : i.bytes = bytes) (hzs : z.cells.size = size) (hsz : 0 < size) (v : Value) (n : Nat) (xs : List Value) (hs : a.eval s = v) (hown : w.ownsRow base e size v n xs)
    (ad : Addr) (m c : Nat) (news : List Value) (hx : a.eval x = .slice (some ad) m c) (hl : news.length = m * size) (hnews : ∀ j u, news[j]? = some u → w.cell? (ad.add j) = some u) (h1 : ∀ u ∈ news, u.oneCell' = true) (hm0 : 0 < m)
    (h63 : n + m ≤ maxLen) (hbytes : (n + m) * bytes ≤ 140737488355328) (hbase : base ≤ w.heap.size)
    (h : ∀ v' w', w'.ownsRow base e size v' (n + m) (xs ++ news) → Grow (own v) w (own v') w' → wpListIn F n' P ops Q rest (a.put o.dst v') w') : wpListIn F n' P ops Q (o :: rest) a w := by
  refine wpListIn_plain hgd fun K hK => ?_
  obtain ⟨v', w', hr, h2, h3, h4⟩ := run_append_own (P := P) w base t o.type e i z size bytes ht hi hz hsize hby hzs hsz v n xs hown ad m c news hl hnews h1 h63 hbytes hbase
  have h5 := append_where w base t o.type e i z size bytes ht hi hz hsize hby v n xs hown ad m c news hl hnews h1 hm0 h63 hbytes v' w' hr
  unfold Oper.wpIn
  refine ⟨?_, ?_⟩
  · simp [Oper.about, ho, resolve, Target.leads, Sem.run_pure]
  · rw [Oper.semAt_plain F _ _ (by rw [ho]; intro c hc'; cases hc')]
    simp [execOp, ho, resolve, invoke, builtin, hs, hx, hr, Result.andThen]
    exact hK _ _ (h v' w' h2 (grow_own h3 h5 h2))
set_option maxRecDepth 100000 in
theorem append_any (l : List UInt8) (base N size : Nat) (v : Value) (w : World) (hN : N < 18446744073709551616) (hs : size ≤ 8) (hl : l.length ≤ 70368744177664) (hb : base ≤ w.heap.size) (ho : Owns w base v l) :
    Calls Tryd.prog 65 #[v, .int .u64 (N : Int), .int .i64 (size : Int)] w fun e w' => ∃ v', e = .returned v' ∧ Owns w' base v' (l ++ toLe N size) ∧ Grow (own v) w (own v') w' := by
  have HO := hid_mk ho
  obtain ⟨ao, cp, rfl⟩ := ho.shape
  have HLT := hid_mk (owns_lt ho)
  clear ho
  obtain ⟨i0, hi, hz0, hz1, hz2⟩ := info_parts Tryd.info5
  have HI0 := hid_mk hi
  have HZ0 := hid_mk hz0
  have HZ1 := hid_mk hz1
  have HZ2 := hid_mk hz2
  clear hi hz0 hz1 hz2
  go_enter Tryd.func65, Tryd.ntmps65
  go_wp2
  go_loopw [0, 9] (fun x i wr => ∃ k : Nat, i = .int .i64 (k : Int) ∧ k ≤ size ∧ Owns wr base x (l ++ toLe N k) ∧ Grow (own (.slice ao l.length cp)) w (own x) wr) (fun _ i _ => size - (intOf i).toNat)
  case atStart => exact ⟨0, rfl, by omega, by simpa [toLe] using HO.out, Grow.refl HLT.out⟩
  case round =>
    rename_i x
    obtain ⟨k, rfl, hk, hx, hbe⟩ := hrel
    obtain ⟨xo, xc, rfl⟩ := hx.shape
    have HX := hid_mk hx
    have HB := hid_mk hbe
    obtain ⟨m, hm⟩ : ∃ m, m = (l ++ toLe N k).length := ⟨_, rfl⟩
    have hm2 : m = l.length + k := by rw [hm, List.length_append, toLe_length]
    rw [← hm] at HX HB ⊢
    have HM := hid_mk hm
    have hm47 : m ≤ 70368744177680 := by omega
    clear hx hbe hm hm2
    by_cases hlt : k < size
    · have HBY := hid_mk (byte_at N k)
      have HTL : Hid (l ++ toLe N (k + 1) = (l ++ toLe N k) ++ [UInt8.ofNat (N / 256 ^ k)]) := by show _ = _; rw [List.append_assoc]; rfl
      have HBS : Hid (base ≤ wr.heap.size) := Nat.le_trans hb HB.out.kept.size
      have HA : Hid (∀ u, Owns (wr.alloc (.cells #[u] 5)) base (.slice xo m xc) (l ++ toLe N k)) := fun u => HX.out.below (Below.alloc (Below.refl _ _) (Nat.le_refl _) _)
      have HGA : Hid (∀ u, Grow (own (.slice ao l.length cp)) w (own (.slice xo m xc)) (wr.alloc (.cells #[u] 5))) := fun u =>
        HB.out.trans ⟨Kept.of_below (Below.alloc (Below.refl _ _) (Nat.le_refl _) _), fun k hk => ⟨.inl hk, by have := (HB.out.sub k hk).2; simp; omega⟩⟩
      go_wp2_with (at_builtin; refine wpList_app rfl _ _ 53 rfl base 5 i0 (.int .u8 0) 1 1 Tryd.underlying53 HI0.out HZ0.out HZ1.out HZ2.out rfl (by decide) _ (l ++ toLe N k).length ((l ++ toLe N k).map by8) rfl (HA.out _) ⟨wr.heap.size, 0, none⟩ 1 1 ([UInt8.ofNat (N / 256 ^ k)].map by8) rfl rfl (add_bytes (one_bytes wr _ _ (by rw [HBY.out]) _ rfl)) (by8_one _) (by decide) (by rw [← HM.out]; unfold maxLen; omega) (by rw [← HM.out]; omega) (Nat.le_trans HBS.out (by simp)) ?_; intro v' w2 h1 h2; have H1 := hid_mk h1; have H2 : Hid (Grow (own (.slice ao l.length cp)) w (own v') w2) := (HGA.out _).trans h2; clear h1 h2)
      go_roundw
      case rel =>
        refine ⟨k + 1, by go_num, by omega, ?_, H2.out⟩
        rw [HTL.out]
        have h := H1.out
        unfold Owns
        rw [List.length_append, List.map_append]
        exact h
      case measure => simp [intOf]; omega
    · obtain rfl : k = size := by omega
      go_wp2
      go_ret
      exact ⟨_, rfl, HX.out, HB.out⟩
end Go.Proofs.YtcpdnalmoaojlaaDoor
