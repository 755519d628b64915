/-
  code.firstPart: the walk.
-/
import Derived.Test.YtppmjdmdflcoiaaDoorRd
import Derived.Handy
namespace Go.Proofs.YtppmjdmdflcoiaaDoor
open Go.ChangeShapes Go.WideShapes Go.ChangeAt Go.RowKit
set_option linter.unusedVariables false

/-- What firstPart leaves. -/
def FirstPost (b : List UInt8) (w : World) (e : Ending) (w' : World) : Prop :=
  ∃ (p : PartD) (s : Nat), e = .returned (.tuple #[.agg #[.int .i64 p.kind, .int .u64 (p.num : Int), .string (str p.text)], .int .i64 s]) ∧ Below w.heap.size w w' ∧ ((dec1 b = none ∧ s = 0) ∨ dec1 b = some (p, s))
theorem firstPost_mk {b : List UInt8} {w w' : World} (k : Int) (n : Nat) (t : List UInt8) (s : Nat) (hb : Below w.heap.size w w') (h : (dec1 b = none ∧ s = 0) ∨ dec1 b = some (⟨k, n, t⟩, s)) :
    FirstPost b w (.returned (.tuple #[.agg #[.int .i64 k, .int .u64 (n : Int), .string (str t)], .int .i64 s])) w' := ⟨⟨k, n, t⟩, s, rfl, hb, h⟩

theorem firstNumber_v (m : UInt8) (r : List UInt8) (hm : m.toNat ≤ 8) : ∃ NV NS : Nat, ((dec1 (m :: r) = none ∧ NS = 0) ∨ dec1 (m :: r) = some (⟨1, NV, []⟩, NS)) ∧
    ∀ (b off cap : Nat) (w : World), (m :: r).length ≤ 140737488355328 → (m :: r).length ≤ cap → BytesAt w b off (m :: r) →
      Calls Tryd.prog 34 #[.slice (some ⟨b, off, none⟩) (r.length + 1) cap] w fun e w' => e = .returned (.tuple #[.int .u64 (NV : Int), .int .i64 (NS : Int)]) ∧ w' = w := by
  refine ⟨_, _, ?_, fun b off cap w hl hcap hc => firstNumber_any m r b off cap w hm hl hcap hc⟩
  have h8 : m ≤ 8 := by rw [UInt8.le_iff_toNat_le]; exact hm
  by_cases hc : (m :: r).length < 1 + m.toNat ∨ (0 < m.toNat ∧ r.head? = some 0)
  · left
    rw [if_pos hc]
    refine ⟨?_, rfl⟩
    rw [dec1, if_pos h8, if_pos hc]
  · right
    rw [if_neg hc, if_neg hc, dec1, if_pos h8, if_neg hc]
theorem firstText_v (r : List UInt8) : ∃ (TV : List UInt8) (TS : Nat), ((dec1 (9 :: r) = none ∧ TS = 0) ∨ dec1 (9 :: r) = some (⟨2, 0, TV⟩, TS)) ∧
    ∀ (b off cap : Nat) (w : World), (9 :: r : List UInt8).length ≤ 140737488355328 → b < w.heap.size → BytesAt w b off (9 :: r) →
      Calls Tryd.prog 35 #[.slice (some ⟨b, off, none⟩) (r.length + 1) cap] w fun e w' => e = .returned (.tuple #[.string (str TV), .int .i64 (TS : Int)]) ∧ Below w.heap.size w w' := by
  refine ⟨_, _, ?_, fun b off cap w hl hb hc => firstText_any 9 r b off cap w hl hb hc⟩
  have e : dec1 (9 :: r) = (decT r [] 1).map fun x => (⟨2, 0, x.1⟩, x.2) := by rw [dec1, if_neg (by decide), if_pos rfl]
  cases hd : decT r [] 1 with
  | none => left; rw [e, hd]; exact ⟨rfl, rfl⟩
  | some x => right; rw [e, hd]; rfl

set_option maxRecDepth 1000000 in
set_option maxHeartbeats 1600000 in
theorem firstPart_any (m : UInt8) (r : List UInt8) (b off cap : Nat) (w : World) (hl : (m :: r).length ≤ 140737488355328) (hcap : (m :: r).length ≤ cap) (hb : b < w.heap.size) (hc : BytesAt w b off (m :: r)) :
    Calls Tryd.prog 30 #[.slice (some ⟨b, off, none⟩) (r.length + 1) cap] w (FirstPost (m :: r) w) := by
  have HC : Hid (BytesAt w b off (m :: r)) := hc
  have HLC : Hid ((m :: r).length ≤ 140737488355328 ∧ (m :: r).length ≤ cap) := ⟨hl, hcap⟩
  obtain ⟨M, hM⟩ : ∃ M : Nat, M = m.toNat := ⟨_, rfl⟩
  have c0 : w.cell? ⟨b, off, none⟩ = some (.int .u8 (M : Int)) := by
    have h := hc 0 (by simp); simpa [hM] using h
  have hM8 : M < 256 := by rw [hM]; exact m.toNat_lt
  have HM : Hid (M = m.toNat) := hM
  clear hc hl hcap hM
  have b2 : ∀ o1 o2, Below w.heap.size w ((w.alloc o1).alloc o2) := fun o1 o2 => ((Below.refl _ _).alloc (Nat.le_refl _) _).alloc (by simp) _
  have HB2 : Hid (∀ o1 o2, Below w.heap.size w ((w.alloc o1).alloc o2)) := b2
  clear b2
  by_cases h8 : M ≤ 8
  · have ek : kindN M = 1 := if_pos h8
    obtain ⟨NV, NS, hd, hfn⟩ := firstNumber_v m r (by rw [← HM.out]; exact h8)
    have HDD : Hid ((dec1 (m :: r) = none ∧ NS = 0) ∨ dec1 (m :: r) = some (⟨1, NV, []⟩, NS)) := hd
    have HFN := hfn b off cap ((w.alloc (.cells #[.int .i64 0, .int .u64 0, .string (ByteArray.mk #[])] 54)).alloc (.cells #[.int .i64 1, .int .u64 0, .string (ByteArray.mk #[])] 54)) HLC.out.1 HLC.out.2 (HC.out.below (HB2.out _ _) hb)
    clear hd hfn
    go_enter Tryd.func30, Tryd.ntmps30
    go_wp2_with (first | (go_at_call 33; refine (kindOf_any M hM8 _).mono ?_; rw [ek]; rintro e w' ⟨rfl, rfl⟩) | (go_at_call 34; refine HFN.mono ?_; rintro e w' ⟨rfl, rfl⟩; clear HFN))
    refine bodyPost_ret (v := .tuple #[.agg #[.int .i64 1, .int .u64 NV, .string (str [])], .int .i64 NS]) (by simp [results, Tryd.results30, go_sem, str]) rfl ?_
    refine firstPost_mk 1 NV [] NS ?_ HDD.out
    go_grown
  · by_cases h9 : M = 9
    · have ek : kindN M = 2 := by rw [kindN, if_neg h8, if_pos h9]
      have hm9 : m = 9 := UInt8.toNat_inj.1 (show m.toNat = (9 : UInt8).toNat by rw [← HM.out, h9]; rfl)
      subst hm9
      obtain ⟨TV, TS, hd, hft⟩ := firstText_v r
      have HDD : Hid ((dec1 (9 :: r) = none ∧ TS = 0) ∨ dec1 (9 :: r) = some (⟨2, 0, TV⟩, TS)) := hd
      have HFT := hft b off cap ((w.alloc (.cells #[.int .i64 0, .int .u64 0, .string (ByteArray.mk #[])] 54)).alloc (.cells #[.int .i64 2, .int .u64 0, .string (ByteArray.mk #[])] 54)) HLC.out.1 (by simp; omega) (HC.out.below (HB2.out _ _) hb)
      clear hd hft h9
      go_enter Tryd.func30, Tryd.ntmps30
      go_wp2_with (first | (go_at_call 33; refine (kindOf_any M hM8 _).mono ?_; rw [ek]; rintro e w' ⟨rfl, rfl⟩) | fail)
      refine HFT.mono ?_
      rintro e w1 ⟨rfl, hb1⟩
      have d0 : w1.cell? ⟨w.heap.size + 1, 0, none⟩ = some (.int .i64 2) := by rw [hb1.cell (p := ⟨w.heap.size + 1, 0, none⟩) (by simp)]; simp
      have d1 : w1.cell? ⟨w.heap.size + 1, 1, none⟩ = some (.int .u64 0) := by rw [hb1.cell (p := ⟨w.heap.size + 1, 1, none⟩) (by simp)]; simp
      have d2 : w1.cell? ⟨w.heap.size + 1, 2, none⟩ = some (.string (ByteArray.mk #[])) := by rw [hb1.cell (p := ⟨w.heap.size + 1, 2, none⟩) (by simp)]; simp
      have f0 : ∀ j, w1.frozen? ⟨w.heap.size + 1, j, none⟩ = false := fun j => by rw [hb1.frozen (p := ⟨w.heap.size + 1, j, none⟩) (by simp)]; simp
      have f1 : ∀ j, w1.frozen? ⟨w.heap.size, j, none⟩ = false := fun j => by rw [hb1.frozen (p := ⟨w.heap.size, j, none⟩) (by simp; omega)]; simp
      have e0 : w1.cell? ⟨w.heap.size, 0, none⟩ = some (.int .i64 0) := by rw [hb1.cell (p := ⟨w.heap.size, 0, none⟩) (by simp; omega)]; simp
      have e1 : w1.cell? ⟨w.heap.size, 1, none⟩ = some (.int .u64 0) := by rw [hb1.cell (p := ⟨w.heap.size, 1, none⟩) (by simp; omega)]; simp
      have e2 : w1.cell? ⟨w.heap.size, 2, none⟩ = some (.string (ByteArray.mk #[])) := by rw [hb1.cell (p := ⟨w.heap.size, 2, none⟩) (by simp; omega)]; simp
      have HB1 : Hid (Below w.heap.size w w1) := (HB2.out _ _).trans (hb1.mono (by simp; omega))
      clear hb1 HFT
      go_wp2
      refine bodyPost_ret (v := .tuple #[.agg #[.int .i64 2, .int .u64 ((0 : Nat) : Int), .string (str TV)], .int .i64 TS]) (by simp [results, Tryd.results30, go_sem, e0, e1, e2]) rfl ?_
      refine firstPost_mk 2 0 TV TS ?_ HDD.out
      have hb := HB1.out
      go_grown
    · have ek : kindN M = 0 := by rw [kindN, if_neg h8, if_neg h9]
      have HDN : Hid (dec1 (m :: r) = none) := by
        show dec1 (m :: r) = none
        rw [dec1, if_neg (by rw [UInt8.le_iff_toNat_le, ← HM.out]; exact h8), if_neg (fun e => h9 (by rw [HM.out, e]; rfl))]
      clear h9
      go_enter Tryd.func30, Tryd.ntmps30
      go_wp2_with (first | (go_at_call 33; refine (kindOf_any M hM8 _).mono ?_; rw [ek]; rintro e w' ⟨rfl, rfl⟩) | fail)
      refine bodyPost_ret (v := .tuple #[.agg #[.int .i64 0, .int .u64 ((0 : Nat) : Int), .string (str [])], .int .i64 ((0 : Nat) : Int)]) (by simp [results, Tryd.results30, go_sem, str]) rfl ?_
      refine firstPost_mk 0 0 [] 0 ?_ (.inl ⟨HDN.out, rfl⟩)
      go_grown
end Go.Proofs.YtppmjdmdflcoiaaDoor
