/-
  SumBursts: the walk.
-/
import Derived.Test.YtppmjdmdflcoiafDoorSum9
import Derived.Test.YtppmjdmdflcoiafDoorBurst
import Derived.RegionTactic
import Derived.ChangeAlike
namespace Go.Proofs.YtppmjdmdflcoiafDoor
open Go.ChangeShapes Go.WideShapes Go.ChangeAt Go.RowKit
set_option linter.unusedVariables false

theorem tmod_facts (n : Int) (k : Nat) (hk : 0 < k) : (0 ≤ n.tmod k → n.tmod k = n % (k : Int)) ∧ (n.tmod k < 0 → n.tmod k + k = n % (k : Int)) ∧ -(k : Int) < n.tmod k ∧ n.tmod k < k := by
  have h1 := Int.tmod_eq_emod (a := n) (b := k)
  have h2 := Int.emod_nonneg n (b := (k : Int)) (by omega)
  have h3 := Int.emod_lt_of_pos n (b := (k : Int)) (by omega)
  have h4 : ((k : Int).natAbs : Int) = k := by omega
  split at h1 <;> omega

theorem pick_any (n : Int) (k : Nat) (hk : 0 < k) (hk2 : k ≤ 4611686018427387904) (h1 : -9223372036854775808 ≤ n) (h2 : n ≤ 9223372036854775807) (w : World) :
    Calls Tryd.prog 4 #[.int .i64 n, .int .i64 k] w fun e w' => e = .returned (.int .i64 (n % (k : Int))) ∧ w' = w := by
  obtain ⟨f1, f2, f3, f4⟩ := tmod_facts n k hk
  have hne : ((k : Int) == 0) = false := by simp; omega
  have hk0 : ¬ ((k : Int) = 0) := by omega
  by_cases hlt : n.tmod k < 0
  · have HE : Hid (n.tmod k + k = n % (k : Int)) := f2 hlt
    clear f1 f2
    go_enter Tryd.func4, Tryd.ntmps4
    go_wp2
    go_ret
    exact ⟨ret_int HE.out, rfl⟩
  · have HE : Hid (n.tmod k = n % (k : Int)) := f1 (by omega)
    clear f1 f2
    go_enter Tryd.func4, Tryd.ntmps4
    go_wp2
    go_ret
    exact ⟨ret_int HE.out, rfl⟩

theorem flip_bits (x : UInt8) (k : Nat) (hk : k < 8) : bits .xor .u8 ((x.toNat : Nat) : Int) (2 ^ k % 256) = ((Crc.flip8 x k).toNat : Int) := by
  have h1 : x.toNat < 256 := x.toNat_lt
  have h2 : (2 : Nat) ^ k < 256 := by have := Nat.pow_lt_pow_right (a := 2) (by omega) hk; omega
  have e : ((2 : Int) ^ k % 256) = ((2 ^ k : Nat) : Int) := by
    rw [show ((2 : Int) ^ k) = ((2 ^ k : Nat) : Int) by simp]
    exact Int.emod_eq_of_lt (Int.natCast_nonneg _) (Int.ofNat_lt.mpr h2)
  rw [e, u8_xor_nat _ _ h1 h2, Crc.flip8_nat x k hk]
theorem fin_bits (l l0 : List UInt8) (m t : Nat) (ht : t < 4294967296) (h : Crc.crc l = Crc.crc l0 ^^^ Crc.txn m t) : (((Crc.crc l : Nat) : Int) != ((Crc.crc l0 : Nat) : Int)) = !decide (t = 0) := by
  have e := Crc.burst_end l0 l m t ht h
  by_cases h0 : t = 0
  · have : Crc.crc l = Crc.crc l0 := Classical.byContradiction fun hn => (e.1 hn) h0
    simp [h0, this]
  · have : ((Crc.crc l : Nat) : Int) ≠ ((Crc.crc l0 : Nat) : Int) := fun hn => (e.2 h0) (Int.ofNat_inj.mp hn)
    simp [h0, this]

theorem sum_n (l : List UInt8) (n b off cap : Nat) (w : World) (hn : n = l.length) (hl : l.length ≤ 4611686018427387904) (hc : BytesAt w b off l) (ht : Tabs w) :
    Calls Tryd.prog 5 #[.slice (some ⟨b, off, none⟩) n cap] w fun e w' => e = .returned (.int .u32 (Crc.crc l : Nat)) ∧ ∃ n, w' = w.drewN n := by
  subst hn; exact sum_any l b off cap w hl hc ht
theorem Tabs.below {w w' : World} {B : Nat} (h : Tabs w) (hb : Below B w w') (h2 : 2 ≤ B) : Tabs w' :=
  ⟨fun j hj => (hb.cell (p := ⟨0, j, none⟩) (by show 0 < B; omega)).trans (h.1 j hj), fun j hj => (hb.cell (p := ⟨1, j, none⟩) (by show 1 < B; omega)).trans (h.2 j hj)⟩

set_option maxRecDepth 1000000 in
set_option maxHeartbeats 1600000 in
theorem sumBursts_walk (a : ByteArray) (n : Int) (turn : Nat) (ha : a.size ≤ 140737488355328) (h1 : -9223372036854775808 ≤ n) (h2 : n ≤ 9223372036854775807) (ht : turn < 4294967296) (w : World) (hw2 : 2 ≤ w.heap.size) (hT : Tabs w) :
    Calls Tryd.prog 3 #[.string a, .int .i64 n, .int .u32 turn] w fun e w' => e = .returned (.bool true) ∧ Below w.heap.size w w' := by
  have kc := run_bw
  have ks := bw_size
  have HT : Hid (Tabs w) := hT
  have HL : Hid ((bl a).length = a.size) := bl_length a
  clear hT
  have b1 : Below w.heap.size w (bw w a) := below_bw (Below.refl _ _) (Nat.le_refl _) a
  have HB1 : Hid (Below w.heap.size w (bw w a)) := b1
  clear b1
  by_cases h0 : a.size = 0
  · have h0' : ((a.size : Int) == 0) = true := by rw [h0]; rfl
    clear h0
    go_enter Tryd.func3, Tryd.ntmps3
    go_wp2
    go_ret
    exact ⟨rfl, HB1.out⟩
  · have h0' : ((a.size : Int) == 0) = false := by rw [beq_eq_false_iff_ne]; omega
    have hpk := pick_any n (8 * a.size) (by omega) (by omega) h1 h2 (bw w a)
    rw [show ((8 * a.size : Nat) : Int) = 8 * (a.size : Int) by omega] at hpk
    obtain ⟨p, hp⟩ : ∃ p : Nat, n % (8 * (a.size : Int)) = p := Int.eq_ofNat_of_zero_le (Int.emod_nonneg _ (by omega))
    have hp8 : p < 8 * a.size := by have := Int.emod_lt_of_pos n (b := 8 * (a.size : Int)) (by omega); omega
    rw [hp] at hpk
    have HO : Hid (Open (bw w a) w.heap.size (bl a)) := bw_open w a
    clear hp h0
    go_enter Tryd.func3, Tryd.ntmps3
    go_wp2_with (go_at_call 4; refine hpk.mono ?_; rintro e w' ⟨rfl, rfl⟩; clear hpk)
    go_loopw [8, 9] (fun o i wr => ∃ (j : Nat) (l : List UInt8), i = .int .i64 j ∧ o = .bool (!decide (turn % 2 ^ j = 0)) ∧ j ≤ 32 ∧ p + j ≤ 8 * a.size ∧ l.length = a.size ∧ Crc.crc l = Crc.crc (bl a) ^^^ Crc.txn (8 * a.size - p) (turn % 2 ^ j) ∧ Open wr w.heap.size l ∧ Below w.heap.size w wr) (fun _ i _ => 32 - (intOf i).toNat)
    case atStart => exact ⟨0, bl a, rfl, by simp [Nat.mod_one], by omega, by omega, HL.out, by simp [Nat.mod_one, Crc.txn_zero], HO.out, HB1.out⟩
    case round =>
      obtain ⟨j, l, rfl, rfl, hj, hpj, hl, hcrc, hop, hbel⟩ := hrel
      have HCR : Hid (Crc.crc l = Crc.crc (bl a) ^^^ Crc.txn (8 * a.size - p) (turn % 2 ^ j)) := hcrc
      have HOP : Hid (Open wr w.heap.size l) := hop
      have HBE : Hid (Below w.heap.size w wr) := hbel
      have HLL : Hid (l.length = a.size) := hl
      clear hcrc hop hbel hl
      by_cases hc : j < 32 ∧ p + j < 8 * a.size
      · obtain ⟨hj32, hp2⟩ := hc
        have hp2' : (p : Int) + (j : Int) < 8 * (a.size : Int) := by omega
        have hb := b_and1 (turn / 2 ^ j) (Nat.lt_of_le_of_lt (Nat.div_le_self _ _) ht)
        have hb' : bits .and .u32 ((turn : Int) / 2 ^ j) 1 = ((turn / 2 ^ j % 2 : Nat) : Int) := by rw [← hb]; congr 1
        clear hb
        by_cases ho : turn / 2 ^ j % 2 = 1
        · have hbt : (bits .and .u32 ((turn : Int) / 2 ^ j) 1 == 1) = true := by rw [hb', ho]; rfl
          have HOD : Hid (turn / 2 ^ j % 2 = 1) := ho
          have hidx : (p + j) / 8 < l.length := by rw [HLL.out]; omega
          obtain ⟨x, hx⟩ : ∃ x : UInt8, x = l[(p + j) / 8] := ⟨_, rfl⟩
          obtain ⟨X, hX⟩ : ∃ X : Nat, X = x.toNat := ⟨_, rfl⟩
          have hcell : wr.cell? ⟨w.heap.size, (p + j) / 8, none⟩ = some (.int .u8 (X : Int)) := by have h := HOP.out.bytes _ hidx; rw [Nat.zero_add] at h; rw [h, hX, hx]
          have hfz : wr.frozen? ⟨w.heap.size, (p + j) / 8, none⟩ = false := HOP.out.thaw _ hidx
          have hX8 : X < 256 := by rw [hX]; exact x.toNat_lt
          have hin : ((p : Int) + (j : Int)) / 8 < (a.size : Int) := by omega
          have HX : Hid (x = l[(p + j) / 8]) := hx
          have HX2 : Hid (X = x.toNat) := hX
          clear hx hX ho hb'
          go_wp2
          go_region
          all_goals go_wp2
          go_roundw
          case rel =>
            have hb8 := HBE.out.setCell (p := ⟨w.heap.size, (p + j) / 8, none⟩) (Nat.le_refl _) (.int .u8 (bits .xor .u8 (X : Int) (2 ^ ((p + j) % 8) % 256)))
            have hset := HOP.out.set ((p + j) / 8) hidx (Crc.flip8 x ((p + j) % 8))
            have hv : bits .xor .u8 (X : Int) (2 ^ ((p + j) % 8) % 256) = ((Crc.flip8 x ((p + j) % 8)).toNat : Int) := by rw [HX2.out]; exact flip_bits x _ (by omega)
            rw [← hv] at hset
            have hst := Crc.burst_step (bl a) l p j turn (by rw [HLL.out, HL.out]) (by rw [HL.out]; exact hp2) HOD.out (by rw [HL.out]; exact HCR.out)
            rw [← HX.out, HL.out] at hst
            exact ⟨j + 1, _, by go_num, by rw [decide_eq_false (Crc.burst_more j turn HOD.out)]; rfl, by omega, by omega, by rw [List.length_set]; exact HLL.out, hst, hset, hb8.drew⟩
          case measure => simp [intOf]; omega
        · have hbt : (bits .and .u32 ((turn : Int) / 2 ^ j) 1 == 1) = false := by rw [hb', beq_eq_false_iff_ne]; intro h; exact ho (Int.ofNat_inj.mp h)
          have HOD : Hid (¬ turn / 2 ^ j % 2 = 1) := ho
          clear ho hb'
          go_wp2
          go_roundw
          case rel =>
            have e := Crc.burst_none j turn HOD.out
            exact ⟨j + 1, l, by go_num, by rw [e], by omega, by omega, HLL.out, by rw [e]; exact HCR.out, HOP.out, HBE.out⟩
          case measure => simp [intOf]; omega
      · have ht32 : turn % 2 ^ j < 4294967296 := Nat.lt_of_le_of_lt (Nat.mod_le _ _) ht
        have hfin := fin_bits l (bl a) _ _ ht32 HCR.out
        clear ht32
        have hT1 : Tabs wr := HT.out.below HBE.out hw2
        have HT1 : Hid (Tabs wr) := hT1
        clear hT1
        have HLL' : Hid (a.size = l.length) := HLL.out.symm
        have hsz := HBE.out.size
        have hop : w.heap.size < wr.heap.size := by
          obtain ⟨z, m, h, _⟩ := HOP.out
          exact (Array.getElem?_eq_some_iff.1 h).1
        by_cases hj32 : j < 32
        all_goals try (have hp2 : ¬ (p : Int) + (j : Int) < 8 * (a.size : Int) := by omega)
        all_goals
          clear hc
          go_wp2_with fail
          refine (sum_n l _ _ 0 _ wr HLL'.out (by have := HLL'.out; omega) HOP.out.bytes HT1.out).mono ?_
          rintro e w1 ⟨rfl, m1, rfl⟩
          have HB2 : Hid (Below w.heap.size w (bw (wr.drewN m1) a)) := below_bw (HBE.out.trans (drewN_below _ wr m1)) hsz a
          have HO2 : Hid (BytesAt (bw (wr.drewN m1) a) wr.heap.size 0 (bl a)) := (bw_open (wr.drewN m1) a).bytes
          have HT2 : Hid (Tabs (bw (wr.drewN m1) a)) := HT.out.below HB2.out hw2
          go_wp2_with fail
          refine (sum_n (bl a) _ _ 0 _ (bw (wr.drewN m1) a) HL.out.symm (by have := HL.out; omega) HO2.out HT2.out).mono ?_
          rintro e w1 ⟨rfl, m2, rfl⟩
          have HB3 : Hid (Below w.heap.size w ((bw (wr.drewN m1) a).drewN m2)) := HB2.out.trans (drewN_below _ _ m2)
          go_wp2_with fail
          go_ret
          exact ⟨rfl, HB3.out⟩
end Go.Proofs.YtppmjdmdflcoiafDoor
