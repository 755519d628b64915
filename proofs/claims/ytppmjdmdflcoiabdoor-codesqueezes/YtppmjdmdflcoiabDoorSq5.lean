/-
  code.Squeeze: the walk.
-/
import Derived.Test.YtppmjdmdflcoiabDoorSq4
namespace Go.Proofs.YtppmjdmdflcoiabDoor
open Go.ChangeShapes Go.WideShapes Go.ChangeAt Go.RowKit
set_option linter.unusedVariables false

theorem owns_mono {w : World} {base base' : Nat} {v : Value} {l : List UInt8} (h : Owns w base v l) (hb : base' ≤ base) : Owns w base' v l := by
  refine ⟨h.1, ?_⟩
  rcases h.2 with hn | ⟨g, c, cur, h3, h4, h5⟩
  · exact .inl hn
  · exact .inr ⟨g, c, cur, h3, by omega, h5⟩
theorem three_bytes (w : World) (x y z : UInt8) (u v t : Value) (hu : u = .int .u8 (x.toNat : Int)) (hv : v = .int .u8 (y.toNat : Int)) (ht : t = .int .u8 (z.toNat : Int)) (b : Nat) (hb : b = w.heap.size) : BytesAt (w.alloc (.cells #[u, v, t] 5)) b 0 [x, y, z] := by
  intro i hi
  subst hu hv ht hb
  match i, hi with
  | 0, _ => simp
  | 1, _ => simp
  | 2, _ => simp
/-- A short form of b, and how long it is. -/
def Squ (b out : List UInt8) : Prop := swell b.length out [] = (0, b) ∧ out.length ≤ b.length + (b.length + 127) / 128 ∧ ∀ p, 1 ≤ p → p ≤ 64 → p ≤ b.length → Per b p → out.length ≤ p + 8 + 3 * (b.length / 130)
def SqPost (b : List UInt8) (w : World) (e : Ending) (w' : World) : Prop := ∃ v out, e = .returned (.tuple #[v, .nilIface]) ∧ Owns w' w.heap.size v out ∧ Squ b out ∧ Below w.heap.size w w'
/-- On the way. -/
def SqI (b out : List UInt8) (done i : Nat) : Prop := done ≤ i ∧ i ≤ b.length ∧ SD b out done ∧ SzA out.length done ∧ ∀ p, 1 ≤ p → p ≤ 64 → p ≤ b.length → Per b p → SzB b.length p out.length done i
theorem SqI.room {b out : List UInt8} {done i : Nat} (h : SqI b out done i) (hb : b.length ≤ 4096) : out.length ≤ 10000 := by
  have h1 := h.2.2.2.1 0
  have h2 := h.1
  have h3 := h.2.1
  omega
theorem SqI.plain {b out : List UInt8} {done i fr size : Nat} (h : SqI b out done i) (hi : i < b.length) (hl : Longest b i fr size) (hs : size < 4) : SqI b out done (i + 1) :=
  ⟨by have := h.1; omega, by omega, h.2.2.1, h.2.2.2.1, fun p h1 h2 h3 h4 => (h.2.2.2.2 p h1 h2 h3 h4).plain hi h.1 hs (fun h5 h6 => hl.2.2 p h1 h2 h5 h6 h4)⟩
theorem SqI.copy {b out f : List UInt8} {done i fr size : Nat} (h : SqI b out done i) (hb : b.length ≤ 4096) (hi : i < b.length) (hl : Longest b i fr size) (hs : 4 ≤ size) (hd : Dec f ((b.drop done).take (i - done))) (hf : f.length = (i - done) + (i - done + 127) / 128) :
    SqI b (out ++ f ++ [UInt8.ofNat (size + 125), UInt8.ofNat (i - fr - 1), UInt8.ofNat ((i - fr - 1) / 256)]) (i + size) (i + size) := by
  obtain ⟨h1, h2, h3, h4, h5⟩ := h
  obtain ⟨l1, l2, l3⟩ := hl
  obtain ⟨l4, l5⟩ := l2 (by omega)
  have hlen : (out ++ f ++ [UInt8.ofNat (size + 125), UInt8.ofNat (i - fr - 1), UInt8.ofNat ((i - fr - 1) / 256)]).length = out.length + ((i - done) + (i - done + 127) / 128) + 3 := by
    rw [List.length_append, List.length_append, hf]; rfl
  refine ⟨Nat.le_refl _, by omega, (h3.plain h1 (by omega) hd).copy l4 hs (by omega) (by omega) (by omega) l5, ?_, fun p p1 p2 p3 p4 => ?_⟩
  · rw [hlen]
    have := h4.step (i - done) size hs
    rw [show done + (i - done) + size = i + size by omega] at this
    exact this
  · rw [hlen]
    exact (h5 p p1 p2 p3 p4).copy p2 hi h1 hs l1 (fun q1 q2 => l3 p p1 p2 q1 q2 p4)
theorem SqI.last {b out f : List UInt8} {done : Nat} (h : SqI b out done b.length) (hd : Dec f (b.drop done)) (hf : f.length = (b.length - done) + (b.length - done + 127) / 128) : Squ b (out ++ f) := by
  obtain ⟨h1, h2, h3, h4, h5⟩ := h
  have hlen : (out ++ f).length = out.length + ((b.length - done) + (b.length - done + 127) / 128) := by rw [List.length_append, hf]
  refine ⟨(h3.plain h1 (Nat.le_refl _) ?_).whole, ?_, fun p p1 p2 p3 p4 => ?_⟩
  · rw [List.take_of_length_le (by rw [List.length_drop]; exact Nat.le_refl _)]; exact hd
  · rw [hlen]; exact h4.last h1
  · rw [hlen]; exact (h5 p p1 p2 p3 p4).last p2 p3 h1

theorem bytes_sub {w : World} {B : Nat} {b : List UInt8} (h : BytesAt w B 0 b) (d k : Nat) : BytesAt w B d ((b.drop d).take k) := by
  intro i hi
  rw [List.length_take, List.length_drop] at hi
  have := h (d + i) (by omega)
  rw [Nat.zero_add] at this
  rw [this]
  simp [List.getElem_drop]
theorem bytes_from {w : World} {B : Nat} {b : List UInt8} (h : BytesAt w B 0 b) (d : Nat) : BytesAt w B d (b.drop d) := by
  intro i hi
  rw [List.length_drop] at hi
  have := h (d + i) (by omega)
  rw [Nat.zero_add] at this
  rw [this]
  simp [List.getElem_drop]
theorem squeeze_long (ad : Addr) (n cap : Nat) (w : World) (h : 4096 < n) : Calls Tryd.prog 15 #[.slice (some ad) n cap] w fun e w' => e = .returned (.tuple #[.slice none 0 0, .iface 24 (.int .i64 6)]) ∧ w' = w := by
  have h' : (4096 : Int) < (n : Int) := by omega
  go_enter Tryd.func15, Tryd.ntmps15
  go_wp2
  go_ret2
  exact ⟨rfl, rfl⟩

set_option maxRecDepth 1000000 in
set_option maxHeartbeats 3200000 in
theorem squeeze_any (b : List UInt8) (n B cap : Nat) (w : World) (hn : n = b.length) (hl : b.length ≤ 4096) (hcap : b.length < cap) (hB : B < w.heap.size) (hc : BytesAt w B 0 b) :
    Calls Tryd.prog 15 #[.slice (some ⟨B, 0, none⟩) n cap] w (SqPost b w) := by
  subst hn
  have HC : Hid (BytesAt w B 0 b) := hc
  clear hc
  have hl' : ¬ (4096 : Int) < (b.length : Int) := by omega
  go_enter Tryd.func15, Tryd.ntmps15
  go_wp2_with (go_at_call 19; refine (newPlaces_any b _ B cap w rfl hl hB HC.out).mono ?_; rintro e w1 ⟨F, bf, rfl, hbf, hF1, hF2, hints, hbe, hb1⟩)
  have HI : Hid (IntsAt w1 F bf) := hints
  have HBE : Hid (∀ k (hk : k < bf.length), Bef b k bf[k]) := hbe
  have HB1 : Hid (Below w.heap.size w w1) := hb1
  have hz1 : w.heap.size ≤ w1.heap.size := hb1.size
  have HBF : Hid (bf.length = b.length) := hbf
  clear hints hbe hb1 hbf
  obtain ⟨W, hW⟩ : ∃ W, W = w1.alloc (Obj.cells #[Value.slice (some ⟨B, 0, none⟩) b.length cap, Value.slice (some ⟨F, 0, none⟩) b.length b.length] 43) := ⟨_, rfl⟩
  obtain ⟨P, hP⟩ : ∃ P, P = w1.heap.size := ⟨_, rfl⟩
  have hWz : W.heap.size = P + 1 := by rw [hW, hP]; simp
  have ha := (Below.refl w1.heap.size w1).alloc (Nat.le_refl _) (Obj.cells #[Value.slice (some ⟨B, 0, none⟩) b.length cap, Value.slice (some ⟨F, 0, none⟩) b.length b.length] 43)
  rw [← hW] at ha
  have HBW : Hid (Below w.heap.size w W) := HB1.out.trans (ha.mono hz1)
  have HIW : Hid (IntsAt W F bf) := HI.out.below ha hF2
  have HCW : Hid (BytesAt W B 0 b) := HC.out.below HBW.out hB
  have HP0 : Hid (W.cell? ⟨P, 0, none⟩ = some (.slice (some ⟨B, 0, none⟩) b.length cap)) := by rw [hW, hP]; show World.cell? _ _ = _; simp
  have HP1 : Hid (W.cell? ⟨P, 1, none⟩ = some (.slice (some ⟨F, 0, none⟩) b.length b.length)) := by rw [hW, hP]; show World.cell? _ _ = _; simp
  have hFP : F < P := by omega
  have hBP : B < P := by omega
  rw [← hW, ← hP]
  have HWZ : Hid (W.heap.size = P + 1) := hWz
  clear ha hW hP hWz HI
  go_loopw [5, 6, 7] (fun o d x wr => ∃ (done i : Nat) (out : List UInt8) (vo : Value), vo = o ∧ d = .int .i64 done ∧ x = .int .i64 i ∧ SqI b out done i ∧ Owns wr (P + 1) vo out ∧ Below (P + 1) W wr) (fun _ _ x _ => b.length - (intOf x).toNat)
  case atStart => exact ⟨0, 0, [], _, rfl, rfl, rfl, ⟨Nat.le_refl _, by omega, sd_zero b, szA_zero, fun p _ _ _ _ => szB_zero _ _⟩, owns_nil _ _, Below.refl _ _⟩
  case round =>
    obtain ⟨done, i, out, v0, rfl, rfl, rfl, hsq, hown, hbel⟩ := hrel
    have HSQ : Hid (SqI b out done i) := hsq
    have HOW : Hid (Owns wr (P + 1) v0 out) := hown
    have HBL : Hid (Below (P + 1) W wr) := hbel
    have hd1 : done ≤ i := hsq.1
    have hd2 : i ≤ b.length := hsq.2.1
    have hrm : out.length ≤ 10000 := hsq.room hl
    have hz : P + 1 ≤ wr.heap.size := by have := hbel.size; have := HWZ.out; omega
    clear hsq hown hbel
    have q0 := (HBL.out.cell (p := ⟨P, 0, none⟩) (by show P < P + 1; omega)).trans HP0.out
    have q1 := (HBL.out.cell (p := ⟨P, 1, none⟩) (by show P < P + 1; omega)).trans HP1.out
    by_cases hi : i < b.length
    · have hi' : (i : Int) < (b.length : Int) := by omega
      go_wp2_with fail
      refine (longest_any b bf i _ B cap F _ wr rfl hl HBF.out hi (by omega) (by omega) (HCW.out.below HBL.out (by omega)) (HIW.out.below HBL.out (by omega)) HBE.out).mono ?_
      rintro e w2 ⟨fr, size, rfl, hlong, hb2⟩
      have HLG : Hid (Longest b i fr size) := hlong
      have HB2 : Hid (Below (P + 1) W w2) := HBL.out.trans (hb2.mono hz)
      have HO2 : Hid (Owns w2 (P + 1) v0 out) := HOW.out.below hb2
      have hz2 : P + 1 ≤ w2.heap.size := Nat.le_trans hz hb2.size
      clear hlong hb2 q0 q1
      by_cases hs : size < 4
      · have hs' : (size : Int) < 4 := by omega
        have HNX : Hid (SqI b out done (i + 1)) := HSQ.out.plain hi HLG.out hs
        go_wp2
        go_roundw
        case rel => exact ⟨done, i + 1, out, _, rfl, rfl, by go_num, HNX.out, HO2.out, HB2.out⟩
        case measure => simp [intOf]; omega
      · have hs' : ¬ (size : Int) < 4 := by omega
        have hdc : (done : Int) ≤ (i : Int) := by omega
        have hic : (i : Int) ≤ (cap : Int) := by omega
        have hnc : ¬ cap = done := by omega
        go_wp2_with fail
        have hdl : ((b.drop done).take (i - done)).length = i - done := by rw [List.length_take, List.length_drop]; omega
        refine (addPlain_any ((b.drop done).take (i - done)) out _ (i - done) B done (cap - done) (P + 1) w2 hdl.symm (by rw [hdl]; omega) (by omega) (by rw [hdl]; omega) hz2 (by omega) (bytes_sub (HCW.out.below HB2.out (by omega)) _ _) HO2.out).mono ?_
        rintro e w3 ⟨v3, f, rfl, hdec, hfl, hown3, hb3⟩
        rw [hdl] at hfl
        have HNX : Hid (SqI b (out ++ f ++ [UInt8.ofNat (size + 125), UInt8.ofNat (i - fr - 1), UInt8.ofNat ((i - fr - 1) / 256)]) (i + size) (i + size)) := HSQ.out.copy hl hi HLG.out (by omega) hdec hfl
        have hfi : fr < i := (HLG.out.2.1 (by omega)).1
        have hsz : size ≤ 130 ∧ i + size ≤ b.length := by have := HLG.out.1; omega
        obtain ⟨hsz1, hsz2⟩ := hsz
        obtain ⟨D, hD⟩ : ∃ D, D = out ++ f := ⟨_, rfl⟩
        have hDl : D.length ≤ 100000 := by rw [hD, List.length_append, hfl]; omega
        rw [← hD] at hown3 HNX
        have HO3 : Hid (Owns w3 (P + 1) v3 D) := hown3
        have HB3 : Hid (Below (P + 1) W w3) := HB2.out.trans hb3
        have hz3 : P + 1 ≤ w3.heap.size := Nat.le_trans hz2 hb3.size
        clear hdl hdec hfl hown3 hb3 hD HO2
        obtain ⟨G, hG⟩ : ∃ G : Nat, G = i - fr - 1 := ⟨_, rfl⟩
        rw [← hG] at HNX
        have hGi : (i : Int) - (fr : Int) - 1 = (G : Int) := by omega
        have HGI : Hid ((i : Int) - (fr : Int) - 1 = (G : Int)) := hGi
        have hG2 : G < 4096 := by omega
        clear hG hGi
        obtain ⟨ao, ac, rfl⟩ := HO3.out.shape
        obtain ⟨x, hx⟩ : ∃ x, x = UInt8.ofNat (size + 125) := ⟨_, rfl⟩
        obtain ⟨y, hy⟩ : ∃ y, y = UInt8.ofNat G := ⟨_, rfl⟩
        obtain ⟨z, hz'⟩ : ∃ z, z = UInt8.ofNat (G / 256) := ⟨_, rfl⟩
        have HV1 : Hid (Value.int .u8 ((size : Int) + 125) = .int .u8 ((x.toNat : Nat) : Int)) := by
          show _ = _
          rw [hx, UInt8.toNat_ofNat']; congr 1; omega
        have HV2 : Hid (Value.int .u8 (((i : Int) - (fr : Int) - 1) % 256) = .int .u8 ((y.toNat : Nat) : Int)) := by
          show _ = _
          rw [HGI.out, hy, UInt8.toNat_ofNat']; congr 1
        have HV3 : Hid (Value.int .u8 (((i : Int) - (fr : Int) - 1) / 256) = .int .u8 ((z.toNat : Nat) : Int)) := by
          show _ = _
          rw [HGI.out, hz', UInt8.toNat_ofNat']; congr 1; omega
        rw [← hx, ← hy, ← hz'] at HNX
        clear hx hy hz'
        have HAL : Hid (Owns (w3.alloc (.cells #[.int .u8 ((size : Int) + 125), .int .u8 (((i : Int) - (fr : Int) - 1) % 256), .int .u8 (((i : Int) - (fr : Int) - 1) / 256)] 5)) (P + 1) (.slice ao D.length ac) D) := HO3.out.alloc _
        go_wp2_with (at_builtin; refine wpList_add rfl (.tmp 36) (.tmp 51) rfl (P + 1) _ D rfl HAL.out w3.heap.size 0 3 3 [x, y, z] rfl rfl (three_bytes w3 x y z _ _ _ HV1.out HV2.out HV3.out _ rfl) (by simp; omega) (by simp; omega) ?_; intro v4 w4 hown4 hbel4 hnil4; have HO4 : Hid (Owns w4 (P + 1) v4 (D ++ [x, y, z])) := hown4; have HB4 : Hid (Below (P + 1) W w4) := (HB3.out.alloc hz3 _).trans hbel4; clear hown4 hbel4 hnil4)
        go_roundw
        case rel => exact ⟨i + size, i + size, D ++ [x, y, z], _, rfl, by go_num, by go_num, HNX.out, HO4.out, HB4.out⟩
        case measure => simp [intOf]; omega
    · have hi' : ¬ (i : Int) < (b.length : Int) := by omega
      have hdb : (done : Int) ≤ (b.length : Int) := by omega
      have hnc : ¬ cap = done := by omega
      have hie : i = b.length := by omega
      subst hie
      go_wp2_with fail
      have hdl : (b.drop done).length = b.length - done := by rw [List.length_drop]
      refine (addPlain_any (b.drop done) out _ (b.length - done) B done (cap - done) (P + 1) wr hdl.symm (by rw [hdl]; omega) (by omega) (by rw [hdl]; omega) hz (by omega) (bytes_from (HCW.out.below HBL.out (by omega)) _) HOW.out).mono ?_
      rintro e w3 ⟨v3, f, rfl, hdec, hfl, hown3, hb3⟩
      rw [hdl] at hfl
      have HF : Hid (Squ b (out ++ f)) := HSQ.out.last hdec hfl
      have HO3 : Hid (Owns w3 w.heap.size v3 (out ++ f)) := owns_mono hown3 (by have := HBW.out.size; have := HWZ.out; omega)
      have HB3 : Hid (Below w.heap.size w w3) := HBW.out.trans ((HBL.out.trans hb3).mono (by have := HBW.out.size; have := HWZ.out; omega))
      clear hdl hdec hfl hown3 hb3
      go_wp2
      go_ret2
      exact ⟨_, _, rfl, HO3.out, HF.out, HB3.out⟩
end Go.Proofs.YtppmjdmdflcoiabDoor
