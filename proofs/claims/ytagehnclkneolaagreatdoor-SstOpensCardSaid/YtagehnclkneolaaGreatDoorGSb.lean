import Derived.Test.YtagehnclkneolaaGreatDoorGSa
import Derived.Lib.QuietBelow
import Derived.Test.YtagehnclkneolaaGreatDoorEnD

/-
  The walk over sst.index.add.
-/
namespace Go.Proofs.YtagehnclkneolaaGreatDoor
open Go.RowKit

/-- The index in the making: the rows (of the call's own), the place of the next block. -/
structure IdxM (w : World) (base xb : Nat) (rv : Value) (rows : List UInt8) (a : Nat) : Prop where
  blk : w.heap[xb]? = some (.cells #[rv, .int .i64 (a : Int)] 130 (0, 0))
  own : Own w base rv rows
theorem IdxM.ne {w : World} {base xb a : Nat} {rv : Value} {rows : List UInt8} (h : IdxM w base xb rv rows a) : rv.ownBlock ≠ some xb := fun e => by
  obtain ⟨cur, hc⟩ := h.own.heap e
  rw [h.blk] at hc
  cases hc
theorem IdxM.below {w w' : World} {base xb a : Nat} {rv : Value} {rows : List UInt8} (h : IdxM w base xb rv rows a) (hb : Below w.heap.size w w') : IdxM w' base xb rv rows a :=
  ⟨(hb.block _ (block_lt h.blk)).trans h.blk, h.own.after hb⟩
/-- The blocks of the index in the making. -/
def InIdx (xb : Nat) (rv : Value) (k : Nat) : Prop := k = xb ∨ rv.ownBlock = some k

theorem Fr.setCell_ {S : Nat → Prop} {w w' : World} (h : Fr S w w') {p : Addr} (hp : S p.block) (u : Value) : Fr S w (w'.setCell p u) := h.then (Fr.setCell S w' hp u)

set_option maxRecDepth 100000 in
set_option maxHeartbeats 1000000 in
theorem idx_add (w : World) (base xb : Nat) (rv : Value) (rows : List UInt8) (a n : Nat) (k : List UInt8) (h : IdxM w base xb rv rows a) (hbase : base ≤ w.heap.size)
    (ha : a ≤ 70368744177664) (hn : n ≤ 70368744177664) (hk : k.length ≤ 35184372088832) (hr : rows.length ≤ 35184372088832) :
    Calls Tryz.prog 74 #[.pointer (some ⟨xb, 0, none⟩), .string ⟨k.toArray⟩, .int .i64 (n : Int)] w fun x w' => x = .returned (.tuple #[]) ∧ ∃ rv', IdxM w' base xb rv' (rows ++ rowB k a n) (a + n) ∧
      Fr (InIdx xb rv) w w' ∧ (rv'.ownBlock = rv.ownBlock ∨ ∀ j, rv'.ownBlock = some j → w.heap.size ≤ j) := by
  have HM := Lib.hid h
  have HNe := Lib.hid h.ne
  have HXl := Lib.hid (block_lt h.blk)
  have HL := Lib.hid (And.intro hk hr)
  have HN := Lib.hid (num_len10 k.length (by omega))
  have HNa := Lib.hid (num_len10 a (by omega))
  have HNn := Lib.hid (num_len10 n (by omega))
  have HBa := Lib.hid hbase
  have hcv : ∀ W, (convert 9 22 (.string ⟨k.toArray⟩)).run Tryz.prog W = .ok (.slice (some ⟨W.heap.size, 0, none⟩) k.length (convC W k)) (convW W k) := fun W => conv_run W k
  have HC0 : Hid (Below w.heap.size w (convW w k)) := Lib.hid (conv_below (Below.refl _ _) (Nat.le_refl _) _)
  have HC1 : Hid (Below w.heap.size w ((convW w k).alloc (.cells #[.slice (some ⟨w.heap.size, 0, none⟩) k.length (convC w k)] 22))) := Lib.hid (HC0.out.alloc HC0.out.size _)
  have HRL : Hid (RdL ((convW w k).alloc (.cells #[.slice (some ⟨w.heap.size, 0, none⟩) k.length (convC w k)] 22)) ((convW w k).heap.size + 1) (.slice (some ⟨(convW w k).heap.size, 0, none⟩) 1 1) [k]) := Lib.hid (RdL.one (conv_rd w k (by omega)) (by rw [conv_size]; exact Nat.le_refl _) 22)
  have ha64 : IntKind.i64.wrap ((a : Int) + (n : Int)) = ((a + n : Nat) : Int) := by rw [IntWalk.i64_in _ (by omega)]; omega
  clear h hbase hk hr
  go_enter Tryz.func74, Tryz.ntmps74
  go_wp2_with fail
  refine (bytes_any _ _ [] [k] 0 _ _ (Rd.none_ _ _) (Nat.zero_le _) HRL.out (by simp) (by have := HL.out.1; simp [fln]; omega)).mono ?_
  rintro r w1 ⟨v1, rfl, hown1, hb1⟩
  have HB1 : Hid (Below w.heap.size w w1) := Lib.hid (HC1.out.trans (hb1.mono HC1.out.size))
  have HO1 := Lib.hid (hown1.more HC1.out.size)
  have HM1 := Lib.hid (HM.out.below HB1.out)
  clear hown1 hb1 HRL HC0 HC1
  have y1 := cell_of (i := 1) HM1.out.blk rfl
  go_wp2_with fail
  refine (number_any _ _ a _ _ (by omega) (HO1.out.rd (by have := HL.out.1; have := HN.out; simp [fln]; omega)) (Nat.le_refl _) (by have := HL.out.1; have := HN.out; simp [fln]; omega)).mono ?_
  rintro r w2 ⟨v2, rfl, hown2, hb2⟩
  have HB2 : Hid (Below w.heap.size w w2) := Lib.hid (HB1.out.trans (hb2.mono HB1.out.size))
  have HO2 := Lib.hid (hown2.more HB1.out.size)
  have HM2 := Lib.hid (HM.out.below HB2.out)
  clear hown2 hb2 HO1 HM1 y1
  go_wp2_with fail
  refine (number_any _ _ n _ _ (by omega) (HO2.out.rd (by have := HL.out.1; have := HN.out; have := HNa.out; simp [fln]; omega)) (Nat.le_refl _) (by have := HL.out.1; have := HN.out; have := HNa.out; simp [fln]; omega)).mono ?_
  rintro r w3 ⟨v3, rfl, hown3, hb3⟩
  have HB3 : Hid (Below w.heap.size w w3) := Lib.hid (HB2.out.trans (hb3.mono HB2.out.size))
  have HO3 : Hid (Own w3 w.heap.size v3 (rowB k a n)) := Lib.hid (by have := hown3.more HB2.out.size; simpa [rowB, bytB, fln] using this)
  have HM3 := Lib.hid (HM.out.below HB3.out)
  clear hown3 hb3 HO2 HM2
  have hrl : (rowB k a n).length ≤ 35184372088900 := by have := HL.out.1; have := HN.out; have := HNa.out; have := HNn.out; simp [rowB, bytB]; omega
  have y0 := cell_of (i := 0) HM3.out.blk rfl
  go_wp2_with (at_builtin; refine wpList_append_rd_at rfl _ _ rfl base w3.heap.size _ _ _ (rowB k a n) rfl HM3.out.own rfl (HO3.out.rd (by omega)) (by have := HL.out.2; omega) (by have := HBa.out; have := HB3.out.size; omega) ?_; intro v4 w4 hown4 hg4 hat4; obtain ⟨q4, c4, rfl, _, _⟩ := hown4.shp; have hz := (hg4.block xb (Nat.lt_of_lt_of_le HXl.out HB3.out.size) (fun e => HNe.out e.symm)).trans HM3.out.blk; have z0 := cell_of (i := 0) hz rfl; have z1 := cell_of (i := 1) hz rfl; have f0 := frozen_of (i := 0) hz; have f1 := frozen_of (i := 1) hz; have HG4 := Lib.hid hg4; have HAt := Lib.hid hat4; have HO4 := Lib.hid hown4; have HZ := Lib.hid hz; clear hown4 hg4 hat4 hz y0)
  go_end0
  have h5 := setCell_same (setCell_same HZ.out (off := 0) (.slice q4 (rows.length + (rowB k a n).length) c4)) (off := 1) (.int .i64 ((a : Int) + (n : Int)))
  refine ⟨rfl, .slice q4 (rows.length + (rowB k a n).length) c4, ⟨?_, ?_⟩, ?_, ?_⟩
  · rw [h5]
    simp [Int.natCast_add]
  · have h6 := HO4.out
    rw [List.length_append] at h6
    refine h6.keep fun j hj => ?_
    have hj2 : j ≠ xb := fun e => by
      obtain ⟨cur, hc⟩ := h6.heap hj
      rw [e, HZ.out] at hc
      cases hc
    rw [setCell_other hj2, setCell_other hj2]
  · refine Fr.setCell_ ?_ (.inl rfl) _
    refine Fr.setCell_ ?_ (.inl rfl) _
    exact (Fr.of_new HB3.out _).trans (Fr.grown HG4.out fun j hj => .inl (.inr hj))
  · rw [List.length_append] at HAt
    rcases HAt.out with e | e
    · exact .inl e
    · exact .inr fun j hj => by
        rw [e] at hj
        injection hj with hj
        have := HB3.out.size
        omega
end Go.Proofs.YtagehnclkneolaaGreatDoor

/-
  The walks over sst.firstOfKey, sst.appendLowFirst and glacierref7.eight.
-/
namespace Go.Proofs.YtagehnclkneolaaGreatDoor
open Go.RowKit

theorem fstK_zero (es : List Ent) : fstK es 0 = true := rfl
theorem fstK_succ (es : List Ent) (k : Nat) (hk : k < es.length) (h0 : 0 < k) : fstK es k = !((es[k - 1]'(by omega)).key == es[k].key) := by
  unfold fstK
  rw [List.getElem?_eq_getElem (show k - 1 < es.length by omega), List.getElem?_eq_getElem hk, show (k == 0) = false from by simp; omega]
  simp

set_option maxRecDepth 100000 in
set_option maxHeartbeats 1000000 in
theorem fok_any (w : World) (F : Nat → Prop) (p : Option Addr) (cap : Nat) (es : List Ent) (k : Nat) (h : En w F (.slice p es.length cap) es) (hk : k < es.length) :
    Calls Tryz.prog 96 #[.slice p es.length cap, .int .i64 (k : Int)] w fun x w' => x = .returned (.bool (fstK es k)) ∧ Below w.heap.size w w' := by
  obtain ⟨_, _, he, hlc, hl47, hcm, _⟩ := h.form
  simp only [Value.slice.injEq] at he
  obtain ⟨rfl, _, rfl⟩ := he
  obtain ⟨b1, off1, q1, c1, rfl, hb1, _, hV1, e0, e1, e2, e3⟩ := h.at_ (List.getElem?_eq_getElem hk)
  by_cases h0 : 0 < k
  · have hkm : k - 1 < es.length := by omega
    obtain ⟨b2, off2, q2, c2, hp2, hb2, _, hV2, d0, d1, d2, d3⟩ := h.at_ (List.getElem?_eq_getElem hkm)
    obtain ⟨rfl, rfl⟩ : b1 = b2 ∧ off1 = off2 := by simpa using hp2
    rw [fstK_succ es k hk h0]
    generalize es[k] = x at *
    generalize es[k - 1] = y at *
    have hwr : IntKind.i64.wrap ((k : Int) - 1) = (k : Int) - 1 := IntWalk.i64_in _ (by omega)
    have hkt : ((k : Int) - 1).toNat = k - 1 := by omega
    have hk1 : (0 : Int) ≤ (k : Int) - 1 := by omega
    have hkl : ((k : Int) - 1) < (es.length : Int) := by omega
    have hz : ((k : Int) == 0) = false := by simp; omega
    have hzn : (k == 0) = false := by simp; omega
    clear hV1 hV2 hb1 hb2 hp2 h e1 e2 e3 d1 d2 d3 h0
    cases q : (y.key == x.key)
    all_goals
      go_enter Tryz.func96, Tryz.ntmps96
      go_wp2_with fail
      go_quiet (fail)
      go_wp2_with fail
      go_ret
      exact ⟨rfl, below_drewN (Below.refl _ _) _⟩
  · obtain rfl : k = 0 := by omega
    rw [fstK_zero]
    go_enter Tryz.func96, Tryz.ntmps96
    go_wp2_with fail
    go_quiet (fail)
    go_wp2_with fail
    go_ret
    exact ⟨rfl, below_drewN (Below.refl _ _) _⟩

theorem lowB_snoc : ∀ (k v : Nat), lowB (k + 1) v = lowB k v ++ [UInt8.ofNat (v / 256 ^ k % 256)]
  | 0, v => by simp [lowB]
  | k + 1, v => by
    rw [lowB, lowB_snoc k]
    simp only [lowB, List.cons_append]
    rw [Nat.div_div_eq_div_mul, Nat.pow_succ, Nat.mul_comm 256]

set_option maxRecDepth 100000 in
set_option maxHeartbeats 1000000 in
theorem low_any (w : World) (v : Value) (l : List UInt8) (x n base : Nat) (hown : Own w base v l) (hbase : base ≤ w.heap.size) (hx : x < 18446744073709551616) (hn : n ≤ 8) (hl : l.length ≤ 140737488354000) :
    Calls Tryz.prog 98 #[v, .int .u64 (x : Int), .int .i64 (n : Int)] w fun e w' => ∃ v', e = .returned v' ∧ Own w' base v' (l ++ lowB n x) ∧ Only w v w' v' := by
  have HO := Lib.hid hown
  have HX := Lib.hid hx
  clear hown hx
  go_enter Tryz.func98, Tryz.ntmps98
  go_wp2_with fail
  go_loopw [0, 1, 8] (fun b y i wr => ∃ k : Nat, k ≤ n ∧ i = .int .i64 (k : Int) ∧ y = .int .u64 ((x / 256 ^ k : Nat) : Int) ∧ Own wr base b (l ++ lowB k x) ∧ Only w v wr b) (fun _ _ i _ => n - (intOf i).toNat)
  case atStart => exact ⟨0, by omega, rfl, by simp, by simpa [lowB] using HO.out, Only.refl _ _⟩
  case round =>
    obtain ⟨k, hk, rfl, rfl, hown1, hon1⟩ := hrel
    have HO1 := Lib.hid hown1
    have HN1 := Lib.hid hon1
    have hsz := hon1.1.size
    have hy : x / 256 ^ k < 18446744073709551616 := Nat.lt_of_le_of_lt (Nat.div_le_self _ _) HX.out
    have HSn := Lib.hid (lowB_snoc k x)
    have HDv : Hid (x / 256 ^ (k + 1) = x / 256 ^ k / 256) := Lib.hid (by rw [Nat.pow_succ, Nat.div_div_eq_div_mul])
    clear hown1 hon1
    generalize x / 256 ^ k = y at *
    by_cases hlt : k < n
    · have d1 : decide ((k : Int) < (n : Int)) = true := decide_eq_true (by omega)
      obtain ⟨c, hc, HcE⟩ : ∃ c : UInt8, (y : Int) % 256 = (c.toNat : Int) ∧ Hid (UInt8.ofNat (y % 256) = c) := ⟨_, by rw [toNat_ofC _ (show y % 256 < 256 by omega)]; omega, Lib.hid rfl⟩
      go_wp2_with (at_builtin; refine wpList_append_rd_at rfl _ _ rfl base (wr.heap.size + 1) _ _ _ [c] rfl (HO1.out.alloc _) rfl (Rd.new wr [c] _ _ rfl (by simp)) (by simp [lowB_len]; omega) (by simp; omega) ?_; intro v1 w1 hown2 hg2 hat2)
      have HS := Lib.hid ((HN1.out.alloc (.cells #[.int .u8 (c.toNat : Int)] 5)).step hg2 hat2)
      clear hg2 hat2
      go_roundw
      case rel =>
        refine ⟨k + 1, by omega, by go_num, ?_, ?_, HS.out⟩
        · rw [HDv.out]
          go_num
        · rw [HSn.out, HcE.out, ← List.append_assoc]
          exact hown2
      case measure => simp [intOf]; omega
    · obtain rfl : k = n := by omega
      go_wp2_with fail
      go_ret
      exact ⟨_, rfl, HO1.out, HN1.out⟩
end Go.Proofs.YtagehnclkneolaaGreatDoor

/-
  The walks over sst.foot.inBytes, glacierref7.eight; the reference's Four and Frame, told by the one block that may have changed.
-/
namespace Go.Proofs.YtagehnclkneolaaGreatDoor
open Go.RowKit

def preF (i f n : Nat) : Nat → List UInt8
  | 0 => []
  | 1 => lowB 8 i
  | 2 => lowB 8 i ++ lowB 8 f
  | _ => lowB 8 i ++ lowB 8 f ++ lowB 8 n
theorem preF_len (i f n : Nat) : ∀ k, (preF i f n k).length ≤ 24
  | 0 => by simp [preF]
  | 1 => by simp [preF, lowB_len]
  | 2 => by simp [preF, lowB_len]
  | k + 3 => by simp [preF, lowB_len]
def zeros (n : Nat) : List UInt8 := List.replicate n 0
theorem zeros_len (n : Nat) : (zeros n).length = n := by simp [zeros]
theorem mk_bytes (T : TypeId) (hT : Tryz.prog.underlying T = some (.slice 5)) (l n : Nat) (hl : l ≤ n) (h : n ≤ 1099511627776) (W : World) : (Instr.makeSlice T (.int .i64 (l : Int)) (.int .i64 (n : Int))).run Tryz.prog W = .ok (.slice (some ⟨W.heap.size, 0, none⟩) l n) (W.alloc (.cells (bs (zeros n)).toArray 5)) := by
  obtain ⟨i0, hi, hz0, hz1, hz2⟩ := info_parts infoU8
  have h1 := run_make (P := Tryz.prog) W T 5 i0 (.int .u8 0) hT hi hz0 .i64 .i64 (l : Int) (n : Int) (by omega) (by omega) (by rw [hz2]; omega) (by omega)
  have e : madeCells (Value.int .u8 0).cells (((n : Nat) : Int).toNat * i0.size) = (bs (zeros n)).toArray := by
    rw [hz1]
    apply Array.ext
    · simp [madeCells, zeros, bs]
    · intro i h2 h3
      have hv : (Value.int IntKind.u8 0).cells = #[Value.int .u8 0] := rfl
      simp [madeCells, zeros, bs, bv, hv, Nat.mod_one]
  rw [e] at h1
  simpa using h1
theorem Own.made (W : World) (n base : Nat) (hb : base ≤ W.heap.size) (h : n ≤ 1099511627776) : Own (W.alloc (.cells (bs (zeros n)).toArray 5)) base (.slice (some ⟨W.heap.size, 0, none⟩) 0 n) [] :=
  Own.of (World.ownsRow_made W _ n hb (by unfold maxLen; omega) (by simp [bs_length, zeros_len])) rfl rfl

theorem ix3_0 (W : World) (a b c : Int) : (Instr.index 173 (.agg #[.int .u64 a, .int .u64 b, .int .u64 c]) (.int .i64 0)).run Tryz.prog W = .ok (.int .u64 a) W := by kernel_rfl
theorem ix3_1 (W : World) (a b c : Int) : (Instr.index 173 (.agg #[.int .u64 a, .int .u64 b, .int .u64 c]) (.int .i64 1)).run Tryz.prog W = .ok (.int .u64 b) W := by kernel_rfl
theorem ix3_2 (W : World) (a b c : Int) : (Instr.index 173 (.agg #[.int .u64 a, .int .u64 b, .int .u64 c]) (.int .i64 2)).run Tryz.prog W = .ok (.int .u64 c) W := by kernel_rfl

set_option maxRecDepth 100000 in
set_option maxHeartbeats 1000000 in
theorem foot_any (w : World) (i f n : Nat) (hi : i < 18446744073709551616) (hf : f < 18446744073709551616) (hn : n < 18446744073709551616) (ht : Tabs w) :
    Calls Tryz.prog 76 #[.agg #[.int .u64 (i : Int), .int .u64 (f : Int), .int .u64 (n : Int)]] w fun e w' => ∃ v', e = .returned v' ∧ Own w' w.heap.size v' (footB i f n) ∧ Below w.heap.size w w' := by
  have HI := Lib.hid (And.intro hi (And.intro hf hn))
  have HT := Lib.hid ht
  clear hi hf hn ht
  go_enter Tryz.func76, Tryz.ntmps76
  have hmk := mk_bytes 22 Tryz.underlying22 0 28 (by omega) (by omega)
  obtain ⟨Z, hZ⟩ : ∃ Z, (bs (zeros 28)).toArray = Z := ⟨_, rfl⟩
  have HMd : Hid (∀ W : World, Own (W.alloc (.cells Z 5)) W.heap.size (.slice (some ⟨W.heap.size, 0, none⟩) 0 28) []) := Lib.hid (fun W => by rw [← hZ]; exact Own.made W 28 _ (Nat.le_refl _) (by omega))
  rw [hZ] at hmk
  simp only [Int.cast_ofNat_Int] at hmk
  clear hZ
  go_wp2_with fail
  go_loopw [3, 14] (fun b k wr => ∃ m : Nat, m ≤ 3 ∧ k = .int .i64 (m : Int) ∧ Own wr w.heap.size b (preF i f n m) ∧ Below w.heap.size w wr) (fun _ k _ => 3 - (intOf k).toNat)
  case atStart => exact ⟨0, by omega, rfl, by have h := (HMd.out (w.alloc (.cells #[.int .u64 (i : Int), .int .u64 (f : Int), .int .u64 (n : Int)] 136))).more (base' := w.heap.size) (by simp); simpa [preF] using h, ((Below.refl _ _).alloc (Nat.le_refl _) _).alloc (by simp) _⟩
  case round =>
    obtain ⟨m, hm, rfl, hown1, hb1⟩ := hrel
    have HO1 := Lib.hid hown1
    have HB1 := Lib.hid hb1
    have HPl := Lib.hid (preF_len i f n m)
    obtain ⟨q1, c1, rfl, _, _⟩ := hown1.shp
    clear hown1 hb1
    obtain rfl | rfl | rfl | rfl : m = 0 ∨ m = 1 ∨ m = 2 ∨ m = 3 := by omega
    · have hix := fun W => ix3_0 W (i : Int) (f : Int) (n : Int)
      go_wp2_with fail
      refine (low_any wr _ _ i 8 w.heap.size HO1.out HB1.out.size HI.out.1 (by omega) (by have := HPl.out; omega)).mono ?_
      rintro r w2 ⟨v2, rfl, hown2, hon2⟩
      have hb2 := HB1.out.trans (hon2.below HO1.out HB1.out.size)
      go_wp2_with fail
      go_roundw
      case rel => exact ⟨1, by omega, by go_num, by simpa [preF] using hown2, hb2⟩
      case measure => simp [intOf]
    · have hix := fun W => ix3_1 W (i : Int) (f : Int) (n : Int)
      go_wp2_with fail
      refine (low_any wr _ _ f 8 w.heap.size HO1.out HB1.out.size HI.out.2.1 (by omega) (by have := HPl.out; omega)).mono ?_
      rintro r w2 ⟨v2, rfl, hown2, hon2⟩
      have hb2 := HB1.out.trans (hon2.below HO1.out HB1.out.size)
      go_wp2_with fail
      go_roundw
      case rel => exact ⟨2, by omega, by go_num, by simpa [preF] using hown2, hb2⟩
      case measure => simp [intOf]
    · have hix := fun W => ix3_2 W (i : Int) (f : Int) (n : Int)
      go_wp2_with fail
      refine (low_any wr _ _ n 8 w.heap.size HO1.out HB1.out.size HI.out.2.2 (by omega) (by have := HPl.out; omega)).mono ?_
      rintro r w2 ⟨v2, rfl, hown2, hon2⟩
      have hb2 := HB1.out.trans (hon2.below HO1.out HB1.out.size)
      go_wp2_with fail
      go_roundw
      case rel => exact ⟨3, by omega, by go_num, by simpa [preF] using hown2, hb2⟩
      case measure => simp [intOf]
    · have HF : Hid (preF i f n 3 = footL i f n) := Lib.hid (by simp [preF, footL])
      have HRd := Lib.hid (HO1.out.rd (by have := HPl.out; omega))
      have hpl2 := HPl.out
      have hcl := crc_lt (preF i f n 3)
      have hw64 : IntKind.u64.wrap ((crc (preF i f n 3) : Nat) : Int) = ((crc (preF i f n 3) : Nat) : Int) := IntWalk.u64_in _ (by omega)
      go_wp2_with fail
      refine (sum_any _ [preF i f n 3] (wr.heap.size + 1) _ (RdL.one HRd.out (Nat.le_refl _) _) ((HT.out.under HB1.out HT.out.two).under (below_alloc wr _) (HT.out.under HB1.out HT.out.two).two)).mono ?_
      rintro r w2 ⟨rfl, nd, rfl⟩
      rw [show [preF i f n 3].flatten = preF i f n 3 from by simp]
      go_wp2_with fail
      refine (low_any _ _ _ (crc (preF i f n 3)) 4 w.heap.size ((HO1.out.alloc _).drewN nd) (by have := HB1.out.size; simp; omega) (by omega) (by omega) (by omega)).mono ?_
      rintro r w3 ⟨v3, rfl, hown3, hon3⟩
      go_wp2_with fail
      go_ret
      have hb3 := hon3.below (base := w.heap.size) ((HO1.out.alloc _).drewN nd) (by have := HB1.out.size; simp; omega)
      refine ⟨v3, rfl, ?_, (HB1.out.trans (below_drewN ((below_alloc wr _).mono HB1.out.size) nd)).trans hb3⟩
      rw [HF.out, lowB_four] at hown3
      exact hown3
end Go.Proofs.YtagehnclkneolaaGreatDoor

/-
  The walks over sst.filter.bits and sst.filter.add.
-/
namespace Go.Proofs.YtagehnclkneolaaGreatDoor
open Go.RowKit

def u64v (n : Nat) : Value := .int .u64 (n : Int)
def sp4 (s : Nat → Nat) : Nat → Array Value
  | 0 => #[u64v 0, u64v 0, u64v 0, u64v 0]
  | 1 => #[u64v (s 0), u64v 0, u64v 0, u64v 0]
  | 2 => #[u64v (s 0), u64v (s 1), u64v 0, u64v 0]
  | 3 => #[u64v (s 0), u64v (s 1), u64v (s 2), u64v 0]
  | _ => #[u64v (s 0), u64v (s 1), u64v (s 2), u64v (s 3)]
theorem sp4_size (s : Nat → Nat) : ∀ k, (sp4 s k).size = 4
  | 0 => rfl
  | 1 => rfl
  | 2 => rfl
  | 3 => rfl
  | _ + 4 => rfl
theorem sp4_set (s : Nat → Nat) {k : Nat} (h : k < 4) : (sp4 s k).setIfInBounds k (u64v (s k)) = sp4 s (k + 1) := by
  obtain rfl | rfl | rfl | rfl : k = 0 ∨ k = 1 ∨ k = 2 ∨ k = 3 := by omega
  all_goals rfl
theorem sp4_at (s : Nat → Nat) {k : Nat} (h : k < 4) : (sp4 s k)[k]? = some (u64v 0) := by
  obtain rfl | rfl | rfl | rfl : k = 0 ∨ k = 1 ∨ k = 2 ∨ k = 3 := by omega
  all_goals rfl
theorem ix4 (W : World) (ab n : Nat) (h : n < 4) : (Instr.indexAt 125 (.pointer (some ⟨ab, 0, none⟩)) (.int .u64 (n : Int))).run Tryz.prog W = .ok (.pointer (some ⟨ab, n, none⟩)) W := by
  have hl : Tryz.prog.arrayLen 125 = 4 := by simp [Program.arrayLen, Tryz.underlying125]
  have he : Tryz.prog.elem 125 = 31 := by simp [Program.elem, Tryz.underlying125]
  have hs : (Go.sizeOf 31).run Tryz.prog W = .ok 1 W := by kernel_rfl
  have h0 : Tryz.prog.underlying 125 = some (.array (Tryz.prog.arrayLen 125) (Tryz.prog.elem 125)) := by rw [hl, he]; exact Tryz.underlying125
  have h1 := run_indexAt_array (P := Tryz.prog) (w := W) 125 ⟨ab, 0, none⟩ .u64 (n : Int) h0
  rw [hl, if_pos (by omega), he, hs] at h1
  rw [h1]
  simp [Result.andThen, Addr.add]
  try omega
theorem RdL.two {w : World} {B : Nat} {u v : Value} {l m : List UInt8} (h : Rd w B u l) (h' : Rd w B v m) (hB : B ≤ w.heap.size) (t : TypeId) :
    RdL (w.alloc (.cells #[u, v] t)) (w.heap.size + 1) (.slice (some ⟨w.heap.size, 0, none⟩) 2 2) [l, m] := by
  refine ⟨_, _, rfl, by simp, by simp, by omega, fun k l' hl => ?_⟩
  have hk : k < 2 := (List.getElem?_eq_some_iff.1 hl).1
  obtain rfl | rfl : k = 0 ∨ k = 1 := by omega
  · obtain rfl : l = l' := by simpa using hl
    refine ⟨_, _, u, rfl, by omega, ?_, (h.under ((Below.refl w.heap.size w).alloc (Nat.le_refl _) _) hB).more (by omega)⟩
    rw [Nat.zero_add, cell_of_row _ _ _ _ _ _ (heap_alloc_new w (.cells #[u, v] t))]
    rfl
  · obtain rfl : m = l' := by simpa using hl
    refine ⟨_, _, v, rfl, by omega, ?_, (h'.under ((Below.refl w.heap.size w).alloc (Nat.le_refl _) _) hB).more (by omega)⟩
    rw [Nat.zero_add, cell_of_row _ _ _ _ _ _ (heap_alloc_new w (.cells #[u, v] t))]
    rfl
theorem spotK_lt (key : List UInt8) (m j : Nat) (h : 0 < m) : spotK key m j < m := Nat.mod_lt _ h

set_option maxRecDepth 100000 in
set_option maxHeartbeats 1000000 in
theorem bits_any (w : World) (q : Option Addr) (fl c : Nat) (key : List UInt8) (h0 : 0 < fl) (hf : fl ≤ 1099511627776) (hk : key.length ≤ 140737488354000) (ht : Tabs w) :
    Calls Tryz.prog 67 #[.slice q fl c, .string ⟨key.toArray⟩] w fun e w' => e = .returned (.agg (sp4 (spotK key (8 * fl)) 4)) ∧ Below w.heap.size w w' := by
  have HT := Lib.hid ht
  have hcv : ∀ W, (convert 9 22 (.string ⟨key.toArray⟩)).run Tryz.prog W = .ok (.slice (some ⟨W.heap.size, 0, none⟩) key.length (convC W key)) (convW W key) := fun W => conv_run W key
  have hc1 := crc_lt key
  have hc2 := crc_lt (key ++ [1])
  have hw1 : IntKind.u64.wrap ((crc key : Nat) : Int) = ((crc key : Nat) : Int) := IntWalk.u64_in _ (by omega)
  have hw2 : IntKind.u64.wrap ((crc (key ++ [1]) : Nat) : Int) = ((crc (key ++ [1]) : Nat) : Int) := IntWalk.u64_in _ (by omega)
  obtain ⟨X, hX⟩ : ∃ X, w.alloc (.cells #[.int .u64 0, .int .u64 0, .int .u64 0, .int .u64 0] 125) = X := ⟨_, rfl⟩
  have HL := Lib.hid (And.intro h0 (And.intro hf hk))
  have hXb : Below w.heap.size w X := by rw [← hX]; exact below_alloc _ _
  have hXz : X.heap[w.heap.size]? = some (.cells #[.int .u64 0, .int .u64 0, .int .u64 0, .int .u64 0] 125 (0, 0)) := by rw [← hX]; exact heap_alloc_new w _
  have HX := Lib.hid (And.intro hXb hXz)
  have HB1 : Hid (Below w.heap.size w ((convW X key).alloc (.cells #[.slice (some ⟨X.heap.size, 0, none⟩) key.length (convC X key)] 22))) := Lib.hid ((conv_below hXb hXb.size key).alloc (by rw [conv_size]; have := hXb.size; omega) _)
  have HB1x : Hid (Below X.heap.size X ((convW X key).alloc (.cells #[.slice (some ⟨X.heap.size, 0, none⟩) key.length (convC X key)] 22))) := Lib.hid ((conv_below (Below.refl _ _) (Nat.le_refl _) key).alloc (by rw [conv_size]; omega) _)
  have HRL : Hid (RdL ((convW X key).alloc (.cells #[.slice (some ⟨X.heap.size, 0, none⟩) key.length (convC X key)] 22)) ((convW X key).heap.size + 1) (.slice (some ⟨(convW X key).heap.size, 0, none⟩) 1 1) [key]) := Lib.hid (RdL.one (conv_rd X key (by omega)) (by rw [conv_size]; exact Nat.le_refl _) 22)
  clear ht hXb hXz hk
  go_enter Tryz.func67, Tryz.ntmps67
  go_wp2_with fail
  refine (sum_any _ [key] _ _ HRL.out (HT.out.under HB1.out HT.out.two)).mono ?_
  rintro r w1 ⟨rfl, n1, hw1e⟩
  rw [show [key].flatten = key from by simp]
  have HBx1 : Hid (Below X.heap.size X w1) := Lib.hid (by rw [← hw1e]; exact below_drewN HB1x.out n1)
  have HR1 := Lib.hid (conv_rd w1 key (by have := HL.out.2.2; omega))
  clear HB1 HB1x HRL hw1e
  obtain ⟨Y, hY⟩ : ∃ Y, (convW w1 key).alloc (.cells #[.int .u8 1] 5) = Y := ⟨_, rfl⟩
  have hYs : Y.heap.size = w1.heap.size + 2 := by rw [← hY]; simp [conv_size]
  have HYb : Hid (Below w1.heap.size w1 Y) := Lib.hid (by rw [← hY]; exact (conv_below (Below.refl _ _) (Nat.le_refl _) key).alloc (by rw [conv_size]; omega) _)
  have HR2 : Hid (Rd Y Y.heap.size (.slice (some ⟨w1.heap.size, 0, none⟩) key.length (convC w1 key)) key) := Lib.hid (by
    have h := HR1.out.under (below_alloc (convW w1 key) (.cells #[.int .u8 1] 5)) (by rw [conv_size]; exact Nat.le_refl _)
    rw [hY] at h
    exact h.more (by omega))
  have HR3 : Hid (Rd Y Y.heap.size (.slice (some ⟨(convW w1 key).heap.size, 0, none⟩) 1 1) [1]) := Lib.hid (by
    have h := Rd.new (convW w1 key) [1] 5 #[.int .u8 1] rfl (by simp)
    rw [hY] at h
    exact h.more (by rw [conv_size]; omega))
  have HTy : Hid (Tabs Y) := Lib.hid (((HT.out.under HX.out.1 HT.out.two).under HBx1.out (Nat.le_trans HT.out.two HX.out.1.size)).under HYb.out (Nat.le_trans (Nat.le_trans HT.out.two HX.out.1.size) HBx1.out.size))
  go_wp2_with fail
  refine (sum_any _ [key, [1]] (w1.heap.size + 2 + 1) _ (by have h := RdL.two HR2.out HR3.out (Nat.le_refl _) 22; rwa [hYs] at h) (HTy.out.under (below_alloc _ _) HTy.out.two)).mono ?_
  rintro r w2 ⟨rfl, n2, hw2e⟩
  rw [show [key, [1]].flatten = key ++ [1] from by simp]
  have HBx2 : Hid (Below X.heap.size X w2) := Lib.hid (by rw [← hw2e]; exact HBx1.out.trans ((HYb.out.trans ((below_drewN (below_alloc Y _) n2).mono HYb.out.size)).mono HBx1.out.size))
  clear HTy HR1 HR2 HR3 HYb hY hYs hw2e HT
  have hm0 : 0 < 8 * fl := by omega
  have hwl : IntKind.u64.wrap (fl : Int) = (fl : Int) := IntWalk.u64_in _ (by omega)
  have hwm : IntKind.u64.wrap (8 * (fl : Int)) = ((8 * fl : Nat) : Int) := by rw [IntWalk.u64_in _ (by omega)]; omega
  have hmz : (((8 * fl : Nat) : Int) == 0) = false := by simp; omega
  have hsp : ∀ k, spotK key (8 * fl) k = (crc key + k * crc (key ++ [1])) % (8 * fl) := fun k => rfl
  obtain ⟨sp, hspe⟩ : ∃ sp, spotK key (8 * fl) = sp := ⟨_, rfl⟩
  have HSpE := Lib.hid hspe
  rw [hspe] at hsp
  clear hspe
  generalize crc key = a at *
  generalize crc (key ++ [1]) = b at *
  obtain ⟨M, hM⟩ : ∃ M, 8 * fl = M := ⟨_, rfl⟩
  rw [hM] at hwm hmz hsp hm0
  have hM2 : M < 18446744073709551616 := by omega
  go_wp2_with fail
  go_loopw [20] (fun i wr => ∃ k : Nat, k ≤ 4 ∧ i = .int .u64 (k : Int) ∧ wr.heap[w2.heap.size]? = some (.cells (sp4 sp k) 125 (0, 0)) ∧ Below X.heap.size X wr) (fun i _ => 4 - (intOf i).toNat)
  case atStart => exact ⟨0, by omega, rfl, heap_alloc_new w2 _, HBx2.out.alloc HBx2.out.size _⟩
  case round =>
    obtain ⟨k, hk, rfl, hz, hb3⟩ := hrel
    have HZ := Lib.hid hz
    have HB3 := Lib.hid hb3
    have HLs := Lib.hid HBx2.out.size
    by_cases hlt : k < 4
    · have d1 : decide ((k : Int) < 4) = true := decide_eq_true (by omega)
      have f1 := frozen_of (i := k) hz
      have z1 := cell_of (i := k) hz (sp4_at sp hlt)
      have hix := fun W => ix4 W w2.heap.size k hlt
      have hkb : k * b ≤ 3 * b := Nat.mul_le_mul_right _ (by omega)
      have hw3 : IntKind.u64.wrap ((k : Int) * (b : Int)) = ((k * b : Nat) : Int) := by rw [← Int.natCast_mul]; exact IntWalk.u64_in _ (by omega)
      have hw4 : IntKind.u64.wrap ((a : Int) + ((k * b : Nat) : Int)) = ((a + k * b : Nat) : Int) := by rw [← Int.natCast_add]; exact IntWalk.u64_in _ (by omega)
      have hmod : ((a : Int) + (k : Int) * (b : Int)) % (M : Int) = ((sp k : Nat) : Int) := by rw [hsp k, Int.natCast_emod, Int.natCast_add, Int.natCast_mul]
      have HMod := Lib.hid hmod
      clear hz hb3 hmod
      go_wp2_with fail
      refine ⟨⟨k + 1, by omega, by go_num, ?_, HB3.out.setCell HLs.out _⟩, by simp [intOf]; omega⟩
      rw [HMod.out, ← sp4_set sp hlt]
      exact setCell_same HZ.out _
    · obtain rfl : k = 4 := by omega
      have hx := (hb3.block _ (block_lt HX.out.2)).trans HX.out.2
      have hz4 : wr.heap[w2.heap.size]? = some (.cells #[.int .u64 ((sp 0 : Nat) : Int), .int .u64 ((sp 1 : Nat) : Int), .int .u64 ((sp 2 : Nat) : Int), .int .u64 ((sp 3 : Nat) : Int)] 125 (0, 0)) := hz
      have y0 := cell_of (i := 0) hz4 rfl
      have y1 := cell_of (i := 1) hz4 rfl
      have y2 := cell_of (i := 2) hz4 rfl
      have y3 := cell_of (i := 3) hz4 rfl
      have x0 := frozen_of (i := 0) hx
      have x1 := frozen_of (i := 1) hx
      have x2 := frozen_of (i := 2) hx
      have x3 := frozen_of (i := 3) hx
      have u0 := cell_of (i := 0) hx rfl
      have u1 := cell_of (i := 1) hx rfl
      have u2 := cell_of (i := 2) hx rfl
      have u3 := cell_of (i := 3) hx rfl
      have HXx := Lib.hid hx
      have HXo := Lib.hid HX.out.1
      clear hz hz4 hb3 hx hsp
      go_wp2_with fail
      (try simp only [Exit.inBlock, Exit.then])
      have hfr := set4_fr wr w.heap.size (.int .u64 ((sp 0 : Nat) : Int)) (.int .u64 ((sp 1 : Nat) : Int)) (.int .u64 ((sp 2 : Nat) : Int)) (.int .u64 ((sp 3 : Nat) : Int)) (fun k => w.heap.size ≤ k) (Nat.le_refl _)
      have hbz := (HXo.out.trans (HB3.out.mono HXo.out.size)).trans (hfr.below (Nat.le_trans HXo.out.size HB3.out.size) fun k hk hle => by omega)
      refine bodyPost_ret (v := .agg #[.int .u64 ((sp 0 : Nat) : Int), .int .u64 ((sp 1 : Nat) : Int), .int .u64 ((sp 2 : Nat) : Int), .int .u64 ((sp 3 : Nat) : Int)]) (results_cell_row rfl _ _ w.heap.size _ _ (0, 0) _ rfl (set4_heap HXx.out _ _ _ _) Tryz.underlying125 rfl (by kernel_rfl)) rfl ⟨by rw [HSpE.out]; rfl, hbz⟩
end Go.Proofs.YtagehnclkneolaaGreatDoor

/-
  The walk over sst.filter.add.
-/
namespace Go.Proofs.YtagehnclkneolaaGreatDoor
open Go.RowKit

theorem Own.setAt {w : World} {base g n cap i : Nat} {l : List UInt8} (h : Own w base (.slice (some ⟨g, 0, none⟩) n cap) l) (x : UInt8) :
    Own (w.setCell ⟨g, i, none⟩ (.int .u8 (x.toNat : Int))) base (.slice (some ⟨g, 0, none⟩) n cap) (l.set i x) := by
  obtain ⟨h1, h2⟩ := h
  rcases h2 with ⟨e, _⟩ | ⟨g', cap', cur, e, hb, hg, hn, hm, hs, ht⟩
  · cases e
  · obtain ⟨rfl, rfl, rfl⟩ : g = g' ∧ n = l.length ∧ cap = cap' := by simpa using e
    refine ⟨by simp [bs], .inr ⟨g, cap, cur.setIfInBounds i (.int .u8 (x.toNat : Int)), by simp, hb, setCell_same hg _, by simpa using hn, hm, by simpa using hs, ?_⟩⟩
    have e2 : bs (l.set i x) = (bs l).set i (bv x) := by simp [bs, List.map_set]
    rw [e2, ← ht]
    simp [List.take_set, bv]
theorem Own.cellAt {w : World} {base g n cap i : Nat} {l : List UInt8} (h : Own w base (.slice (some ⟨g, 0, none⟩) n cap) l) (hi : i < l.length) :
    w.cell? ⟨g, i, none⟩ = some (.int .u8 ((l.getD i 0).toNat : Int)) ∧ w.frozen? ⟨g, i, none⟩ = false := by
  obtain ⟨h1, h2⟩ := h
  rcases h2 with ⟨e, _⟩ | ⟨g', cap', cur, e, hb, hg, hn, hm, hs, ht⟩
  · cases e
  · obtain ⟨rfl, rfl, rfl⟩ : g = g' ∧ n = l.length ∧ cap = cap' := by simpa using e
    refine ⟨cell_of hg ?_, frozen_of hg⟩
    have e3 : (cur.toList.take (l.length * 1))[i]? = some (.int .u8 ((l.getD i 0).toNat : Int)) := by rw [ht]; exact bs_at l i hi
    rw [List.getElem?_take] at e3
    simpa [hi] using e3
theorem iv4_0 (W : World) (a b c d : Int) : (Instr.index 125 (.agg #[.int .u64 a, .int .u64 b, .int .u64 c, .int .u64 d]) (.int .i64 0)).run Tryz.prog W = .ok (.int .u64 a) W := by kernel_rfl
theorem iv4_1 (W : World) (a b c d : Int) : (Instr.index 125 (.agg #[.int .u64 a, .int .u64 b, .int .u64 c, .int .u64 d]) (.int .i64 1)).run Tryz.prog W = .ok (.int .u64 b) W := by kernel_rfl
theorem iv4_2 (W : World) (a b c d : Int) : (Instr.index 125 (.agg #[.int .u64 a, .int .u64 b, .int .u64 c, .int .u64 d]) (.int .i64 2)).run Tryz.prog W = .ok (.int .u64 c) W := by kernel_rfl
theorem iv4_3 (W : World) (a b c d : Int) : (Instr.index 125 (.agg #[.int .u64 a, .int .u64 b, .int .u64 c, .int .u64 d]) (.int .i64 3)).run Tryz.prog W = .ok (.int .u64 d) W := by kernel_rfl
theorem iv4 (W : World) (s : Nat → Nat) (k : Nat) (h : k < 4) : (Instr.index 125 (.agg (sp4 s 4)) (.int .i64 (k : Int))).run Tryz.prog W = .ok (.int .u64 ((s k : Nat) : Int)) W := by
  obtain rfl | rfl | rfl | rfl : k = 0 ∨ k = 1 ∨ k = 2 ∨ k = 3 := by omega
  · exact iv4_0 W _ _ _ _
  · exact iv4_1 W _ _ _ _
  · exact iv4_2 W _ _ _ _
  · exact iv4_3 W _ _ _ _

theorem or_bit (x : UInt8) (j : Nat) (hj : j < 8) : bits .or .u8 (x.toNat : Int) ((2 : Int) ^ j % 256) = ((x ||| (1 <<< UInt8.ofNat j)).toNat : Int) := by
  have hx := x.toNat_lt
  rw [UInt8.toNat_or]
  obtain rfl | rfl | rfl | rfl | rfl | rfl | rfl | rfl : j = 0 ∨ j = 1 ∨ j = 2 ∨ j = 3 ∨ j = 4 ∨ j = 5 ∨ j = 6 ∨ j = 7 := by omega
  · exact u8_or_nat x.toNat 1 hx (by decide)
  · exact u8_or_nat x.toNat 2 hx (by decide)
  · exact u8_or_nat x.toNat 4 hx (by decide)
  · exact u8_or_nat x.toNat 8 hx (by decide)
  · exact u8_or_nat x.toNat 16 hx (by decide)
  · exact u8_or_nat x.toNat 32 hx (by decide)
  · exact u8_or_nat x.toNat 64 hx (by decide)
  · exact u8_or_nat x.toNat 128 hx (by decide)

set_option maxRecDepth 100000 in
set_option maxHeartbeats 1000000 in
theorem add_any (w : World) (base g n cap : Nat) (l key : List UInt8) (hown : Own w base (.slice (some ⟨g, 0, none⟩) n cap) l) (h0 : 0 < l.length) (hn : n = l.length) (hf : l.length ≤ 1099511627776) (hk : key.length ≤ 140737488354000) (ht : Tabs w) :
    Calls Tryz.prog 97 #[.slice (some ⟨g, 0, none⟩) n cap, .string ⟨key.toArray⟩] w fun e w' => e = .returned (.tuple #[]) ∧ Own w' base (.slice (some ⟨g, 0, none⟩) n cap) (addK l key) ∧ Fr (fun k => k = g) w w' := by
  subst hn
  have HO := Lib.hid hown
  have HC := Lib.hid (bits_any w (some ⟨g, 0, none⟩) l.length cap key h0 hf hk ht)
  have hsl : ∀ k, spotK key (8 * l.length) k < 8 * l.length := fun k => spotK_lt key _ k (by omega)
  have HSl := Lib.hid hsl
  clear hown ht hk hsl
  obtain ⟨sp, hsp⟩ : ∃ sp, spotK key (8 * l.length) = sp := ⟨_, rfl⟩
  have HSp := Lib.hid hsp
  rw [hsp] at HC HSl
  clear hsp
  go_enter Tryz.func97, Tryz.ntmps97
  go_wp2_with fail
  refine HC.out.mono ?_
  rintro r w1 ⟨rfl, hb1⟩
  have hix := fun (k : Nat) (hk : k < 4) (W : World) => iv4 W sp k hk
  have HIx := Lib.hid hix
  have HO1 := Lib.hid (HO.out.after hb1)
  have HF1 : Hid (Fr (fun k => k = g) w w1) := Lib.hid (Fr.of_new hb1 _)
  clear hb1 hix
  generalize sp4 sp 4 = arr at *
  go_wp2_with fail
  go_loopw [9] (fun i wr => ∃ k : Nat, k ≤ 4 ∧ i = .int .i64 (k : Int) ∧ Own wr base (.slice (some ⟨g, 0, none⟩) l.length cap) (setK l key k) ∧ Fr (fun k => k = g) w wr) (fun i _ => 4 - (intOf i).toNat)
  case atStart => exact ⟨0, by omega, rfl, HO1.out, HF1.out⟩
  case round =>
    obtain ⟨k, hk, rfl, hown2, hf2⟩ := hrel
    have HO2 := Lib.hid hown2
    have HF2 := Lib.hid hf2
    have hlen := setK_len l key k
    by_cases hlt : k < 4
    · have d1 : decide ((k : Int) < 4) = true := decide_eq_true (by omega)
      have hix := HIx.out k hlt
      have hs1 := HSl.out k
      have HSet : Hid (setK l key (k + 1) = setB (setK l key k) (sp k)) := Lib.hid (by rw [← HSp.out]; rfl)
      obtain ⟨z1, f1⟩ := hown2.cellAt (i := sp k / 8) (by omega)
      generalize sp k = s at *
      generalize setK l key k = cur at *
      clear hown2 hf2
      have hi1 : ((s : Int) / 8) < (l.length : Int) := by omega
      have hi2 : (0 : Int) ≤ (s : Int) / 8 := by omega
      have hi3 : ((s : Int) / 8).toNat = s / 8 := by omega
      have HOr := Lib.hid (or_bit (cur.getD (s / 8) 0) (s % 8) (by omega))
      go_wp2_with fail
      refine ⟨⟨k + 1, by omega, by go_num, ?_, HF2.out.setCell_ rfl _⟩, by simp [intOf]; omega⟩
      rw [HSet.out]
      have h5 := HO2.out.setAt (i := s / 8) (cur.getD (s / 8) 0 ||| (1 <<< UInt8.ofNat (s % 8)))
      rw [← HOr.out] at h5
      simpa [setB] using h5
    · obtain rfl : k = 4 := by omega
      go_wp2_with fail
      go_end0
      exact ⟨rfl, HO2.out, HF2.out⟩
end Go.Proofs.YtagehnclkneolaaGreatDoor

/-
  The walk over sst.filterOf.
-/
namespace Go.Proofs.YtagehnclkneolaaGreatDoor
open Go.RowKit

theorem filF_pos (es : List Ent) (f : List UInt8) (k : Nat) (h : 8 ≤ f.length) : 0 < (filF es f k).length := by rw [filF_len]; omega

theorem Own.zeros (W : World) (n base : Nat) (hb : base ≤ W.heap.size) (h : n ≤ 1099511627776) : Own (W.alloc (.cells (bs (Go.Proofs.YtagehnclkneolaaGreatDoor.zeros n)).toArray 5)) base (.slice (some ⟨W.heap.size, 0, none⟩) n n) (Go.Proofs.YtagehnclkneolaaGreatDoor.zeros n) := by
  have hz := zeros_len n
  refine ⟨by rw [bs_length, Nat.mul_one], .inr ⟨W.heap.size, n, _, by rw [hz], hb, heap_alloc_new W _, by omega, by unfold maxLen; omega, by simp [bs_length, hz], ?_⟩⟩
  exact List.take_of_length_le (by simp [bs_length, hz])
theorem wgt_len : ∀ l : List Ent, 31 * l.length ≤ wgt l
  | [] => by simp [wgt]
  | x :: r => by
    have := wgt_len r
    simp only [wgt, List.length_cons]
    omega

set_option maxRecDepth 100000 in
set_option maxHeartbeats 1000000 in
theorem filter_any (w : World) (F : Nat → Prop) (p : Option Addr) (cap : Nat) (es : List Ent) (h : En w F (.slice p es.length cap) es) (hs : ShL es) (ht : Tabs w) :
    Calls Tryz.prog 75 #[.slice p es.length cap] w fun x w' => ∃ u, x = .returned u ∧ Own w' w.heap.size u (filB es) ∧ Below w.heap.size w w' := by
  obtain ⟨_, _, he, hlc, hl47, hcm, _⟩ := h.form
  simp only [Value.slice.injEq] at he
  obtain ⟨rfl, _, rfl⟩ := he
  have HE := Lib.hid h
  have HS := Lib.hid hs
  have HT := Lib.hid ht
  have hl40 : 31 * es.length ≤ 1099511627776 := Nat.le_trans (wgt_len es) hs.2
  clear h hs ht
  go_enter Tryz.func75, Tryz.ntmps75
  go_wp2_with fail
  go_loopw [3, 10] (fun c i wr => ∃ k : Nat, k ≤ es.length ∧ i = .int .i64 (k : Int) ∧ c = .int .i64 (cntK es k : Int) ∧ Below w.heap.size w wr) (fun _ i _ => es.length - (intOf i).toNat)
  case atStart => exact ⟨0, by omega, rfl, rfl, Below.refl _ _⟩
  case round =>
    obtain ⟨k, hk, rfl, rfl, hb⟩ := hrel
    have HB := Lib.hid hb
    have hc := cntK_le es k
    by_cases hlt : k < es.length
    · have d1 : decide ((k : Int) < (es.length : Int)) = true := decide_eq_true (by omega)
      have HC := Lib.hid (fok_any wr F p cap es k (HE.out.below hb) hlt)
      have HCn : Hid (cntK es (k + 1) = cntK es k + if fstK es k = true then 1 else 0) := Lib.hid rfl
      clear hb
      generalize cntK es k = c at *
      cases hf : fstK es k
      all_goals
        rw [hf] at HC HCn
        clear hf
        go_wp2_with fail
        refine HC.out.mono ?_
        rintro r w1 ⟨rfl, hb1⟩
        have HB1 := Lib.hid (HB.out.trans (hb1.mono HB.out.size))
        clear hb1
        go_wp2_with fail
        refine ⟨⟨k + 1, by omega, by go_num, by rw [HCn.out]; go_num, HB1.out⟩, by simp [intOf]; omega⟩
    · obtain rfl : k = es.length := by omega
      have HFB : Hid (filB es = filF es (zeros (filN (cntK es es.length))) es.length) := Lib.hid rfl
      have hcb : 31 * cntK es es.length ≤ 1099511627776 := by omega
      generalize cntK es es.length = c at *
      obtain ⟨N, hN⟩ : ∃ N, filN c = N := ⟨_, rfl⟩
      have hN8 : 8 ≤ N := by rw [← hN]; exact filN_pos c
      have hNb : N ≤ 1099511627776 := by rw [← hN]; unfold filN; omega
      have hmax : max ((10 * (c : Int) + 7) / 8) 8 = (N : Int) := by rw [← hN]; unfold filN; omega
      have hw1 : IntKind.i64.wrap (10 * (c : Int)) = 10 * (c : Int) := IntWalk.i64_in _ (by omega)
      have hw2 : IntKind.i64.wrap (10 * (c : Int) + 7) = 10 * (c : Int) + 7 := IntWalk.i64_in _ (by omega)
      rw [hN] at HFB
      clear hb hN
      have hmk := mk_bytes 80 Tryz.underlying80 N N (Nat.le_refl _) hNb wr
      have hown0 := Own.zeros wr N w.heap.size HB.out.size hNb
      have hZs := zeros_len N
      generalize zeros N = Z at *
      obtain ⟨ZC, hZC⟩ : ∃ ZC, (bs Z).toArray = ZC := ⟨_, rfl⟩
      rw [hZC] at hmk hown0
      have HO0 := Lib.hid hown0
      clear hown0 hZC
      go_wp2_with fail
      go_loopw [27] (fun i wx => ∃ k : Nat, k ≤ es.length ∧ i = .int .i64 (k : Int) ∧ Own wx w.heap.size (.slice (some ⟨wr.heap.size, 0, none⟩) N N) (filF es Z k) ∧ Below w.heap.size w wx) (fun i _ => es.length - (intOf i).toNat)
      case atStart => exact ⟨0, by omega, rfl, HO0.out, HB.out.alloc HB.out.size _⟩
      case round =>
        obtain ⟨k, hk, rfl, hown1, hb1⟩ := hrel
        have HO1 := Lib.hid hown1
        have HB1 := Lib.hid hb1
        have HLb := Lib.hid (Own.heap hown1 rfl)
        clear hown1
        by_cases hlt : k < es.length
        · have d1 : decide ((k : Int) < (es.length : Int)) = true := decide_eq_true (by omega)
          obtain ⟨b1, off1, q2, c2, rfl, hbl, _, hV1, e0, e1, e2, e3⟩ := (HE.out.below hb1).at_ (List.getElem?_eq_getElem hlt)
          have HEw := Lib.hid (HE.out.below hb1)
          have HFk : Hid (filF es Z (k + 1) = if fstK es k = true then addK (filF es Z k) es[k].key else filF es Z k) := Lib.hid (by simp only [filF, List.getElem?_eq_getElem hlt]; rfl)
          have HKl := Lib.hid (HS.out.small (List.getElem_mem hlt))
          have hfl : (filF es Z k).length = N := by rw [filF_len, hZs]
          generalize filF es Z k = fk at *
          generalize es[k] = x at *
          clear hb1 hV1
          have HTw := Lib.hid (HT.out.under HB1.out HT.out.two)
          have HC := Lib.hid (fok_any (wr.alloc (.cells #[.string ⟨x.key.toArray⟩, .int .u64 (x.seq : Int), .bool x.gone, .slice q2 x.val.length c2] 37)) F _ cap es k (HEw.out.below (below_alloc wr _)) hlt)
          have hz := heap_alloc_new wr (.cells #[.string ⟨x.key.toArray⟩, .int .u64 (x.seq : Int), .bool x.gone, .slice q2 x.val.length c2] 37)
          have HZ := Lib.hid hz
          have HO2 := Lib.hid (HO1.out.alloc (.cells #[.string ⟨x.key.toArray⟩, .int .u64 (x.seq : Int), .bool x.gone, .slice q2 x.val.length c2] 37))
          have HB2 := Lib.hid (HB1.out.alloc HB1.out.size (.cells #[.string ⟨x.key.toArray⟩, .int .u64 (x.seq : Int), .bool x.gone, .slice q2 x.val.length c2] 37))
          clear hz
          obtain ⟨bb, hbb⟩ : ∃ bb, fstK es k = bb := ⟨_, rfl⟩
          rw [hbb] at HFk HC
          clear hbb
          cases bb
          · go_wp2_with fail
            refine HC.out.mono ?_
            rintro r w1 ⟨rfl, hb2⟩
            have HB3 := Lib.hid (HB2.out.trans (hb2.mono HB2.out.size))
            have HO3 := Lib.hid (HO2.out.after hb2)
            clear hb2
            go_wp2_with fail
            exact ⟨⟨k + 1, by omega, by go_num, by rw [HFk.out]; exact HO3.out, HB3.out⟩, by simp [intOf]; omega⟩
          · go_wp2_with fail
            refine HC.out.mono ?_
            rintro r w1 ⟨rfl, hb2⟩
            have HB3 := Lib.hid (HB2.out.trans (hb2.mono HB2.out.size))
            have HO3 := Lib.hid (HO2.out.after hb2)
            have hz1 := (hb2.block _ (block_lt HZ.out)).trans HZ.out
            have y0 := cell_of (i := 0) hz1 rfl
            have HA := Lib.hid (add_any w1 w.heap.size _ N N fk x.key HO3.out (by omega) hfl.symm (by omega) (by have := HKl.out; omega) (HT.out.under HB3.out HT.out.two))
            clear hb2 hz1
            go_wp2_with fail
            refine HA.out.mono ?_
            rintro r w2 ⟨rfl, hown2, hfr2⟩
            have HO4 := Lib.hid hown2
            have HB4 := Lib.hid (HB3.out.trans (hfr2.below HB3.out.size fun j hj e => Nat.not_le_of_lt hj (e ▸ HO3.out.block _ rfl)))
            clear hown2 hfr2
            go_wp2_with fail
            exact ⟨⟨k + 1, by omega, by go_num, by rw [HFk.out]; exact HO4.out, HB4.out⟩, by simp [intOf]; omega⟩
        · obtain rfl : k = es.length := by omega
          clear hb1
          go_wp2_with fail
          go_ret
          exact ⟨_, rfl, by rw [HFB.out]; exact HO1.out, HB1.out⟩
end Go.Proofs.YtagehnclkneolaaGreatDoor
