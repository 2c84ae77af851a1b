import Derived.Test.YtagehnclkneolaaGreatDoorGSc
import Derived.ArgAppend

/-
  The reference's Four and Frame, told by the one block that may have changed; the walk over glacierref7.eight.
-/
namespace Go.Proofs.YtagehnclkneolaaGreatDoor
open Go.RowKit

set_option maxHeartbeats 400000 in
theorem refFour_only (v : Value) (l : List UInt8) (s base : Nat) (w : World) (hs : s < 4294967296) (hown : Own w base v l) (hbase : base ≤ w.heap.size) (hlen : l.length ≤ 140737488355300) :
    Calls Tryz.prog 62 #[v, .int .u32 (s : Int)] w fun e w' => ∃ v', e = .returned v' ∧ Own w' base v' (l ++ four s) ∧ Only w v w' v' := by
  go_enter Tryz.func62, Tryz.ntmps62
  go_wp2_with (at_builtin; refine wpList_append_rd_at rfl _ _ rfl base (w.heap.size + 1) _ _ _ (four s) rfl (hown.alloc _) rfl (Rd.new w (four s) _ _ (four_cells s hs) (by simp [four])) (by simp [four]; omega) (by simp; omega) ?_; intro v1 w1 hown2 hg2 hat2)
  go_ret
  exact ⟨v1, rfl, hown2, ((Only.refl w v).alloc _).step hg2 hat2⟩

set_option maxHeartbeats 400000 in
theorem refFrame_only (v u : Value) (l m : List UInt8) (base : Nat) (F : Nat → Prop) (w : World) (hown : Own w base v l) (hu : By w F u m) (hne : ∀ k, v.ownBlock = some k → ¬ F k) (hF : ∀ k, F k → k < w.heap.size) (hbase : base ≤ w.heap.size) (hlen : l.length + m.length ≤ 140737488355000) :
    Calls Tryz.prog 32 #[v, u] w fun e w' => ∃ v', e = .returned v' ∧ Own w' base v' (l ++ frame m) ∧ Only w v w' v' := by
  have hnl := num_len10 m.length (by omega)
  have HU := Lib.hid hu
  have HV : Hid (∀ V x, Only w v V x → By V F u m ∧ ∀ k, x.ownBlock = some k → ¬ F k) := Lib.hid (fun V x hV => ⟨hV.by_ hu hne, fun k hk hFk => by
    rcases hV.2 with h1 | h1
    · exact hne k (by rw [← h1]; exact hk) hFk
    · have h2 := h1 k hk
      have h3 := hF k hFk
      omega⟩)
  obtain ⟨p, cap, rfl, hlc, hl47, hcm, hat⟩ := hu.form
  clear hu hat
  go_enter Tryz.func32, Tryz.ntmps32
  go_wp2_with fail
  refine (refNumber_only v l m.length base w (by omega) hown hbase (by omega)).mono ?_
  rintro e w1 ⟨v1, rfl, hown1, hb1⟩
  have HN1 := Lib.hid hb1
  have hsz := hb1.1.size
  clear hown hb1
  go_wp2_with fail
  refine (refSum_any _ m w1.heap.size w1 (HV.out _ _ HN1.out).1.rd).mono ?_
  rintro e w1' ⟨rfl, rfl⟩
  go_wp2_with fail
  refine (refFour_only v1 _ (crc m) base w1 (crc_lt m) hown1 (by omega) (by simp only [List.length_append]; omega)).mono ?_
  rintro e w2 ⟨v2, rfl, hown2, hb2⟩
  have HN2 := Lib.hid (HN1.out.trans hb2)
  have hsz2 := hb2.1.size
  clear hown1 hb2
  go_wp2_with (at_builtin; refine wpList_append_rd_at rfl _ _ rfl base w2.heap.size _ _ _ m rfl hown2 rfl (HV.out _ _ HN2.out).1.rd (by simp only [List.length_append, four_length]; omega) (by omega) ?_; intro v3 w3 hown3 hg3 hat3)
  go_ret
  refine ⟨v3, rfl, ?_, HN2.out.step hg3 hat3⟩
  unfold frame
  rw [← List.append_assoc, ← List.append_assoc]
  exact hown3

set_option maxRecDepth 100000 in
set_option maxHeartbeats 1000000 in
theorem eight_any (v : Value) (l : List UInt8) (x base : Nat) (w : World) (hown : Own w base v l) (hbase : base ≤ w.heap.size) (hx : x < 9223372036854775808) (hl : l.length ≤ 140737488354000) :
    Calls Tryz.prog 63 #[v, .int .i64 (x : Int)] w fun e w' => ∃ v', e = .returned v' ∧ Own w' base v' (l ++ lowB 8 x) ∧ Only w v w' v' := by
  have HO := Lib.hid hown
  have HX := Lib.hid hx
  have hwx : IntKind.u64.wrap (x : Int) = (x : Int) := IntWalk.u64_in _ (by omega)
  clear hown hx
  go_enter Tryz.func63, Tryz.ntmps63
  go_wp2_with fail
  go_loopw [0, 5] (fun b i wr => ∃ k : Nat, k ≤ 8 ∧ i = .int .i64 (k : Int) ∧ Own wr base b (l ++ lowB k x) ∧ Only w v wr b) (fun _ i _ => 8 - (intOf i).toNat)
  case atStart => exact ⟨0, by omega, rfl, by simpa [lowB] using HO.out, Only.refl _ _⟩
  case round =>
    obtain ⟨k, hk, rfl, hown1, hon1⟩ := hrel
    have HO1 := Lib.hid hown1
    have HN1 := Lib.hid hon1
    have hsz := hon1.1.size
    have HSn := Lib.hid (lowB_snoc k x)
    have hll := lowB_len k x
    clear hown1 hon1
    obtain rfl | rfl | rfl | rfl | rfl | rfl | rfl | rfl | rfl : k = 0 ∨ k = 1 ∨ k = 2 ∨ k = 3 ∨ k = 4 ∨ k = 5 ∨ k = 6 ∨ k = 7 ∨ k = 8 := by omega
    · obtain ⟨c, hc, HcE⟩ : ∃ c : UInt8, (x : Int) % 256 = (c.toNat : Int) ∧ Hid (UInt8.ofNat (x / 256 ^ 0 % 256) = c) := ⟨_, by rw [toNat_ofC _ (by omega)]; simp, Lib.hid rfl⟩
      go_wp2_with (at_builtin; refine wpList_append_rd_at rfl _ _ rfl base (wr.heap.size + 1) _ _ _ [c] rfl (HO1.out.alloc _) rfl (Rd.new wr [c] _ _ rfl (by simp)) (by simp; omega) (by simp; omega) ?_; intro v1 w1 hown2 hg2 hat2)
      have HS := Lib.hid ((HN1.out.alloc (.cells #[.int .u8 (c.toNat : Int)] 5)).step hg2 hat2)
      clear hg2 hat2
      refine ⟨⟨1, by omega, by go_num, ?_, HS.out⟩, by simp [intOf]⟩
      rw [HSn.out, HcE.out, ← List.append_assoc]
      exact hown2
    · obtain ⟨c, hc, HcE⟩ : ∃ c : UInt8, (x : Int) / 256 % 256 = (c.toNat : Int) ∧ Hid (UInt8.ofNat (x / 256 ^ 1 % 256) = c) := ⟨_, by rw [toNat_ofC _ (by omega)]; rw [show (256 : Nat) ^ 1 = 256 from rfl]; omega, Lib.hid rfl⟩
      go_wp2_with (at_builtin; refine wpList_append_rd_at rfl _ _ rfl base (wr.heap.size + 1) _ _ _ [c] rfl (HO1.out.alloc _) rfl (Rd.new wr [c] _ _ rfl (by simp)) (by simp; omega) (by simp; omega) ?_; intro v1 w1 hown2 hg2 hat2)
      have HS := Lib.hid ((HN1.out.alloc (.cells #[.int .u8 (c.toNat : Int)] 5)).step hg2 hat2)
      clear hg2 hat2
      refine ⟨⟨2, by omega, by go_num, ?_, HS.out⟩, by simp [intOf]⟩
      rw [HSn.out, HcE.out, ← List.append_assoc]
      exact hown2
    · obtain ⟨c, hc, HcE⟩ : ∃ c : UInt8, (x : Int) / 65536 % 256 = (c.toNat : Int) ∧ Hid (UInt8.ofNat (x / 256 ^ 2 % 256) = c) := ⟨_, by rw [toNat_ofC _ (by omega)]; rw [show (256 : Nat) ^ 2 = 65536 from rfl]; omega, Lib.hid rfl⟩
      go_wp2_with (at_builtin; refine wpList_append_rd_at rfl _ _ rfl base (wr.heap.size + 1) _ _ _ [c] rfl (HO1.out.alloc _) rfl (Rd.new wr [c] _ _ rfl (by simp)) (by simp; omega) (by simp; omega) ?_; intro v1 w1 hown2 hg2 hat2)
      have HS := Lib.hid ((HN1.out.alloc (.cells #[.int .u8 (c.toNat : Int)] 5)).step hg2 hat2)
      clear hg2 hat2
      refine ⟨⟨3, by omega, by go_num, ?_, HS.out⟩, by simp [intOf]⟩
      rw [HSn.out, HcE.out, ← List.append_assoc]
      exact hown2
    · obtain ⟨c, hc, HcE⟩ : ∃ c : UInt8, (x : Int) / 16777216 % 256 = (c.toNat : Int) ∧ Hid (UInt8.ofNat (x / 256 ^ 3 % 256) = c) := ⟨_, by rw [toNat_ofC _ (by omega)]; rw [show (256 : Nat) ^ 3 = 16777216 from rfl]; omega, Lib.hid rfl⟩
      go_wp2_with (at_builtin; refine wpList_append_rd_at rfl _ _ rfl base (wr.heap.size + 1) _ _ _ [c] rfl (HO1.out.alloc _) rfl (Rd.new wr [c] _ _ rfl (by simp)) (by simp; omega) (by simp; omega) ?_; intro v1 w1 hown2 hg2 hat2)
      have HS := Lib.hid ((HN1.out.alloc (.cells #[.int .u8 (c.toNat : Int)] 5)).step hg2 hat2)
      clear hg2 hat2
      refine ⟨⟨4, by omega, by go_num, ?_, HS.out⟩, by simp [intOf]⟩
      rw [HSn.out, HcE.out, ← List.append_assoc]
      exact hown2
    · obtain ⟨c, hc, HcE⟩ : ∃ c : UInt8, (x : Int) / 4294967296 % 256 = (c.toNat : Int) ∧ Hid (UInt8.ofNat (x / 256 ^ 4 % 256) = c) := ⟨_, by rw [toNat_ofC _ (by omega)]; rw [show (256 : Nat) ^ 4 = 4294967296 from rfl]; omega, Lib.hid rfl⟩
      go_wp2_with (at_builtin; refine wpList_append_rd_at rfl _ _ rfl base (wr.heap.size + 1) _ _ _ [c] rfl (HO1.out.alloc _) rfl (Rd.new wr [c] _ _ rfl (by simp)) (by simp; omega) (by simp; omega) ?_; intro v1 w1 hown2 hg2 hat2)
      have HS := Lib.hid ((HN1.out.alloc (.cells #[.int .u8 (c.toNat : Int)] 5)).step hg2 hat2)
      clear hg2 hat2
      refine ⟨⟨5, by omega, by go_num, ?_, HS.out⟩, by simp [intOf]⟩
      rw [HSn.out, HcE.out, ← List.append_assoc]
      exact hown2
    · obtain ⟨c, hc, HcE⟩ : ∃ c : UInt8, (x : Int) / 1099511627776 % 256 = (c.toNat : Int) ∧ Hid (UInt8.ofNat (x / 256 ^ 5 % 256) = c) := ⟨_, by rw [toNat_ofC _ (by omega)]; rw [show (256 : Nat) ^ 5 = 1099511627776 from rfl]; omega, Lib.hid rfl⟩
      go_wp2_with (at_builtin; refine wpList_append_rd_at rfl _ _ rfl base (wr.heap.size + 1) _ _ _ [c] rfl (HO1.out.alloc _) rfl (Rd.new wr [c] _ _ rfl (by simp)) (by simp; omega) (by simp; omega) ?_; intro v1 w1 hown2 hg2 hat2)
      have HS := Lib.hid ((HN1.out.alloc (.cells #[.int .u8 (c.toNat : Int)] 5)).step hg2 hat2)
      clear hg2 hat2
      refine ⟨⟨6, by omega, by go_num, ?_, HS.out⟩, by simp [intOf]⟩
      rw [HSn.out, HcE.out, ← List.append_assoc]
      exact hown2
    · obtain ⟨c, hc, HcE⟩ : ∃ c : UInt8, (x : Int) / 281474976710656 % 256 = (c.toNat : Int) ∧ Hid (UInt8.ofNat (x / 256 ^ 6 % 256) = c) := ⟨_, by rw [toNat_ofC _ (by omega)]; rw [show (256 : Nat) ^ 6 = 281474976710656 from rfl]; omega, Lib.hid rfl⟩
      go_wp2_with (at_builtin; refine wpList_append_rd_at rfl _ _ rfl base (wr.heap.size + 1) _ _ _ [c] rfl (HO1.out.alloc _) rfl (Rd.new wr [c] _ _ rfl (by simp)) (by simp; omega) (by simp; omega) ?_; intro v1 w1 hown2 hg2 hat2)
      have HS := Lib.hid ((HN1.out.alloc (.cells #[.int .u8 (c.toNat : Int)] 5)).step hg2 hat2)
      clear hg2 hat2
      refine ⟨⟨7, by omega, by go_num, ?_, HS.out⟩, by simp [intOf]⟩
      rw [HSn.out, HcE.out, ← List.append_assoc]
      exact hown2
    · obtain ⟨c, hc, HcE⟩ : ∃ c : UInt8, (x : Int) / 72057594037927936 % 256 = (c.toNat : Int) ∧ Hid (UInt8.ofNat (x / 256 ^ 7 % 256) = c) := ⟨_, by rw [toNat_ofC _ (by omega)]; rw [show (256 : Nat) ^ 7 = 72057594037927936 from rfl]; omega, Lib.hid rfl⟩
      go_wp2_with (at_builtin; refine wpList_append_rd_at rfl _ _ rfl base (wr.heap.size + 1) _ _ _ [c] rfl (HO1.out.alloc _) rfl (Rd.new wr [c] _ _ rfl (by simp)) (by simp; omega) (by simp; omega) ?_; intro v1 w1 hown2 hg2 hat2)
      have HS := Lib.hid ((HN1.out.alloc (.cells #[.int .u8 (c.toNat : Int)] 5)).step hg2 hat2)
      clear hg2 hat2
      refine ⟨⟨8, by omega, by go_num, ?_, HS.out⟩, by simp [intOf]⟩
      rw [HSn.out, HcE.out, ← List.append_assoc]
      exact hown2
    · go_wp2_with fail
      go_ret
      exact ⟨_, rfl, HO1.out, HN1.out⟩
end Go.Proofs.YtagehnclkneolaaGreatDoor

/-
  The walk over glacierref7.bits.
-/
namespace Go.Proofs.YtagehnclkneolaaGreatDoor
open Go.RowKit

set_option maxRecDepth 100000 in
set_option maxHeartbeats 1000000 in
theorem refBits_any (w : World) (n : Nat) (hn : n ≤ 1099511627776) :
    Calls Tryz.prog 83 #[.int .i64 (n : Int)] w fun e w' => e = .returned (.int .i64 ((8 * filN n : Nat) : Int)) ∧ w = w' := by
  have hw1 : IntKind.i64.wrap (10 * (n : Int)) = ((10 * n : Nat) : Int) := by rw [IntWalk.i64_in _ (by omega)]; omega
  obtain ⟨M, hM⟩ : ∃ M, 8 * ((10 * n + 7) / 8) = M := ⟨_, rfl⟩
  have HF : Hid (8 * filN n = max M 64) := Lib.hid (by unfold filN; omega)
  generalize filN n = fn at *
  have h1 : 10 * n ≤ M := by omega
  have h2 : M < 10 * n + 8 := by omega
  have h3 : M % 8 = 0 := by omega
  have h4 : M ≤ 109951162777600 := by omega
  generalize 10 * n = a at *
  clear hM hn
  go_enter Tryz.func83, Tryz.ntmps83
  go_wp2_with fail
  go_loop [3] (fun m => ∃ j : Nat, m = .int .i64 (j : Int) ∧ a ≤ j ∧ j ≤ M) (fun m => M - (intOf m).toNat)
  case atStart => exact ⟨a, rfl, Nat.le_refl _, h1⟩
  case round =>
    obtain ⟨j, rfl, hj1, hj2⟩ := hrel
    by_cases hz : j % 8 = 0
    · obtain rfl : j = M := by omega
      have d1 : ((j : Int) % 8 != 0) = false := by simp; omega
      by_cases h64 : j < 64
      · have d2 : decide ((j : Int) < 64) = true := decide_eq_true (by omega)
        have HR : Hid (8 * (fn : Int) = 64) := Lib.hid (by have := HF.out; omega)
        go_wp2_with fail
        go_ret
        exact ⟨by rw [HR.out]; rfl, rfl⟩
      · have d2 : decide ((j : Int) < 64) = false := decide_eq_false (by omega)
        have HR : Hid (8 * (fn : Int) = (j : Int)) := Lib.hid (by have := HF.out; omega)
        go_wp2_with fail
        go_ret
        exact ⟨by rw [HR.out]; rfl, rfl⟩
    · have d1 : ((j : Int) % 8 != 0) = true := by simp; omega
      have hw2 : IntKind.i64.wrap ((j : Int) + 1) = ((j + 1 : Nat) : Int) := by rw [IntWalk.i64_in _ (by omega)]; omega
      go_wp2_with fail
      exact ⟨⟨j + 1, by go_num, by omega, by omega⟩, by simp [intOf]; omega⟩
end Go.Proofs.YtagehnclkneolaaGreatDoor

/-
  A slice of the reference's Blocks in memory; the walk over glacierref7.index.
-/
namespace Go.Proofs.YtagehnclkneolaaGreatDoor
open Go.RowKit

structure TBk where
  at_ : Nat
  len : Nat
  first : List UInt8
def bkV (b : TBk) : List Value := [.int .i64 (b.at_ : Int), .int .i64 (b.len : Int), .string ⟨b.first.toArray⟩]
def cellsBk (l : List TBk) : List Value := (l.map bkV).flatten
def bkOf : Nat → List (List Ent) → List TBk
  | _, [] => []
  | a, c :: r => ⟨a, (frame (pay c)).length, hdK c⟩ :: bkOf (a + (frame (pay c)).length) r
def idxR (l : List TBk) : List UInt8 := (l.map fun b => rowB b.first b.at_ b.len).flatten
theorem idxR_bk : ∀ (cs : List (List Ent)) (a : Nat), idxR (bkOf a cs) = idxB a cs
  | [], _ => rfl
  | c :: r, a => by
    have := idxR_bk r (a + (frame (pay c)).length)
    simp only [bkOf, idxB, idxR, List.map_cons, List.flatten_cons] at this ⊢
    rw [this]
theorem bkOf_snoc : ∀ (cs : List (List Ent)) (a : Nat) (c : List Ent), bkOf a (cs ++ [c]) = bkOf a cs ++ [⟨a + (tabB cs).length, (frame (pay c)).length, hdK c⟩]
  | [], a, c => by simp [bkOf, tabB]
  | d :: r, a, c => by
    simp only [List.cons_append, bkOf, tabB, List.length_append, bkOf_snoc r]
    rw [Nat.add_assoc]
theorem cellsBk_len (l : List TBk) : (cellsBk l).length = l.length * 3 := by
  induction l with
  | nil => rfl
  | cons b r ih =>
    simp only [cellsBk, List.map_cons, List.flatten_cons, List.length_append, List.length_cons] at ih ⊢
    rw [ih]
    simp [bkV]
    omega
theorem cellsBk_at : ∀ (l : List TBk) (k : Nat) (b : TBk), l[k]? = some b → (cellsBk l)[k * 3]? = some (.int .i64 (b.at_ : Int)) ∧ (cellsBk l)[k * 3 + 1]? = some (.int .i64 (b.len : Int)) ∧ (cellsBk l)[k * 3 + 2]? = some (.string ⟨b.first.toArray⟩)
  | [], _, _, h => by simp at h
  | c :: r, 0, b, h => by
    obtain rfl : c = b := by simpa using h
    exact ⟨rfl, rfl, rfl⟩
  | c :: r, k + 1, b, h => by
    have ih := cellsBk_at r k b (by simpa using h)
    have e : cellsBk (c :: r) = bkV c ++ cellsBk r := by simp [cellsBk]
    have hl : (bkV c).length = 3 := rfl
    rw [e]
    refine ⟨?_, ?_, ?_⟩
    · rw [List.getElem?_append_right (by omega), hl, show (k + 1) * 3 - 3 = k * 3 from by omega]; exact ih.1
    · rw [List.getElem?_append_right (by omega), hl, show (k + 1) * 3 + 1 - 3 = k * 3 + 1 from by omega]; exact ih.2.1
    · rw [List.getElem?_append_right (by omega), hl, show (k + 1) * 3 + 2 - 3 = k * 3 + 2 from by omega]; exact ih.2.2
def BkM (w : World) (F : Nat → Prop) (v : Value) (l : List TBk) : Prop := Cl w F v l.length (cellsBk l)
theorem idxR_snoc (l : List TBk) (b : TBk) : idxR (l ++ [b]) = idxR l ++ rowB b.first b.at_ b.len := by simp [idxR]
theorem idxR_take (l : List TBk) (k : Nat) : (idxR (l.take k)).length ≤ (idxR l).length := by
  have h : idxR l = idxR (l.take k) ++ idxR (l.drop k) := by
    simp only [idxR, ← List.flatten_append, ← List.map_append, List.take_append_drop]
  rw [h, List.length_append]
  omega

set_option maxRecDepth 100000 in
set_option maxHeartbeats 1000000 in
theorem refIndex_any (w : World) (F : Nat → Prop) (p : Option Addr) (cap : Nat) (l : List TBk) (h : BkM w F (.slice p l.length cap) l) (hb : ∀ b ∈ l, b.at_ < 4611686018427387904 ∧ b.len < 4611686018427387904) (hr : (idxR l).length ≤ 70368744177664) :
    Calls Tryz.prog 48 #[.slice p l.length cap] w fun x w' => ∃ u, x = .returned u ∧ Own w' w.heap.size u (idxR l) ∧ Below w.heap.size w w' := by
  obtain ⟨_, _, he, hlc, hl47, hcm, _⟩ := Cl.form h
  simp only [Value.slice.injEq] at he
  obtain ⟨rfl, _, rfl⟩ := he
  have HE := Lib.hid h
  have HBd := Lib.hid hb
  clear h hb
  go_enter Tryz.func48, Tryz.ntmps48
  go_wp2_with fail
  go_loopw [3, 4] (fun u i wr => ∃ k : Nat, k ≤ l.length ∧ i = .int .i64 (k : Int) ∧ Own wr w.heap.size u (idxR (l.take k)) ∧ Below w.heap.size w wr) (fun _ i _ => l.length - (intOf i).toNat)
  case atStart => exact ⟨0, by omega, rfl, own_nil _ _, Below.refl _ _⟩
  case round =>
    obtain ⟨k, hk, rfl, hown, hbw⟩ := hrel
    have HO := Lib.hid hown
    have HB := Lib.hid hbw
    clear hown
    by_cases hlt : k < l.length
    · have d1 : decide ((k : Int) < (l.length : Int)) = true := decide_eq_true (by omega)
      obtain ⟨a0, a1, a2⟩ := cellsBk_at l k _ (List.getElem?_eq_getElem hlt)
      obtain ⟨b0, off, rfl, hlw, _, e0⟩ := Cl.at_ HE.out a0
      obtain ⟨b1, off1, q1, _, _, e1⟩ := Cl.at_ HE.out a1
      obtain ⟨b2, off2, q2, _, _, e2⟩ := Cl.at_ HE.out a2
      obtain ⟨rfl, rfl⟩ : b0 = b1 ∧ off = off1 := by simpa using q1
      obtain ⟨rfl, rfl⟩ : b0 = b2 ∧ off = off2 := by simpa using q2
      rw [← Nat.add_assoc] at e1 e2
      have HLw := Lib.hid hlw
      have HBk := Lib.hid (HBd.out _ (List.getElem_mem hlt))
      have HSn : Hid (idxR (l.take (k + 1)) = idxR (l.take k) ++ rowB (l[k]).first (l[k]).at_ (l[k]).len) := Lib.hid (by rw [take_snoc l k _ (List.getElem?_eq_getElem hlt), idxR_snoc])
      have htk := Nat.le_trans (idxR_take l (k + 1)) hr
      generalize l[k] = x at *
      rw [HSn.out, List.length_append] at htk
      have hrw : x.first.length + (num x.first.length).length + (num x.at_).length + (num x.len).length = (rowB x.first x.at_ x.len).length := by simp [rowB, bytB]; omega
      have hcv : ∀ W, (convert 9 22 (.string ⟨x.first.toArray⟩)).run Tryz.prog W = .ok (.slice (some ⟨W.heap.size, 0, none⟩) x.first.length (convC W x.first)) (convW W x.first) := fun W => conv_run W x.first
      have HE0 := Lib.hid (And.intro e0 (And.intro e1 e2))
      have f2 := (below_cells hbw b0 _ hlw).trans e2
      have ha64 : IntKind.u64.wrap (x.at_ : Int) = (x.at_ : Int) := IntWalk.u64_in _ (by have := HBk.out.1; omega)
      have hl64 : IntKind.u64.wrap (x.len : Int) = (x.len : Int) := IntWalk.u64_in _ (by have := HBk.out.2; omega)
      clear hbw e0 e1 e2
      go_wp2_with fail
      refine (refBytes_only _ _ _ x.first w.heap.size (fun k => k = wr.heap.size) _ (HO.out.conv _) (conv_by wr x.first (by omega)) (fun k hk e => by have := (World.ownsRow.lt HO.out k hk).2; omega) (by rw [conv_size]; have := HB.out.size; omega) (by omega)).mono ?_
      rintro y w1 ⟨v1, rfl, hown1, hon1⟩
      have HB1 := Lib.hid ((conv_below HB.out HB.out.size x.first).trans (hon1.below (HO.out.conv _) (by rw [conv_size]; have := HB.out.size; omega)))
      have HO1 := Lib.hid hown1
      have f0 := (below_cells HB1.out b0 _ HLw.out).trans HE0.out.1
      clear hown1 hon1 f2
      go_wp2_with fail
      refine (refNumber_any v1 _ x.at_ w.heap.size w1 (by have := HBk.out.1; omega) HO1.out HB1.out.size (by simp; omega)).mono ?_
      rintro y w2 ⟨v2, rfl, hown2, hb2⟩
      have HB2 := Lib.hid (HB1.out.trans hb2)
      have HO2 := Lib.hid hown2
      have f1 := (below_cells HB2.out b0 _ HLw.out).trans HE0.out.2.1
      clear hown2 hb2 f0
      go_wp2_with fail
      refine (refNumber_any v2 _ x.len w.heap.size w2 (by have := HBk.out.2; omega) HO2.out HB2.out.size (by simp; omega)).mono ?_
      rintro y w3 ⟨v3, rfl, hown3, hb3⟩
      have HB3 := Lib.hid (HB2.out.trans hb3)
      have HO3 := Lib.hid hown3
      clear hown3 hb3 f1
      go_wp2_with fail
      refine ⟨⟨k + 1, by omega, by go_num, ?_, HB3.out⟩, by simp [intOf]; omega⟩
      rw [HSn.out]
      have := HO3.out
      simpa [rowB, bytB, List.append_assoc] using this
    · obtain rfl : k = l.length := by omega
      clear hbw
      go_wp2_with fail
      go_ret
      exact ⟨_, rfl, by have := HO.out; rwa [List.take_length] at this, HB.out⟩
end Go.Proofs.YtagehnclkneolaaGreatDoor

/-
  append onto the row of a conversion; the walk over glacierref7.spots.
-/
namespace Go.Proofs.YtagehnclkneolaaGreatDoor
open Go.RowKit

theorem Fr.setCells {S : Nat → Prop} {b : Nat} (hb : S b) : ∀ (vs : List Value) (o : Nat) (w : World), Fr S w (w.setCells b o vs)
  | [], _, w => Fr.refl S w
  | v :: r, o, w => (Fr.setCell S w (p := ⟨b, o, none⟩) hb v).then (Fr.setCells hb r (o + 1) _)

/-- The row of '[]byte(s)': its bytes, its spare: none of its cells is frozen. -/
structure CvM (w : World) (g : Nat) (l : List UInt8) (cap : Nat) : Prop where
  le : l.length ≤ cap
  max : cap ≤ 9223372036854775807
  lt : g < w.heap.size
  at_ : ∀ i, i < l.length → w.cell? ⟨g, i, none⟩ = some (.int .u8 ((l.getD i 0).toNat : Int))
  there : ∀ i, i < cap → (w.cell? ⟨g, i, none⟩).isSome = true ∧ w.frozen? ⟨g, i, none⟩ = false
theorem conv_size_cells (w : World) (l : List UInt8) : (Lib.bytesCells w 5 ⟨l.toArray⟩).size = grownCap w l.length 0 5 := by
  have := grownCap_ge w l.length 0 5
  simp [Lib.bytesCells, ByteArray.size]
  omega
theorem CvM.conv (w : World) (l : List UInt8) (hl : l.length ≤ 140737488355328) : CvM (convW w l) w.heap.size l (convC w l) := by
  have hr := conv_rd w l hl
  obtain ⟨p, cap, e, h1, ⟨h2, h3, _⟩, h4⟩ := hr
  obtain ⟨ep, ec⟩ : (some ⟨w.heap.size, 0, none⟩ : Option Addr) = p ∧ convC w l = cap := by simpa using e
  refine ⟨by omega, by omega, by rw [conv_size]; omega, fun i hi => ?_, fun i hi => ?_⟩
  · obtain ⟨b, off, e2, _, hc⟩ := h4 (by omega)
    rw [← ep] at e2
    obtain ⟨rfl, rfl⟩ : w.heap.size = b ∧ 0 = off := by simpa using e2
    have := hc i hi
    rwa [Nat.zero_add] at this
  · have hb : (convW w l).heap[w.heap.size]? = some (.cells (Lib.bytesCells w 5 ⟨l.toArray⟩) 5 ((Lib.bytesCells w 5 ⟨l.toArray⟩).size, (Lib.bytesCells w 5 ⟨l.toArray⟩).size + 1)) := by
      unfold convW
      exact Lib.bytesWorld_at_new w _ _
    have hc : i < (Lib.bytesCells w 5 ⟨l.toArray⟩).size := by
      rw [conv_size_cells]
      unfold convC at hi
      exact hi
    refine ⟨by simp [World.cell?, hb, hc], ?_⟩
    simp only [World.frozen?, hb]
    simp only [Bool.and_eq_false_imp, decide_eq_true_eq, decide_eq_false_iff_not]
    omega
theorem CvM.keep {w w' : World} {g cap : Nat} {l : List UInt8} (h : CvM w g l cap) (hb : w'.heap[g]? = w.heap[g]?) (hs : w.heap.size ≤ w'.heap.size) : CvM w' g l cap :=
  ⟨h.le, h.max, Nat.lt_of_lt_of_le h.lt hs, fun i hi => (World.cell?_of_block (a := ⟨g, i, none⟩) hb).trans (h.at_ i hi), fun i hi => ⟨by rw [World.cell?_of_block (a := ⟨g, i, none⟩) hb]; exact (h.there i hi).1, (World.frozen?_of_block (a := ⟨g, i, none⟩) hb).trans (h.there i hi).2⟩⟩
theorem CvM.alloc {w : World} {g cap : Nat} {l : List UInt8} (h : CvM w g l cap) (o : Obj) : CvM (w.alloc o) g l cap := h.keep (Below.heap_alloc w o g h.lt) (by simp)

theorem CvM.append {w : World} {g cap B : Nat} {l m : List UInt8} {u : Value} (h : CvM w g l cap) (hu : Rd w B u m) (hm : 0 < m.length) (hlen : l.length + m.length ≤ 140737488355000) (ty : TypeId) :
    ∃ v' w', (Builtin.append_ #[22, 22] ty #[.slice (some ⟨g, 0, none⟩) l.length cap, u]).run Tryz.prog w = .ok v' w' ∧ Rd w' w'.heap.size v' (l ++ m) ∧ Fr (fun k => k = g) w w' := by
  obtain ⟨i0, hi, hz0, hz1, hz2⟩ := info_parts infoU8
  obtain ⟨p, c, rfl, hlc, _, hat⟩ := hu
  obtain ⟨b, off, rfl, hbB, hc⟩ := hat hm
  have hnews : ∀ j u, (bs m)[j]? = some u → w.cell? ((⟨b, off, none⟩ : Addr).add j) = some u := by
    intro j u hu
    have hj : j < m.length := by
      have := (List.getElem?_eq_some_iff.1 hu).1
      simpa [bs] using this
    rw [Addr.add_mid, hc j hj, ← bs_at m j hj, hu]
  by_cases hroom : l.length + m.length ≤ cap
  · have hr := run_append_room_cells (P := Tryz.prog) w 22 ty 5 i0 Tryz.underlying22 hi g 0 l.length cap ⟨b, off, none⟩ m.length c (bs m) (by rw [bs_length, hz1, Nat.mul_one]) hnews (bs_oneCell m) hroom
      (fun j hj => by rw [bs_length] at hj; rw [hz1]; exact (h.there _ (by omega)).1) (fun j hj => by rw [bs_length] at hj; rw [hz1]; exact (h.there _ (by omega)).2)
    have hfr : Fr (fun k => k = g) w (w.setCells g (0 + l.length * i0.size) (bs m)) := Fr.setCells (S := fun k => k = g) rfl _ _ _
    refine ⟨_, _, hr, ⟨_, cap, by rw [List.length_append], by rw [List.length_append]; exact hroom, ⟨by rw [List.length_append]; omega, h.max, fun e => by cases e⟩, fun _ => ⟨g, 0, rfl, Nat.lt_of_lt_of_le h.lt hfr.size, fun i hi => ?_⟩⟩, hfr⟩
    rw [Nat.zero_add, hz1, Nat.mul_one, Nat.zero_add]
    rw [List.length_append] at hi
    rcases Nat.lt_or_ge i l.length with hlt | hge
    · rw [World.cell?_setCells_out g _ _ _ _ (fun _ _ => .inl hlt), h.at_ i hlt]
      simp [List.getD_eq_getElem?_getD, List.getElem?_append_left hlt]
    · have h1 := World.cell?_setCells_in g (bs m) l.length w (fun j hj => by rw [bs_length] at hj; exact (h.there _ (by omega)).1) (i - l.length) (by rw [bs_length]; omega)
      rw [show l.length + (i - l.length) = i by omega] at h1
      rw [h1]
      have h2 := bs_at m (i - l.length) (by omega)
      rw [List.getElem?_eq_getElem (by rw [bs_length]; omega)] at h2
      rw [h2]
      simp [List.getD_eq_getElem?_getD, List.getElem?_append_right hge]
  · obtain ⟨v', w', hr, hown, hg⟩ := run_append_arg_grows (P := Tryz.prog) w 22 ty 5 i0 (.int .u8 0) 1 1 Tryz.underlying22 hi hz0 hz1 hz2 rfl (by decide) ⟨g, 0, none⟩ l.length cap (bs l) (by rw [bs_length, Nat.mul_one])
      (fun j u hu => by
        have hj : j < l.length := by
          have := (List.getElem?_eq_some_iff.1 hu).1
          simpa [bs] using this
        rw [Addr.add_mid, Nat.zero_add, h.at_ j hj, ← bs_at l j hj, hu])
      ⟨b, off, none⟩ m.length c (bs m) (by rw [bs_length, Nat.mul_one]) hnews (by omega) (by unfold maxLen; omega) (by omega)
    have hO : Own w' w.heap.size v' (l ++ m) := Own.of hown (by simp) (by rw [bs_append])
    exact ⟨v', w', hr, hO.rd (by rw [List.length_append]; omega), Fr.grown hg (fun k e => by cases e)⟩
theorem wpList_append_conv {w : World} {ops : Array Oper} {rest : List Oper} {o : Oper} {a : Act} {Q : Exit → Act → World → Prop} (hgd : o.guard = none) (s x : Operand)
    (ho : o.op = .call { callee := .builtin .append, args := #[s, x], argTypes := #[22, 22] })
    (g cap B : Nat) (l m : List UInt8) (u : Value) (hs : a.eval s = .slice (some ⟨g, 0, none⟩) l.length cap) (h : CvM w g l cap) (hx : a.eval x = u) (hu : Rd w B u m) (hm : 0 < m.length) (hlen : l.length + m.length ≤ 140737488355000)
    (hK : ∀ v' w', Rd w' w'.heap.size v' (l ++ m) → Fr (fun k => k = g) w w' → wpList Tryz.prog ops Q rest (a.put o.dst v') w') : wpList Tryz.prog ops Q (o :: rest) a w := by
  refine wpList_plain hgd fun K hKK => ?_
  obtain ⟨v', w', hrun, h1, h2⟩ := h.append hu hm hlen o.type
  unfold Oper.wp
  simp [execOp, ho, resolve, invoke, builtin, hs, hx, hrun, Result.andThen]
  exact hKK _ _ (hK v' w' h1 h2)

def i64v (n : Nat) : Value := .int .i64 (n : Int)
def spi (s : Nat → Nat) : Nat → Array Value
  | 0 => #[i64v 0, i64v 0, i64v 0, i64v 0]
  | 1 => #[i64v (s 0), i64v 0, i64v 0, i64v 0]
  | 2 => #[i64v (s 0), i64v (s 1), i64v 0, i64v 0]
  | 3 => #[i64v (s 0), i64v (s 1), i64v (s 2), i64v 0]
  | _ => #[i64v (s 0), i64v (s 1), i64v (s 2), i64v (s 3)]
theorem spi_set (s : Nat → Nat) {k : Nat} (h : k < 4) : (spi s k).setIfInBounds k (i64v (s k)) = spi s (k + 1) := by
  obtain rfl | rfl | rfl | rfl : k = 0 ∨ k = 1 ∨ k = 2 ∨ k = 3 := by omega
  all_goals rfl
theorem spi_at (s : Nat → Nat) {k : Nat} (h : k < 4) : (spi s k)[k]? = some (i64v 0) := by
  obtain rfl | rfl | rfl | rfl : k = 0 ∨ k = 1 ∨ k = 2 ∨ k = 3 := by omega
  all_goals rfl
theorem ixi (W : World) (ab n : Nat) (h : n < 4) : (Instr.indexAt 83 (.pointer (some ⟨ab, 0, none⟩)) (.int .i64 (n : Int))).run Tryz.prog W = .ok (.pointer (some ⟨ab, n, none⟩)) W := by
  have hl : Tryz.prog.arrayLen 83 = 4 := by simp [Program.arrayLen, Tryz.underlying83]
  have he : Tryz.prog.elem 83 = 3 := by simp [Program.elem, Tryz.underlying83]
  have hs : (Go.sizeOf 3).run Tryz.prog W = .ok 1 W := by kernel_rfl
  have h0 : Tryz.prog.underlying 83 = some (.array (Tryz.prog.arrayLen 83) (Tryz.prog.elem 83)) := by rw [hl, he]; exact Tryz.underlying83
  have h1 := run_indexAt_array (P := Tryz.prog) (w := W) 83 ⟨ab, 0, none⟩ .i64 (n : Int) h0
  rw [hl, if_pos (by omega), he, hs] at h1
  rw [h1]
  simp [Result.andThen, Addr.add]
  try omega

set_option maxRecDepth 100000 in
set_option maxHeartbeats 1000000 in
theorem refSpots_any (w : World) (key : List UInt8) (m : Nat) (h0 : 0 < m) (hm : m ≤ 8796093022208) (hk : key.length ≤ 140737488354000) :
    Calls Tryz.prog 37 #[.string ⟨key.toArray⟩, .int .i64 (m : Int)] w fun e w' => e = .returned (.agg (spi (spotK key m) 4)) ∧ Below w.heap.size w w' := by
  have hcv : ∀ W, (convert 9 22 (.string ⟨key.toArray⟩)).run Tryz.prog W = .ok (.slice (some ⟨W.heap.size, 0, none⟩) key.length (convC W key)) (convW W key) := fun W => conv_run W key
  have hc1 := crc_lt key
  have hc2 := crc_lt (key ++ [1])
  have hw1 : IntKind.u64.wrap ((crc key : Nat) : Int) = ((crc key : Nat) : Int) := IntWalk.u64_in _ (by omega)
  have hw2 : IntKind.u64.wrap ((crc (key ++ [1]) : Nat) : Int) = ((crc (key ++ [1]) : Nat) : Int) := IntWalk.u64_in _ (by omega)
  obtain ⟨X, hX⟩ : ∃ X, w.alloc (.cells #[.int .i64 0, .int .i64 0, .int .i64 0, .int .i64 0] 83) = X := ⟨_, rfl⟩
  have HL := Lib.hid (And.intro h0 (And.intro hm hk))
  have hXb : Below w.heap.size w X := by rw [← hX]; exact below_alloc _ _
  have hXz : X.heap[w.heap.size]? = some (.cells #[.int .i64 0, .int .i64 0, .int .i64 0, .int .i64 0] 83 (0, 0)) := by rw [← hX]; exact heap_alloc_new w _
  have HX := Lib.hid (And.intro hXb hXz)
  have HR1 : Hid (Rd (convW X key) (X.heap.size + 1) (.slice (some ⟨X.heap.size, 0, none⟩) key.length (convC X key)) key) := Lib.hid (conv_rd X key (by omega))
  have HBx1 : Hid (Below X.heap.size X (convW X key)) := Lib.hid (conv_below (Below.refl _ _) (Nat.le_refl _) key)
  clear hXb hXz hk
  go_enter Tryz.func37, Tryz.ntmps37
  go_wp2_with fail
  refine (refSum_any _ key _ _ HR1.out).mono ?_
  rintro r w1 ⟨rfl, hw1e⟩
  subst hw1e
  obtain ⟨w1, hw1e⟩ : ∃ w1, convW X key = w1 := ⟨_, rfl⟩
  rw [hw1e] at HBx1
  have HC2 := Lib.hid ((CvM.conv w1 key (by have := HL.out.2.2; omega)).alloc (.cells #[.int .u8 1] 5))
  have HR3 : Hid (Rd ((convW w1 key).alloc (.cells #[.int .u8 1] 5)) ((convW w1 key).heap.size + 1) (.slice (some ⟨(convW w1 key).heap.size, 0, none⟩) 1 1) [1]) := Lib.hid (Rd.new (convW w1 key) [1] 5 #[.int .u8 1] rfl (by simp))
  have HB2 : Hid (Below w1.heap.size w1 ((convW w1 key).alloc (.cells #[.int .u8 1] 5))) := Lib.hid ((conv_below (Below.refl _ _) (Nat.le_refl _) key).alloc (by rw [conv_size]; omega) _)
  clear HR1
  go_wp2_with (at_builtin; refine wpList_append_conv rfl _ _ rfl w1.heap.size (convC w1 key) _ key [1] _ rfl HC2.out rfl HR3.out (by simp) (by have := HL.out.2.2; simp; omega) ?_; intro v2 w2 hrd2 hfr2; have HRd2 := Lib.hid hrd2; have HB3 := Lib.hid (HB2.out.trans (hfr2.below HB2.out.size (fun k hk e => by omega))); clear hrd2 hfr2)
  refine (refSum_any _ (key ++ [1]) _ _ HRd2.out).mono ?_
  rintro r w2' ⟨rfl, rfl⟩
  have HBx2 : Hid (Below X.heap.size X w2) := Lib.hid (HBx1.out.trans (HB3.out.mono HBx1.out.size))
  clear HB2 HB3 HC2 HR3 hw1e HBx1
  have hwm : IntKind.u64.wrap (m : Int) = (m : Int) := IntWalk.u64_in _ (by omega)
  have hmz : ((m : Int) == 0) = false := by simp; omega
  have hsp : ∀ k, spotK key m k = (crc key + k * crc (key ++ [1])) % m := fun k => rfl
  obtain ⟨sp, hspe⟩ : ∃ sp, spotK key m = sp := ⟨_, rfl⟩
  have HSpE := Lib.hid hspe
  rw [hspe] at hsp
  clear hspe
  generalize crc key = a at *
  generalize crc (key ++ [1]) = b at *
  go_wp2_with fail
  go_loopw [8] (fun i wr => ∃ k : Nat, k ≤ 4 ∧ i = .int .i64 (k : Int) ∧ wr.heap[w2.heap.size]? = some (.cells (spi sp k) 83 (0, 0)) ∧ Below X.heap.size X wr) (fun i _ => 4 - (intOf i).toNat)
  case atStart => exact ⟨0, by omega, rfl, heap_alloc_new w2 _, HBx2.out.alloc HBx2.out.size _⟩
  case round =>
    obtain ⟨k, hk, rfl, hz, hb3⟩ := hrel
    have HZ := Lib.hid hz
    have HB3 := Lib.hid hb3
    have HLs := Lib.hid HBx2.out.size
    by_cases hlt : k < 4
    · have d1 : decide ((k : Int) < 4) = true := decide_eq_true (by omega)
      have f1 := frozen_of (i := k) hz
      have z1 := cell_of (i := k) hz (spi_at sp hlt)
      have hix := fun W => ixi W w2.heap.size k hlt
      have hwk : IntKind.u64.wrap (k : Int) = (k : Int) := IntWalk.u64_in _ (by omega)
      have hkb : k * b ≤ 3 * b := Nat.mul_le_mul_right _ (by omega)
      have hw3 : IntKind.u64.wrap ((k : Int) * (b : Int)) = ((k * b : Nat) : Int) := by rw [← Int.natCast_mul]; exact IntWalk.u64_in _ (by omega)
      have hw4 : IntKind.u64.wrap ((a : Int) + ((k * b : Nat) : Int)) = ((a + k * b : Nat) : Int) := by rw [← Int.natCast_add]; exact IntWalk.u64_in _ (by omega)
      have hspm : sp k < m := by rw [hsp k]; exact Nat.mod_lt _ h0
      have hmod : ((a : Int) + (k : Int) * (b : Int)) % (m : Int) = ((sp k : Nat) : Int) := by rw [hsp k, Int.natCast_emod, Int.natCast_add, Int.natCast_mul]
      have hw5 : IntKind.i64.wrap (((a : Int) + (k : Int) * (b : Int)) % (m : Int)) = ((sp k : Nat) : Int) := by rw [hmod]; exact IntWalk.i64_in _ (by omega)
      have HMod := Lib.hid hmod
      clear hz hb3 hspm hmod
      go_wp2_with fail
      go_roundw
      case rel =>
        refine ⟨k + 1, by omega, by go_num, ?_, HB3.out.setCell HLs.out _⟩
        rw [HMod.out, ← spi_set sp hlt]
        exact setCell_same HZ.out _
      case measure => simp [intOf]; omega
    · obtain rfl : k = 4 := by omega
      have hx := (hb3.block _ (block_lt HX.out.2)).trans HX.out.2
      have hz4 : wr.heap[w2.heap.size]? = some (.cells #[.int .i64 ((sp 0 : Nat) : Int), .int .i64 ((sp 1 : Nat) : Int), .int .i64 ((sp 2 : Nat) : Int), .int .i64 ((sp 3 : Nat) : Int)] 83 (0, 0)) := hz
      have y0 := cell_of (i := 0) hz4 rfl
      have y1 := cell_of (i := 1) hz4 rfl
      have y2 := cell_of (i := 2) hz4 rfl
      have y3 := cell_of (i := 3) hz4 rfl
      have x0 := frozen_of (i := 0) hx
      have x1 := frozen_of (i := 1) hx
      have x2 := frozen_of (i := 2) hx
      have x3 := frozen_of (i := 3) hx
      have u0 := cell_of (i := 0) hx rfl
      have u1 := cell_of (i := 1) hx rfl
      have u2 := cell_of (i := 2) hx rfl
      have u3 := cell_of (i := 3) hx rfl
      have HXx := Lib.hid hx
      have HXo := Lib.hid HX.out.1
      clear hz hz4 hb3 hx hsp
      go_wp2_with fail
      (try simp only [Exit.inBlock, Exit.then])
      have hfr := set4_fr wr w.heap.size (.int .i64 ((sp 0 : Nat) : Int)) (.int .i64 ((sp 1 : Nat) : Int)) (.int .i64 ((sp 2 : Nat) : Int)) (.int .i64 ((sp 3 : Nat) : Int)) (fun k => w.heap.size ≤ k) (Nat.le_refl _)
      have hbz := (HXo.out.trans (HB3.out.mono HXo.out.size)).trans (hfr.below (Nat.le_trans HXo.out.size HB3.out.size) fun k hk hle => by omega)
      refine bodyPost_ret (v := .agg #[.int .i64 ((sp 0 : Nat) : Int), .int .i64 ((sp 1 : Nat) : Int), .int .i64 ((sp 2 : Nat) : Int), .int .i64 ((sp 3 : Nat) : Int)]) (results_cell_row rfl _ _ w.heap.size _ _ (0, 0) _ rfl (set4_heap HXx.out _ _ _ _) Tryz.underlying83 rfl (by kernel_rfl)) rfl ⟨by rw [HSpE.out]; rfl, hbz⟩
end Go.Proofs.YtagehnclkneolaaGreatDoor

/-
  The walk over glacierref7.Filter.
-/
namespace Go.Proofs.YtagehnclkneolaaGreatDoor
open Go.RowKit

theorem spi_all (s : Nat → Nat) {k : Nat} (h : k < 4) : (spi s 4)[k]? = some (i64v (s k)) := by
  obtain rfl | rfl | rfl | rfl : k = 0 ∨ k = 1 ∨ k = 2 ∨ k = 3 := by omega
  all_goals rfl
theorem refSpots4 (w : World) (key : List UInt8) (m : Nat) (h0 : 0 < m) (hm : m ≤ 8796093022208) (hk : key.length ≤ 140737488354000) :
    Calls Tryz.prog 37 #[.string ⟨key.toArray⟩, .int .i64 (m : Int)] w fun e w' => e = .returned (.agg #[.int .i64 (spotK key m 0 : Int), .int .i64 (spotK key m 1 : Int), .int .i64 (spotK key m 2 : Int), .int .i64 (spotK key m 3 : Int)]) ∧ Below w.heap.size w w' := refSpots_any w key m h0 hm hk

set_option maxRecDepth 100000 in
set_option maxHeartbeats 2000000 in
theorem refFilter_any (w : World) (F : Nat → Prop) (p : Option Addr) (cap : Nat) (es : List Ent) (h : En w F (.slice p es.length cap) es) (hs : ShL es) :
    Calls Tryz.prog 49 #[.slice p es.length cap] w fun x w' => ∃ u, x = .returned u ∧ Own w' w.heap.size u (filB es) ∧ Below w.heap.size w w' := by
  obtain ⟨_, _, he, hlc, hl47, hcm, _⟩ := h.form
  simp only [Value.slice.injEq] at he
  obtain ⟨rfl, _, rfl⟩ := he
  have HE := Lib.hid h
  have HS := Lib.hid hs
  have hl40 : 31 * es.length ≤ 1099511627776 := Nat.le_trans (wgt_len es) hs.2
  clear h hs
  go_enter Tryz.func49, Tryz.ntmps49
  go_wp2_with fail
  go_loopw [3, 4] (fun c i wr => ∃ k : Nat, k ≤ es.length ∧ i = .int .i64 (k : Int) ∧ c = .int .i64 (cntK es k : Int) ∧ Below w.heap.size w wr) (fun _ i _ => es.length - (intOf i).toNat)
  case atStart => exact ⟨0, by omega, rfl, rfl, Below.refl _ _⟩
  case round =>
    obtain ⟨k, hk, rfl, rfl, hb⟩ := hrel
    have HB := Lib.hid hb
    have hc := cntK_le es k
    by_cases hlt : k < es.length
    · have d1 : decide ((k : Int) < (es.length : Int)) = true := decide_eq_true (by omega)
      obtain ⟨b1, off1, q1, c1, rfl, hb1, _, hV1, e0, e1, e2, e3⟩ := (HE.out.below hb).at_ (List.getElem?_eq_getElem hlt)
      have HCn : Hid (cntK es (k + 1) = cntK es k + if fstK es k = true then 1 else 0) := Lib.hid rfl
      by_cases h0 : 0 < k
      · have hkm : k - 1 < es.length := by omega
        obtain ⟨b2, off2, q2, c2, hp2, hb2, _, hV2, d0, _, _, _⟩ := (HE.out.below hb).at_ (List.getElem?_eq_getElem hkm)
        obtain ⟨rfl, rfl⟩ : b1 = b2 ∧ off1 = off2 := by simpa using hp2
        rw [fstK_succ es k hlt h0] at HCn
        generalize cntK es k = c at *
        generalize es[k] = x at *
        generalize es[k - 1] = y at *
        have hwr : IntKind.i64.wrap ((k : Int) - 1) = (k : Int) - 1 := IntWalk.i64_in _ (by omega)
        have hkt : ((k : Int) - 1).toNat = k - 1 := by omega
        have hk1 : (0 : Int) ≤ (k : Int) - 1 := by omega
        have hkl : ((k : Int) - 1) < (es.length : Int) := by omega
        have hz : ((k : Int) == 0) = false := by simp; omega
        have hzn : (k == 0) = false := by simp; omega
        clear hV1 hV2 hb1 hb2 hp2 hb e1 e2 e3 h0
        cases q : (y.key == x.key)
        · have HCs : Hid (cntK es (k + 1) = c + 1) := Lib.hid (by rw [HCn.out, q]; rfl)
          have q' : (x.key == y.key) = false := by rw [Bool.eq_false_iff] at q ⊢; intro e; exact q (by simpa using (beq_iff_eq.1 e).symm)
          clear HCn
          go_wp2_with fail
          go_quiet (fail)
          go_wp2_with fail
          go_roundw
          case rel => exact ⟨k + 1, by omega, by go_num, by rw [HCs.out]; go_num, below_drewN HB.out _⟩
          case measure => simp [intOf]; omega
        · have HCs : Hid (cntK es (k + 1) = c) := Lib.hid (by rw [HCn.out, q]; rfl)
          have q' : (x.key == y.key) = true := by simpa using (beq_iff_eq.1 q).symm
          clear HCn
          go_wp2_with fail
          go_quiet (fail)
          go_wp2_with fail
          go_roundw
          case rel => exact ⟨k + 1, by omega, by go_num, by rw [HCs.out], below_drewN HB.out _⟩
          case measure => simp [intOf]; omega
      · obtain rfl : k = 0 := by omega
        have HCs : Hid (cntK es (0 + 1) = 1) := Lib.hid (by rw [HCn.out]; rfl)
        have hc0 : cntK es 0 = 0 := rfl
        rw [hc0]
        clear hV1 hb1 hb e1 e2 e3 HCn h0 hc
        go_wp2_with fail
        go_quiet (fail)
        go_wp2_with fail
        go_roundw
        case rel => exact ⟨0 + 1, by omega, by go_num, by rw [HCs.out]; rfl, below_drewN HB.out _⟩
        case measure => simp [intOf]; omega
    · obtain rfl : k = es.length := by omega
      generalize wr = wA at *
      have HFB : Hid (filB es = filA es (zeros (filN (cntK es es.length))) es.length) := Lib.hid (by rw [← fil_same es _ _ (Nat.le_refl _)]; rfl)
      have hcb : 31 * cntK es es.length ≤ 1099511627776 := by omega
      generalize cntK es es.length = c at *
      have HC := Lib.hid (refBits_any wA c (by omega))
      obtain ⟨N, hN⟩ : ∃ N, filN c = N := ⟨_, rfl⟩
      have hN8 : 8 ≤ N := by rw [← hN]; exact filN_pos c
      have hNb : N ≤ 1099511627776 := by rw [← hN]; unfold filN; omega
      rw [hN] at HFB HC
      clear hb hN
      go_wp2_with fail
      refine HC.out.mono ?_
      rintro r w1 ⟨rfl, rfl⟩
      have hdv : ((8 * N : Nat) : Int) / 8 = (N : Int) := by omega
      have hmk := mk_bytes 22 Tryz.underlying22 N N (Nat.le_refl _) hNb wA
      have hown0 := Own.zeros wA N w.heap.size HB.out.size hNb
      have hZs := zeros_len N
      generalize zeros N = Z at *
      obtain ⟨ZC, hZC⟩ : ∃ ZC, (bs Z).toArray = ZC := ⟨_, rfl⟩
      rw [hZC] at hmk hown0
      have HO0 := Lib.hid hown0
      clear hown0 hZC HC
      go_wp2_with fail
      go_loopw [7] (fun i wx => ∃ k : Nat, k ≤ es.length ∧ i = .int .i64 (k : Int) ∧ Own wx w.heap.size (.slice (some ⟨wA.heap.size, 0, none⟩) N N) (filA es Z k) ∧ Below w.heap.size w wx) (fun i _ => es.length - (intOf i).toNat)
      case atStart => exact ⟨0, by omega, rfl, HO0.out, HB.out.alloc HB.out.size _⟩
      case round =>
        obtain ⟨k, hk, rfl, hown1, hb1⟩ := hrel
        have HO1 := Lib.hid hown1
        have HB1 := Lib.hid hb1
        clear hown1
        generalize wr = wx at *
        by_cases hlt : k < es.length
        · have d1 : decide ((k : Int) < (es.length : Int)) = true := decide_eq_true (by omega)
          obtain ⟨b1, off1, q2, c2, rfl, hbl, _, hV1, e0, _, _, _⟩ := (HE.out.below hb1).at_ (List.getElem?_eq_getElem hlt)
          have HFk : Hid (filA es Z (k + 1) = addK (filA es Z k) es[k].key) := Lib.hid (by simp only [filA, List.getElem?_eq_getElem hlt]; rfl)
          have HKl := Lib.hid (HS.out.small (List.getElem_mem hlt))
          have hfl : (filA es Z k).length = N := by rw [filA_len, hZs]
          have HFl := Lib.hid hfl
          generalize filA es Z k = fk at *
          generalize es[k] = x at *
          have HSp := Lib.hid (refSpots4 wx x.key (8 * N) (by omega) (by omega) (by have := HKl.out; omega))
          have hsl : ∀ j, spotK x.key (8 * N) j < 8 * N := fun j => spotK_lt x.key _ j (by omega)
          have HSl := Lib.hid hsl
          have HSk : Hid (∀ j, setK fk x.key (j + 1) = setB (setK fk x.key j) (spotK x.key (8 * N) j)) := Lib.hid (fun j => by rw [← HFl.out]; rfl)
          generalize spotK x.key (8 * N) = sp at *
          have hmul : (8 : Int) * (N : Int) = ((8 * N : Nat) : Int) := by omega
          have HMul := Lib.hid hmul
          clear hb1 hV1 hbl hsl hfl hmul
          go_wp2_with fail
          refine HSp.out.mono ?_
          rintro r w2 ⟨rfl, hb2⟩
          have HB2 := Lib.hid (HB1.out.trans (hb2.mono HB1.out.size))
          have HO2 := Lib.hid (HO1.out.after hb2)
          clear hb2
          have hz := heap_alloc_new w2 (.cells #[.int .i64 0, .int .i64 0, .int .i64 0, .int .i64 0] 83)
          obtain ⟨Y, hY⟩ : ∃ Y, w2.alloc (.cells #[.int .i64 0, .int .i64 0, .int .i64 0, .int .i64 0] 83) = Y := ⟨_, rfl⟩
          have hOY : Own Y w.heap.size (.slice (some ⟨wA.heap.size, 0, none⟩) N N) fk := by rw [← hY]; exact HO2.out.alloc _
          have hBY : Below w.heap.size w Y := by rw [← hY]; exact HB2.out.alloc HB2.out.size _
          rw [hY] at hz
          have x0 := frozen_of (i := 0) hz
          have x1 := frozen_of (i := 1) hz
          have x2 := frozen_of (i := 2) hz
          have x3 := frozen_of (i := 3) hz
          have u0 := cell_of (i := 0) hz rfl
          have u1 := cell_of (i := 1) hz rfl
          have u2 := cell_of (i := 2) hz rfl
          have u3 := cell_of (i := 3) hz rfl
          have HZ := Lib.hid hz
          have HOY := Lib.hid hOY
          have HBY := Lib.hid hBY
          clear hz hOY hBY
          go_wp2_with fail
          have hgg : wA.heap.size < w2.heap.size := (World.ownsRow.lt HO2.out _ rfl).2
          have HGg := Lib.hid hgg
          clear x0 x1 x2 x3 u0 u1 u2 u3 hgg hY
          go_loopw [9] (fun i wy => ∃ j : Nat, j ≤ 4 ∧ i = .int .i64 (j : Int) ∧ wy.heap[w2.heap.size]? = some (.cells (spi sp 4) 83 (0, 0)) ∧ Own wy w.heap.size (.slice (some ⟨wA.heap.size, 0, none⟩) N N) (setK fk x.key j) ∧ Below w.heap.size w wy) (fun i _ => 4 - (intOf i).toNat)
          case atStart =>
            refine ⟨0, by omega, rfl, set4_heap HZ.out _ _ _ _, HOY.out.keep (fun k hk => ?_), HBY.out.trans ((set4_fr Y w2.heap.size _ _ _ _ (fun k => k = w2.heap.size) rfl).below HBY.out.size (fun k hk e => ?_))⟩
            · have hk2 := (World.ownsRow.lt HOY.out _ hk).2
              obtain rfl : wA.heap.size = k := by simpa [Value.ownBlock] using hk
              exact (set4_fr Y w2.heap.size _ _ _ _ (fun k => k = w2.heap.size) rfl).block _ hk2 (fun e => by have := HGg.out; omega)
            · have := HB2.out.size; omega
          case round =>
            obtain ⟨j, hj, rfl, hz, hown3, hb3⟩ := hrel
            generalize wr = wz at *
            have HZ3 := Lib.hid hz
            have HO3 := Lib.hid hown3
            have HB3 := Lib.hid hb3
            have HGz : Hid (w.heap.size ≤ wA.heap.size) := Lib.hid (World.ownsRow.lt hown3 _ rfl).1
            have hlen := setK_len fk x.key j
            by_cases hlt4 : j < 4
            · have d1 : decide ((j : Int) < 4) = true := decide_eq_true (by omega)
              have hix := fun W => ixi W w2.heap.size j hlt4
              have z1 := cell_of (i := j) hz (spi_all sp hlt4)
              unfold i64v at z1
              have hs1 := HSl.out j
              have HSet := Lib.hid (HSk.out j)
              obtain ⟨z2, f2⟩ := hown3.cellAt (i := sp j / 8) (by rw [hlen, HFl.out]; omega)
              generalize sp j = s at *
              generalize setK fk x.key j = cur at *
              clear hown3 hb3 hz
              have hi1 : ((s : Int) / 8) < (N : Int) := by omega
              have hi2 : (0 : Int) ≤ (s : Int) / 8 := by omega
              have hi3 : ((s : Int) / 8).toNat = s / 8 := by omega
              have hwu : IntKind.u64.wrap ((s : Int) % 8) = (s : Int) % 8 := IntWalk.u64_in _ (by omega)
              have HOr := Lib.hid (or_bit (cur.getD (s / 8) 0) (s % 8) (by omega))
              go_wp2_with fail
              refine wp_region_quiet_tail 20 (by kernel_rfl) (by kernel_rfl) ?_
              simp only [List.take_succ_cons, List.take_zero, List.drop_succ_cons, List.drop_zero]
              repeat (go_big_quiet_step (fail))
              refine wpQuiet_nil ?_
              go_wp2_with fail
              refine ⟨⟨j + 1, by omega, by go_num, (setCell_other (by have := HGg.out; omega) _).trans HZ3.out, ?_, below_drew (HB3.out.setCell HGz.out _)⟩, by simp [intOf]; omega⟩
              rw [HSet.out]
              have h5 := HO3.out.setAt (i := s / 8) (cur.getD (s / 8) 0 ||| (1 <<< UInt8.ofNat (s % 8)))
              rw [← HOr.out] at h5
              have h6 : Own (wz.setCell ⟨wA.heap.size, s / 8, none⟩ (.int .u8 (bits .or .u8 ((cur.getD (s / 8) 0).toNat : Int) ((2 : Int) ^ (s % 8) % 256)))).drew _ _ _ := h5.keep (fun _ _ => rfl)
              simpa [setB] using h6
            · obtain rfl : j = 4 := by omega
              clear hown3 hb3 hz
              go_wp2_with fail
              exact ⟨⟨k + 1, by omega, by go_num, by rw [HFk.out]; exact HO3.out, HB3.out⟩, by simp [intOf]; omega⟩
        · obtain rfl : k = es.length := by omega
          clear hb1
          go_wp2_with fail
          go_ret
          exact ⟨_, rfl, by rw [HFB.out]; exact HO1.out, HB1.out⟩
end Go.Proofs.YtagehnclkneolaaGreatDoor
