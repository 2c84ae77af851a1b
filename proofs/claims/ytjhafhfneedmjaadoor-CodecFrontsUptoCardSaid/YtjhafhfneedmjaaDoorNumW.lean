/-
  The walks over codec.appendNumber, codec.apart, codec.Number and glacierref1.Number: the bytes, and the number behind them.
-/
import Derived.Test.YtjhafhfneedmjaaDoorApp
import Derived.WalkKit
import Derived.WalkSpells
import Derived.Lib.Hide
import Derived.OwnWalk
namespace Go.Proofs.YtjhafhfneedmjaaDoor
open Go.RowKit

theorem or128 (m : Nat) : bits .or .u8 ((m : Int) % 256) 128 = ((UInt8.ofNat (m % 128 + 128)).toNat : Int) := by
  have h1 := u8_or_nat (m % 256) 128 (by omega) (by decide)
  have all : ∀ a, a < 256 → a ||| 128 = a % 128 + 128 := by decide +kernel
  rw [all _ (by omega), show ((m % 256 : Nat) : Int) = (m : Int) % 256 from by omega] at h1
  rw [toNat_of _ (by omega)]
  rw [show m % 256 % 128 = m % 128 from by omega] at h1
  exact h1

set_option maxRecDepth 100000 in
set_option maxHeartbeats 400000 in
theorem appendNumber_any (v : Value) (l : List UInt8) (n base : Nat) (w : World) (hn : n < 18446744073709551616) (hown : Own w base v l) (hbase : base ≤ w.heap.size) (hlen : l.length ≤ 140737488355300) :
    Calls Tryd.prog 38 #[v, .int .u64 (n : Int)] w fun e w' => ∃ v', e = .returned v' ∧ Own w' base v' (l ++ num n) ∧ Below base w w' := by
  have hnl := num_len10 n hn
  have HN0 := Lib.hid hn
  clear hn
  go_enter Tryd.func38, Tryd.ntmps38
  go_wp2
  go_loopw [0, 1] (fun b x wr => ∃ (m : Nat) (pre : List UInt8), x = .int .u64 (m : Int) ∧ m < 18446744073709551616 ∧ pre ++ num m = num n ∧ Own wr base b (l ++ pre) ∧ Below base w wr) (fun _ x _ => (intOf x).toNat)
  case atStart => exact ⟨n, [], rfl, HN0.out, rfl, by simpa using hown, Below.refl _ _⟩
  case round =>
    obtain ⟨m, pre, rfl, hm, hpre, hown1, hb1⟩ := hrel
    have hpl : pre.length + (num m).length ≤ 10 := by rw [← List.length_append, hpre]; exact hnl
    have HP := Lib.hid hpre
    have HM := Lib.hid hm
    clear hpre hm
    by_cases hlt : m < 128
    · have HN := Lib.hid (num_lo m hlt)
      go_wp2_with (at_builtin; refine wpList_append_rd rfl _ _ rfl base (wr.heap.size + 1) _ _ _ [UInt8.ofNat m] rfl (hown1.alloc _) rfl (Rd.new wr [UInt8.ofNat m] _ _ (by simp [bs, bv, toNat_of _ (show m < 256 by omega)]) (by simp)) (by simp; omega) (by have := hb1.size; simp; omega) ?_; intro v1 w1 hown2 hb2)
      go_ret
      refine ⟨v1, rfl, ?_, (hb1.alloc (by have := hb1.size; omega) _).trans hb2⟩
      rw [← HP.out, HN.out, ← List.append_assoc]
      exact hown2
    · obtain ⟨x, hor, HN⟩ : ∃ x : UInt8, bits .or .u8 ((m : Int) % 256) 128 = (x.toNat : Int) ∧ Hid (num m = x :: num (m / 128)) := ⟨_, or128 m, num_hi m hlt⟩
      go_wp2_with (at_builtin; refine wpList_append_rd rfl _ _ rfl base (wr.heap.size + 1) _ _ _ [x] rfl (hown1.alloc _) rfl (Rd.new wr [x] _ _ rfl (by simp)) (by simp; omega) (by have := hb1.size; simp; omega) ?_; intro v1 w1 hown2 hb2)
      go_roundw
      case rel =>
        refine ⟨m / 128, pre ++ [x], by go_num, by have := HM.out; omega, by rw [← HP.out, HN.out]; simp, by rw [← List.append_assoc]; exact hown2, (hb1.alloc (by have := hb1.size; omega) _).trans hb2⟩
      case measure => simp [intOf]; omega

set_option maxRecDepth 100000 in
set_option maxHeartbeats 400000 in
theorem refNumber_any (v : Value) (l : List UInt8) (n base : Nat) (w : World) (hn : n < 18446744073709551616) (hown : Own w base v l) (hbase : base ≤ w.heap.size) (hlen : l.length ≤ 140737488355300) :
    Calls Tryd.prog 26 #[v, .int .u64 (n : Int)] w fun e w' => ∃ v', e = .returned v' ∧ Own w' base v' (l ++ num n) ∧ Below base w w' := by
  have hnl := num_len10 n hn
  have HN0 := Lib.hid hn
  clear hn
  go_enter Tryd.func26, Tryd.ntmps26
  go_wp2
  go_loopw [0, 1] (fun b x wr => ∃ (m : Nat) (pre : List UInt8), x = .int .u64 (m : Int) ∧ m < 18446744073709551616 ∧ pre ++ num m = num n ∧ Own wr base b (l ++ pre) ∧ Below base w wr) (fun _ x _ => (intOf x).toNat)
  case atStart => exact ⟨n, [], rfl, HN0.out, rfl, by simpa using hown, Below.refl _ _⟩
  case round =>
    obtain ⟨m, pre, rfl, hm, hpre, hown1, hb1⟩ := hrel
    have hpl : pre.length + (num m).length ≤ 10 := by rw [← List.length_append, hpre]; exact hnl
    have HP := Lib.hid hpre
    have HM := Lib.hid hm
    clear hpre hm
    by_cases hlt : m < 128
    · have HN := Lib.hid (num_lo m hlt)
      go_wp2_with (at_builtin; refine wpList_append_rd rfl _ _ rfl base (wr.heap.size + 1) _ _ _ [UInt8.ofNat m] rfl (hown1.alloc _) rfl (Rd.new wr [UInt8.ofNat m] _ _ (by simp [bs, bv, toNat_of _ (show m < 256 by omega)]) (by simp)) (by simp; omega) (by have := hb1.size; simp; omega) ?_; intro v1 w1 hown2 hb2)
      go_ret
      refine ⟨v1, rfl, ?_, (hb1.alloc (by have := hb1.size; omega) _).trans hb2⟩
      rw [← HP.out, HN.out, ← List.append_assoc]
      exact hown2
    · obtain ⟨x, hor, HN⟩ : ∃ x : UInt8, bits .or .u8 ((m : Int) % 256) 128 = (x.toNat : Int) ∧ Hid (num m = x :: num (m / 128)) := ⟨_, or128 m, num_hi m hlt⟩
      go_wp2_with (at_builtin; refine wpList_append_rd rfl _ _ rfl base (wr.heap.size + 1) _ _ _ [x] rfl (hown1.alloc _) rfl (Rd.new wr [x] _ _ rfl (by simp)) (by simp; omega) (by have := hb1.size; simp; omega) ?_; intro v1 w1 hown2 hb2)
      go_roundw
      case rel =>
        refine ⟨m / 128, pre ++ [x], by go_num, by have := HM.out; omega, by rw [← HP.out, HN.out]; simp, by rw [← List.append_assoc]; exact hown2, (hb1.alloc (by have := hb1.size; omega) _).trans hb2⟩
      case measure => simp [intOf]; omega

set_option maxHeartbeats 400000 in
theorem apart_any (v : Value) (l : List UInt8) (more B : Nat) (w : World) (h : Rd w B v l) (hB : B ≤ w.heap.size) (hm : l.length + more ≤ 140737488355328) :
    Calls Tryd.prog 39 #[v, .int .i64 (more : Int)] w fun e w' => ∃ v', e = .returned v' ∧ Own w' w.heap.size v' l ∧ Below w.heap.size w w' := by
  obtain ⟨i0, hi, hz0, hz1, hz2⟩ := info_parts infoU8
  have hrd := h
  obtain ⟨p, cap, rfl, hlc, hl47, hcm, hat⟩ := h.form
  clear h hat
  have HR := Lib.hid hrd
  clear hrd
  go_enter Tryd.func39, Tryd.ntmps39
  go_wp2_with (first
    | (at_make; refine wpList_make_own _ rfl _ _ 28 rfl w.heap.size 5 i0 (.int .u8 0) 1 Tryd.underlying28 hi hz0 hz1 .i64 .i64 _ (l.length + more) rfl rfl (by omega) (by rw [hz2]; omega) (by unfold maxLen; omega) (Nat.le_refl _) ?_; intro w0 hown0 hg0)
    | (at_builtin; refine wpList_append_rd rfl _ _ rfl w.heap.size B _ _ [] l rfl (Own.of hown0 rfl rfl) rfl (HR.out.under ((Below.refl w.heap.size w).grown hg0 (Nat.le_refl _) (fun k hk => by cases hk)) hB) (by simp; omega) hg0.size ?_; intro v1 w1 hown1 hb1))
  go_ret
  exact ⟨v1, rfl, hown1, ((Below.refl w.heap.size w).grown hg0 (Nat.le_refl _) (fun k hk => by cases hk)).trans hb1⟩

set_option maxHeartbeats 400000 in
theorem number_any (v : Value) (l : List UInt8) (n B : Nat) (w : World) (hn : n < 18446744073709551616) (h : Rd w B v l) (hB : B ≤ w.heap.size) (hm : l.length ≤ 140737488355000) :
    Calls Tryd.prog 25 #[v, .int .u64 (n : Int)] w fun e w' => ∃ v', e = .returned v' ∧ Own w' w.heap.size v' (l ++ num n) ∧ Below w.heap.size w w' := by
  have HR := Lib.hid h
  have HN := Lib.hid hn
  clear h hn
  go_enter Tryd.func25, Tryd.ntmps25
  go_wp2_with fail
  refine (apart_any v l 10 B w HR.out hB (by omega)).mono ?_
  rintro e w1 ⟨v1, rfl, hown1, hb1⟩
  go_wp2_with fail
  refine (appendNumber_any v1 l n w.heap.size w1 HN.out hown1 hb1.size (by omega)).mono ?_
  rintro e w2 ⟨v2, rfl, hown2, hb2⟩
  go_wp2_with fail
  go_ret
  exact ⟨v2, rfl, hown2, hb1.trans hb2⟩
end Go.Proofs.YtjhafhfneedmjaaDoor
