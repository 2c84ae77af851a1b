import Derived.Test.YtlbfgkocpjlamaaGreatDoorCA
import Derived.Test.YtlbfgkocpjlamaaGreatDoorBlk
import Derived.Below
import Derived.Laws.AppendOwn
import Derived.Laws.OwnMore
import Derived.Deep.Draws
import Derived.Test.YtlbfgkocpjlamaaGreatDoorRows
import Derived.Laws.AppendOwnNone
import Derived.Deep.MidRow
import Derived.WalkKit
import Derived.OwnWalk
import Derived.Laws.Rows
import Derived.Laws.IdiomStrings
import Derived.WalkSpells
import Derived.BigQuiet
import Derived.Deep.QuietTactic
import Derived.Lib.Hide
import Derived.Lib.SlBytesConst

/-
  A slice of bytes, told by a list of bytes: 'Rd w B v l': the value v is a slice of the bytes l whose cells lie below block B of the world w; a slice of slices, told by a list of lists: 'RdL'. What both survive.
-/
namespace Go.Proofs.YtlbfgkocpjlamaaGreatDoor
open Go.RowKit

section
variable {w w' : World} {B B' : Nat} {v : Value} {l : List UInt8}
end

section
variable {w w' : World} {base : Nat} {v : Value} {l m : List UInt8}
end

section
variable {w w' : World} {B B' : Nat} {v : Value} {ls : List (List UInt8)}
end

/-- The two tables lie in the first two blocks. -/
def Tabs (w : World) : Prop :=
  (∀ i, i < 16 → w.cell? ⟨0, i, none⟩ = some (.int .u32 ((lowT.getD i 0 : Nat) : Int))) ∧ ∀ i, i < 16 → w.cell? ⟨1, i, none⟩ = some (.int .u32 ((highT.getD i 0 : Nat) : Int))
theorem Tabs.keep {w w' : World} (h : Tabs w) (hk : ∀ b off, b < 2 → w'.cell? ⟨b, off, none⟩ = w.cell? ⟨b, off, none⟩) : Tabs w' :=
  ⟨fun i hi => (hk 0 i (by omega)).trans (h.1 i hi), fun i hi => (hk 1 i (by omega)).trans (h.2 i hi)⟩
theorem Tabs.under {w w' : World} {B : Nat} (h : Tabs w) (hb : Below B w w') (hB : 2 ≤ B) : Tabs w' := h.keep fun b off hlt => below_cells hb b off (Nat.lt_of_lt_of_le hlt hB)
theorem Tabs.drewN {w : World} (h : Tabs w) (n : Nat) : Tabs (w.drewN n) := h
theorem Tabs.two {w : World} (h : Tabs w) : 2 ≤ w.heap.size := cell_lt (h.2 0 (by omega))
end Go.Proofs.YtlbfgkocpjlamaaGreatDoor

/-
  append onto a row of bytes of the call's own, from whatever bytes: one law for the walk; what a new block of bytes reads as.
-/
namespace Go.Proofs.YtlbfgkocpjlamaaGreatDoor
open Go.RowKit

end Go.Proofs.YtlbfgkocpjlamaaGreatDoor

/-
  The walks over glacierref1.step, glacierref1.Sum and codec.Sum: each answers the CRC-32C.
-/
namespace Go.Proofs.YtlbfgkocpjlamaaGreatDoor
open Go.RowKit

theorem and1 (z : Nat) (h : z < 4294967296) : bits .and .u32 (z : Int) 1 = (z : Int) % 2 := by
  have h1 := u32_and_nat z 1 h (by decide)
  rw [Nat.and_one_is_mod] at h1
  rw [Int.natCast_emod] at h1
  exact h1
theorem xorP (z : Nat) (h : z < 4294967296) : bits .xor .u32 ((z : Int) / 2) 2197175160 = ((z / 2 ^^^ 2197175160 : Nat) : Int) := by
  have h1 := u32_xor_nat (z / 2) 2197175160 (by omega) (by decide)
  rw [Int.natCast_ediv] at h1
  exact h1
theorem stp_odd (z : Nat) (h : z % 2 = 1) : stp z = z / 2 ^^^ 2197175160 := if_pos h
theorem stp_even (z : Nat) (h : ¬ z % 2 = 1) : stp z = z / 2 := if_neg h

theorem low_lt (i : Nat) : lowT.getD i 0 < 4294967296 := by
  by_cases h : i < 16
  · have all : ∀ j, j < 16 → lowT.getD j 0 < 4294967296 := by decide
    exact all i h
  · have hn : lowT[i]? = none := List.getElem?_eq_none (by show 16 ≤ i; omega)
    simp [List.getD, hn]
theorem high_lt (i : Nat) : highT.getD i 0 < 4294967296 := by
  by_cases h : i < 16
  · have all : ∀ j, j < 16 → highT.getD j 0 < 4294967296 := by decide
    exact all i h
  · have hn : highT[i]? = none := List.getElem?_eq_none (by show 16 ≤ i; omega)
    simp [List.getD, hn]
theorem ret_cast {k : IntKind} {a b : Nat} (h : a = b) : Value.int k (a : Int) = .int k (b : Int) := by rw [h]

set_option maxHeartbeats 400000 in
theorem sum_any (v : Value) (ls : List (List UInt8)) (B : Nat) (w : World) (h : RdL w B v ls) (ht : Tabs w) :
    Calls Tryz.prog 46 #[v] w fun e w' => e = .returned (.int .u32 (crc ls.flatten : Int)) ∧ ∃ n, w.drewN n = w' := by
  obtain ⟨p, cap, rfl, hlc, hl47, hcm, hat⟩ := h
  have HA := Lib.hid hat
  have HT := Lib.hid ht
  clear hat ht
  go_enter Tryz.func46, Tryz.ntmps46
  go_wp2
  go_loopw [3, 11] (fun t i wr => ∃ k n : Nat, k ≤ ls.length ∧ t = .int .u32 (crcL 4294967295 (ls.take k).flatten : Int) ∧ i = .int .i64 (k : Int) ∧ wr = w.drewN n) (fun _ i _ => ls.length - (intOf i).toNat)
  case atStart => exact ⟨0, 0, by omega, rfl, rfl, rfl⟩
  case round =>
    obtain ⟨k, n, hk, rfl, rfl, rfl⟩ := hrel
    by_cases hlt : k < ls.length
    · obtain ⟨b, off, u, rfl, hb, hc, hr⟩ := HA.out k _ (List.getElem?_eq_getElem hlt)
      have hfl : crcL 4294967295 (ls.take (k + 1)).flatten = crcL (crcL 4294967295 (ls.take k).flatten) ls[k] := by
        rw [take_snoc ls k _ (List.getElem?_eq_getElem hlt), List.flatten_append, crcL_append]
        simp
      have hc0 := crcL_lt (ls.take k).flatten 4294967295 (by decide)
      have HL := Lib.hid hfl
      clear hfl
      generalize ls[k] = l at *
      generalize crcL 4294967295 (ls.take k).flatten = c0 at *
      obtain ⟨p2, cap2, rfl, hlc2, hl472, hcm2, hat2⟩ := hr.form
      have HA2 := Lib.hid hat2
      clear hr hat2
      go_wp2
      go_loopw [3, 17] (fun t i wr => ∃ j m : Nat, j ≤ l.length ∧ t = .int .u32 (crcL c0 (l.take j) : Int) ∧ i = .int .i64 (j : Int) ∧ wr = w.drewN m) (fun _ i _ => l.length - (intOf i).toNat)
      case atStart => exact ⟨0, n, by omega, rfl, rfl, rfl⟩
      case round =>
        obtain ⟨j, m, hj, rfl, rfl, rfl⟩ := hrel
        by_cases hlt2 : j < l.length
        · obtain ⟨b2, off2, x, rfl, hb2, hx, hcx⟩ := HA2.out j hlt2
          have HX := Lib.hid (show crcL c0 (l.take (j + 1)) = crcByte (crcL c0 (l.take j)) x by rw [take_snoc l j x hx, crcL_snoc])
          have hclt := crcL_lt (l.take j) c0 hc0
          clear hx
          generalize crcL c0 (l.take j) = c at *
          have hx8 : x.toNat < 256 := x.toNat_lt
          have HB := Lib.hid (byTable c x)
          have hxor : bits .xor .u8 ((c : Int) % 256) (x.toNat : Int) = ((c % 256 ^^^ x.toNat : Nat) : Int) := by
            have h1 := u8_xor_nat (c % 256) x.toNat (by omega) hx8
            rw [Int.natCast_emod] at h1
            exact h1
          have hy : c % 256 ^^^ x.toNat < 256 := Nat.xor_lt_two_pow (n := 8) (by omega) hx8
          generalize c % 256 ^^^ x.toNat = y at *
          have hand : bits .and .u8 (y : Int) 15 = (y : Int) % 16 := u8_and15 _ (by omega) (by omega)
          have hlo := HT.out.1 (y % 16) (by omega)
          have hhi := HT.out.2 (y / 16) (by omega)
          have hL := low_lt (y % 16)
          have hH := high_lt (y / 16)
          generalize lowT.getD (y % 16) 0 = L at *
          generalize highT.getD (y / 16) 0 = H at *
          have hx1 := u32_xor_nat L H hL hH
          have hx2 := u32_xor_nat (L ^^^ H) (c / 256) (xor_lt32 _ _ hL hH) (by omega)
          rw [show ((c / 256 : Nat) : Int) = (c : Int) / 256 from by omega] at hx2
          go_wp2
          go_quiet (fail)
          go_wp2
          go_roundw
          case rel => exact ⟨j + 1, m + nq, by omega, ret_cast (by rw [HX.out, HB.out]), by go_num, by go_num⟩
          case measure => simp [intOf]; omega
        · go_wp2
          go_roundw
          case rel => exact ⟨k + 1, m, by omega, ret_cast (by rw [HL.out, List.take_of_length_le (by omega)]), by go_num, rfl⟩
          case measure => simp [intOf]; omega
    · have hcr := u32_xor_nat 4294967295 (crcL 4294967295 (ls.take k).flatten) (by decide) (crcL_lt _ _ (by decide))
      have e : (4294967295 ^^^ crcL 4294967295 (ls.take k).flatten) = crc ls.flatten := by rw [List.take_of_length_le (by omega), Nat.xor_comm]; rfl
      rw [e] at hcr
      have HC := Lib.hid hcr
      clear hcr e
      generalize crcL 4294967295 (ls.take k).flatten = c at *
      go_wp2
      go_ret
      exact ⟨ret_int HC.out, n, rfl⟩
end Go.Proofs.YtlbfgkocpjlamaaGreatDoor

/-
  The walks over codec.appendNumber, codec.apart, codec.Number and glacierref1.Number: the bytes, and the number behind them.
-/
namespace Go.Proofs.YtlbfgkocpjlamaaGreatDoor
open Go.RowKit

theorem or128 (m : Nat) : bits .or .u8 ((m : Int) % 256) 128 = ((UInt8.ofNat (m % 128 + 128)).toNat : Int) := by
  have h1 := u8_or_nat (m % 256) 128 (by omega) (by decide)
  have all : ∀ a, a < 256 → a ||| 128 = a % 128 + 128 := by decide +kernel
  rw [all _ (by omega), show ((m % 256 : Nat) : Int) = (m : Int) % 256 from by omega] at h1
  rw [toNat_ofC _ (by omega)]
  rw [show m % 256 % 128 = m % 128 from by omega] at h1
  exact h1

set_option maxRecDepth 100000 in
set_option maxHeartbeats 400000 in
theorem appendNumber_any (v : Value) (l : List UInt8) (n base : Nat) (w : World) (hn : n < 18446744073709551616) (hown : Own w base v l) (hbase : base ≤ w.heap.size) (hlen : l.length ≤ 140737488355300) :
    Calls Tryz.prog 44 #[v, .int .u64 (n : Int)] w fun e w' => ∃ v', e = .returned v' ∧ Own w' base v' (l ++ num n) ∧ Below base w w' := by
  have hnl := num_len10 n hn
  have HN0 := Lib.hid hn
  clear hn
  go_enter Tryz.func44, Tryz.ntmps44
  go_wp2
  go_loopw [0, 1] (fun b x wr => ∃ (m : Nat) (pre : List UInt8), x = .int .u64 (m : Int) ∧ m < 18446744073709551616 ∧ pre ++ num m = num n ∧ Own wr base b (l ++ pre) ∧ Below base w wr) (fun _ x _ => (intOf x).toNat)
  case atStart => exact ⟨n, [], rfl, HN0.out, rfl, by simpa using hown, Below.refl _ _⟩
  case round =>
    obtain ⟨m, pre, rfl, hm, hpre, hown1, hb1⟩ := hrel
    have hpl : pre.length + (num m).length ≤ 10 := by rw [← List.length_append, hpre]; exact hnl
    have HP := Lib.hid hpre
    have HM := Lib.hid hm
    clear hpre hm
    by_cases hlt : m < 128
    · have HN := Lib.hid (num_lo m hlt)
      go_wp2_with (at_builtin; refine wpList_append_rd rfl _ _ rfl base (wr.heap.size + 1) _ _ _ [UInt8.ofNat m] rfl (hown1.alloc _) rfl (Rd.new wr [UInt8.ofNat m] _ _ (by simp [bs, bv, toNat_ofC _ (show m < 256 by omega)]) (by simp)) (by simp; omega) (by have := hb1.size; simp; omega) ?_; intro v1 w1 hown2 hb2)
      go_ret
      refine ⟨v1, rfl, ?_, (hb1.alloc (by have := hb1.size; omega) _).trans hb2⟩
      rw [← HP.out, HN.out, ← List.append_assoc]
      exact hown2
    · obtain ⟨x, hor, HN⟩ : ∃ x : UInt8, bits .or .u8 ((m : Int) % 256) 128 = (x.toNat : Int) ∧ Hid (num m = x :: num (m / 128)) := ⟨_, or128 m, num_hi m hlt⟩
      go_wp2_with (at_builtin; refine wpList_append_rd rfl _ _ rfl base (wr.heap.size + 1) _ _ _ [x] rfl (hown1.alloc _) rfl (Rd.new wr [x] _ _ rfl (by simp)) (by simp; omega) (by have := hb1.size; simp; omega) ?_; intro v1 w1 hown2 hb2)
      go_roundw
      case rel =>
        refine ⟨m / 128, pre ++ [x], by go_num, by have := HM.out; omega, by rw [← HP.out, HN.out]; simp, by rw [← List.append_assoc]; exact hown2, (hb1.alloc (by have := hb1.size; omega) _).trans hb2⟩
      case measure => simp [intOf]; omega

end Go.Proofs.YtlbfgkocpjlamaaGreatDoor

/-
  The walks over codec.badEnd, codec.ReadNumber and glacierref1.ReadNumber: the number at the front of any bytes, or the error.
-/
namespace Go.Proofs.YtlbfgkocpjlamaaGreatDoor
open Go.RowKit

def bad (x : UInt8) (i : Nat) : Bool := decide ((0 < i ∧ x.toNat = 0) ∨ (i = 9 ∧ 1 < x.toNat))

set_option maxHeartbeats 400000 in
theorem badEnd_any (x : UInt8) (i : Nat) (b : Bool) (w : World) (hi : i ≤ 9) (hb : bad x i = b) :
    Calls Tryz.prog 115 #[.int .u8 (x.toNat : Int), .int .i64 (i : Int)] w fun e w' => e = .returned (.bool b) ∧ w = w' := by
  have hx : x.toNat < 256 := x.toNat_lt
  have HB := Lib.hid hb
  clear hb
  by_cases h0 : 0 < i
  · have d0 : decide ((0 : Int) < (i : Int)) = true := by simp; omega
    by_cases hx0 : x.toNat = 0
    · have e0 : ((x.toNat : Int) == 0) = true := by simp; omega
      have hf : b = true := by rw [← HB.out]; unfold bad; simp [h0, hx0]
      subst hf
      clear hx0
      go_enter Tryz.func115, Tryz.ntmps115
      go_wp2
      go_ret
      exact ⟨rfl, rfl⟩
    · have e0 : ((x.toNat : Int) == 0) = false := by simp; omega
      by_cases h9 : i = 9
      · subst h9
        by_cases h1 : 1 < x.toNat
        · have d1 : decide ((1 : Int) < (x.toNat : Int)) = true := by simp; omega
          have hf : b = true := by rw [← HB.out]; unfold bad; simp [h1]
          subst hf
          clear hx0
          go_enter Tryz.func115, Tryz.ntmps115
          go_wp2
          go_ret
          exact ⟨rfl, rfl⟩
        · have d1 : decide ((1 : Int) < (x.toNat : Int)) = false := by simp; omega
          have hf : b = false := by rw [← HB.out]; unfold bad; simp [h1, hx0]
          subst hf
          clear hx0
          go_enter Tryz.func115, Tryz.ntmps115
          go_wp2
          go_ret
          exact ⟨rfl, rfl⟩
      · have e9 : ((i : Int) == 9) = false := by simp; omega
        have hf : b = false := by rw [← HB.out]; unfold bad; simp [h9, hx0]
        subst hf
        clear hx0 h9
        go_enter Tryz.func115, Tryz.ntmps115
        go_wp2
        go_ret
        exact ⟨rfl, rfl⟩
  · have hi0 : i = 0 := by omega
    subst hi0
    have hf : b = false := by rw [← HB.out]; unfold bad; simp
    subst hf
    go_enter Tryz.func115, Tryz.ntmps115
    go_wp2
    go_ret
    exact ⟨rfl, rfl⟩

theorem and127 (x : UInt8) : bits .and .u8 (x.toNat : Int) 127 = (x.toNat : Int) % 128 :=
  bits_mask .u8 8 (by decide) wraps_u8 7 (by decide) _ (by omega) (by have := x.toNat_lt; omega)
theorem and128lo (x : UInt8) (h : x.toNat < 128) : bits .and .u8 (x.toNat : Int) 128 = 0 := by
  have h1 := u8_and_nat x.toNat 128 (by omega) (by decide)
  have all : ∀ a, a < 128 → a &&& 128 = 0 := by decide +kernel
  rw [all _ h] at h1
  exact h1
theorem and128hi (x : UInt8) (h : ¬ x.toNat < 128) : bits .and .u8 (x.toNat : Int) 128 = 128 := by
  have hx := x.toNat_lt
  have h1 := u8_and_nat x.toNat 128 (by omega) (by decide)
  have all : ∀ a, a < 256 → ¬ a < 128 → a &&& 128 = 128 := by decide +kernel
  rw [all _ (by omega) h] at h1
  exact h1

theorem fuelC (k : Nat) (hk : k < 10) : 10 - k = 9 - k + 1 := by omega
theorem rd_bad (k X : Nat) (x : UInt8) (r : List UInt8) (hk : k < 10) (hx : x.toNat < 128) (hb : bad x k = true) : rdF (10 - k) k X (x :: r) = (0, 0, 12) := by
  unfold bad at hb
  have h := of_decide_eq_true hb
  rw [fuelC k hk, rdF, if_pos hx, if_pos (by omega)]
theorem rd_last (k X : Nat) (x : UInt8) (r : List UInt8) (hk : k < 10) (hx : x.toNat < 128) (hb : bad x k = false) : rdF (10 - k) k X (x :: r) = (X + x.toNat * 2 ^ (7 * k), k + 1, 0) := by
  unfold bad at hb
  have h := of_decide_eq_false hb
  rw [fuelC k hk, rdF, if_pos hx, if_neg (by omega)]
theorem rd_more (k X : Nat) (x : UInt8) (r : List UInt8) (hk : k < 10) (hx : ¬ x.toNat < 128) : rdF (10 - k) k X (x :: r) = rdF (10 - (k + 1)) (k + 1) (X + (x.toNat - 128) * 2 ^ (7 * k)) r := by
  rw [fuelC k hk, rdF, if_neg hx, show 10 - (k + 1) = 9 - k from by omega]
theorem rd_short (k X : Nat) (hk : k < 10) : rdF (10 - k) k X [] = (0, 0, 11) := by rw [fuelC k hk, rdF]
theorem mul_small (y k : Nat) (hk : k ≤ 9) (hy : y < 128) (h9 : k = 9 → y ≤ 1) : y * 2 ^ (7 * k) < 18446744073709551616 := by
  by_cases h : k = 9
  · subst h
    have := h9 rfl
    omega
  · have h1 : y * 2 ^ (7 * k) ≤ 127 * 2 ^ 56 := Nat.mul_le_mul (by omega) (Nat.pow_le_pow_right (by decide) (by omega))
    omega
theorem or_shl (X y k : Nat) (hX : X < 2 ^ (7 * k)) (hk : k ≤ 9) (hy : y < 128) (h9 : k = 9 → y ≤ 1) :
    bits .or .u64 (X : Int) (IntKind.u64.wrap ((y : Int) * 2 ^ (7 * k))) = ((X + y * 2 ^ (7 * k) : Nat) : Int) := by
  have hs := mul_small y k hk hy h9
  have hX2 : X < 18446744073709551616 := by
    have h1 : 2 ^ (7 * k) ≤ 2 ^ 63 := Nat.pow_le_pow_right (by decide) (by omega)
    omega
  have e : (y : Int) * 2 ^ (7 * k) = ((y * 2 ^ (7 * k) : Nat) : Int) := by simp
  have ew : IntKind.u64.wrap ((y * 2 ^ (7 * k) : Nat) : Int) = ((y * 2 ^ (7 * k) : Nat) : Int) := by rw [IntKind.wrap_u64]; omega
  rw [e, ew, u64_or_nat _ _ hX2 hs]
  congr 1
  rw [Nat.or_comm, Nat.mul_comm y, ← Nat.two_pow_add_eq_or_of_lt hX, Nat.add_comm]
theorem or_shl_byte (X k : Nat) (x : UInt8) (hX : X < 2 ^ (7 * k)) (hk : k ≤ 9) (h9 : k = 9 → x.toNat % 128 ≤ 1) :
    bits .or .u64 (X : Int) (IntKind.u64.wrap ((x.toNat : Int) % 128 * 2 ^ (7 * k))) = ((X + x.toNat % 128 * 2 ^ (7 * k) : Nat) : Int) := by
  have h := or_shl X (x.toNat % 128) k hX hk (by omega) h9
  rw [show ((x.toNat % 128 : Nat) : Int) = (x.toNat : Int) % 128 from by omega] at h
  exact h
theorem ret3 {a b c : Nat} {V : Int} {r : Nat × Nat × Nat} (h : r = (a, b, c)) (hV : V = (a : Int)) :
    Ending.returned (.tuple #[.int .u64 V, .int .i64 (b : Int), .int .i64 (c : Int)]) = .returned (.tuple #[.int .u64 (r.1 : Int), .int .i64 (r.2.1 : Int), .int .i64 (r.2.2 : Int)]) := by rw [h, hV]

set_option maxRecDepth 100000 in
set_option maxHeartbeats 400000 in
theorem readNumber_any (v : Value) (l : List UInt8) (B : Nat) (w : World) (h : Rd w B v l) :
    Calls Tryz.prog 99 #[v] w fun e w' => e = .returned (.tuple #[.int .u64 ((rdNum l).1 : Int), .int .i64 ((rdNum l).2.1 : Int), .int .i64 ((rdNum l).2.2 : Int)]) ∧ w = w' := by
  obtain ⟨p, cap, rfl, hlc, hl47, hcm, hat⟩ := h.form
  clear h
  have HA := Lib.hid hat
  clear hat
  go_enter Tryz.func99, Tryz.ntmps99
  go_wp2
  go_loop [5, 8] (fun t i => ∃ (k X : Nat) (V : Int), k ≤ 10 ∧ k ≤ l.length ∧ i = .int .i64 (k : Int) ∧ t = .int .u64 V ∧ (k ≤ 9 → V = (X : Int) ∧ X < 2 ^ (7 * k)) ∧ rdNum l = rdF (10 - k) k X (l.drop k)) (fun _ i => 10 - (intOf i).toNat)
  case atStart => exact ⟨0, 0, 0, by omega, by omega, rfl, rfl, fun _ => ⟨rfl, by decide⟩, rfl⟩
  case round =>
    obtain ⟨k, X, V, hk, hkl, rfl, rfl, hV, hd⟩ := hrel
    have HV := Lib.hid hV
    have HD := Lib.hid hd
    clear hV hd
    by_cases hlt : k < 10
    · by_cases hlen : k < l.length
      · obtain ⟨b, off, x, rfl, hb, hx, hc⟩ := HA.out k hlen
        have hx8 : x.toNat < 256 := x.toNat_lt
        have HX := Lib.hid (show l.drop k = x :: l.drop (k + 1) by
          rw [List.drop_eq_getElem_cons hlen]
          rw [List.getElem?_eq_getElem hlen] at hx
          injection hx with hx
          rw [hx])
        clear hx
        have hne : ((k : Int) == (l.length : Int)) = false := by simp; omega
        have h127 := and127 x
        obtain ⟨rfl, hX⟩ := HV.out (by omega)
        clear HV
        have HXl := Lib.hid hX
        clear hX
        by_cases h128 : x.toNat < 128
        · have ha := and128lo x h128
          cases hbad : bad x k
          · have hv : Hid (bits .or .u64 (X : Int) (IntKind.u64.wrap ((x.toNat : Int) % 128 * 2 ^ (7 * k))) = ((X + x.toNat * 2 ^ (7 * k) : Nat) : Int)) := by
              unfold bad at hbad
              have h := of_decide_eq_false hbad
              have h2 := or_shl_byte X k x HXl.out (by omega) (by omega)
              rw [show x.toNat % 128 = x.toNat from by omega] at h2
              exact h2
            have HR := Lib.hid (show rdNum l = (X + x.toNat * 2 ^ (7 * k), k + 1, 0) by rw [HD.out, HX.out, rd_last k X x _ hlt h128 hbad])
            have HBad := Lib.hid hbad
            clear hbad HD HX
            go_wp2_with (go_at_call 115; refine (badEnd_any x k false _ (by omega) HBad.out).mono ?_; rintro e w' ⟨rfl, rfl⟩)
            go_ret3
            exact ⟨ret3 HR.out hv.out, rfl⟩
          · have HR := Lib.hid (show rdNum l = (0, 0, 12) by rw [HD.out, HX.out, rd_bad k X x _ hlt h128 hbad])
            have HBad := Lib.hid hbad
            clear hbad HD HX
            go_wp2_with (go_at_call 115; refine (badEnd_any x k true _ (by omega) HBad.out).mono ?_; rintro e w' ⟨rfl, rfl⟩)
            go_ret3
            exact ⟨ret3 HR.out rfl, rfl⟩
        · have ha := and128hi x h128
          have HR := Lib.hid (show rdNum l = rdF (10 - (k + 1)) (k + 1) (X + (x.toNat - 128) * 2 ^ (7 * k)) (l.drop (k + 1)) by rw [HD.out, HX.out, rd_more k X x _ hlt h128])
          have hv : Hid (k + 1 ≤ 9 → bits .or .u64 (X : Int) (IntKind.u64.wrap ((x.toNat : Int) % 128 * 2 ^ (7 * k))) = ((X + (x.toNat - 128) * 2 ^ (7 * k) : Nat) : Int) ∧ X + (x.toNat - 128) * 2 ^ (7 * k) < 2 ^ (7 * (k + 1))) := by
            intro h9
            have h2 := or_shl_byte X k x HXl.out (by omega) (by omega)
            rw [show x.toNat % 128 = x.toNat - 128 from by omega] at h2
            refine ⟨h2, ?_⟩
            rw [pow_step]
            have h3 : (x.toNat - 128) * 2 ^ (7 * k) ≤ 127 * 2 ^ (7 * k) := Nat.mul_le_mul_right _ (by omega)
            have h4 := HXl.out
            omega
          clear HD HX
          go_wp2_with fail
          exact ⟨⟨k + 1, _, _, by omega, by omega, by go_num, rfl, hv.out, HR.out⟩, by simp [intOf]; omega⟩
      · obtain rfl : k = l.length := by omega
        have HR := Lib.hid (show rdNum l = (0, 0, 11) by rw [HD.out, List.drop_length, rd_short _ X hlt])
        have hne : ((l.length : Int) == (l.length : Int)) = true := by simp
        clear HD
        go_wp2_with fail
        go_ret3
        exact ⟨ret3 HR.out rfl, rfl⟩
    · obtain rfl : k = 10 := by omega
      have HR := Lib.hid (show rdNum l = (0, 0, 12) by rw [HD.out]; rfl)
      clear HD HV
      go_wp2_with fail
      go_ret3
      exact ⟨ret3 HR.out rfl, rfl⟩

theorem and127_64 (x : UInt8) : bits .and .u64 (x.toNat : Int) 127 = (x.toNat : Int) % 128 := by
  have hx := x.toNat_lt
  have h1 := u64_and_nat x.toNat 127 (by omega) (by decide)
  have all : ∀ a, a < 256 → a &&& 127 = a % 128 := by decide +kernel
  rw [all _ (by omega)] at h1
  exact h1.trans (by omega)
theorem rd_nine (X : Nat) (x : UInt8) (r : List UInt8) (h : 1 < x.toNat) : rdF (10 - 9) 9 X (x :: r) = (0, 0, 12) := by
  by_cases hx : x.toNat < 128
  · exact rd_bad 9 X x r (by omega) hx (by unfold bad; simp [h])
  · rw [rd_more 9 X x r (by omega) hx]
    rfl

end Go.Proofs.YtlbfgkocpjlamaaGreatDoor

/-
  The walks over codec.appendSum, codec.Frames, codec.Frame and their like in glacierref1.
-/
namespace Go.Proofs.YtlbfgkocpjlamaaGreatDoor
open Go.RowKit

theorem Own.drewN {w : World} {base : Nat} {v : Value} {l : List UInt8} (h : Own w base v l) (n : Nat) : Own (w.drewN n) base v l := h
theorem RdL.one {w : World} {B : Nat} {u : Value} {l : List UInt8} (h : Rd w B u l) (hB : B ≤ w.heap.size) (t : TypeId) :
    RdL (w.alloc (.cells #[u] t)) (w.heap.size + 1) (.slice (some ⟨w.heap.size, 0, none⟩) 1 1) [l] := by
  refine ⟨_, _, rfl, by simp, by simp, by omega, fun k l' hl => ?_⟩
  obtain rfl : k = 0 := by
    have := (List.getElem?_eq_some_iff.1 hl).1
    simp at this
    omega
  obtain rfl : l = l' := by simpa using hl
  refine ⟨_, _, u, rfl, by omega, ?_, (h.under ((Below.refl w.heap.size w).alloc (Nat.le_refl _) _) hB).more (by omega)⟩
  rw [Nat.zero_add, cell_of_row _ _ _ _ _ _ (heap_alloc_new w (.cells #[u] t))]
  rfl
theorem below_alloc (w : World) (o : Obj) : Below w.heap.size w (w.alloc o) := (Below.refl _ _).alloc (Nat.le_refl _) o

theorem four_cells (s : Nat) (h : s < 4294967296) : #[Value.int .u8 ((s : Int) % 256), .int .u8 ((s : Int) / 256 % 256), .int .u8 ((s : Int) / 65536 % 256), .int .u8 ((s : Int) / 16777216)] = (bs (four s)).toArray := by
  have e0 : ((UInt8.ofNat (s % 256)).toNat : Int) = (s : Int) % 256 := by rw [toNat_ofC _ (by omega)]; omega
  have e1 : ((UInt8.ofNat (s / 256 % 256)).toNat : Int) = (s : Int) / 256 % 256 := by rw [toNat_ofC _ (by omega)]; omega
  have e2 : ((UInt8.ofNat (s / 65536 % 256)).toNat : Int) = (s : Int) / 65536 % 256 := by rw [toNat_ofC _ (by omega)]; omega
  have e3 : ((UInt8.ofNat (s / 16777216 % 256)).toNat : Int) = (s : Int) / 16777216 := by rw [toNat_ofC _ (by omega)]; omega
  unfold bs four bv
  simp only [List.map_cons, List.map_nil, e0, e1, e2, e3]

set_option maxHeartbeats 400000 in
theorem appendSum_any (v : Value) (l : List UInt8) (s base : Nat) (w : World) (hs : s < 4294967296) (hown : Own w base v l) (hbase : base ≤ w.heap.size) (hlen : l.length ≤ 140737488355300) :
    Calls Tryz.prog 45 #[v, .int .u32 (s : Int)] w fun e w' => ∃ v', e = .returned v' ∧ Own w' base v' (l ++ four s) ∧ Below base w w' := by
  go_enter Tryz.func45, Tryz.ntmps45
  go_wp2_with (at_builtin; refine wpList_append_rd rfl _ _ rfl base (w.heap.size + 1) _ _ _ (four s) rfl (hown.alloc _) rfl (Rd.new w (four s) _ _ (four_cells s hs) (by simp [four])) (by simp [four]; omega) (by simp; omega) ?_; intro v1 w1 hown2 hb2)
  go_ret
  exact ⟨v1, rfl, hown2, ((below_alloc w _).mono hbase).trans hb2⟩

set_option maxHeartbeats 400000 in
theorem frames_any (v : Value) (ls : List (List UInt8)) (B : Nat) (w : World) (h : RdL w B v ls) (hB : B ≤ w.heap.size) (ht : Tabs w) (hr : roomC ls ≤ 140737488355000) :
    Calls Tryz.prog 27 #[v] w fun e w' => ∃ v', e = .returned v' ∧ Own w' w.heap.size v' (frames ls) ∧ Below w.heap.size w w' := by
  obtain ⟨i0, hi, hz0, hz1, hz2⟩ := info_parts infoU8
  have hfr : ∀ k, (frames (ls.take k)).length ≤ 140737488355000 := fun k => by
    have h1 := frames_length (ls.take k) (by have h2 := room_take ls k; unfold roomC at h2 hr; omega)
    have h2 := room_take ls k
    omega
  have hel : ∀ (k : Nat) (l : List UInt8), ls[k]? = some l → l.length ≤ 140737488355000 := fun k l hl => by
    have h1 := flat_mem ls k l hl
    unfold roomC at hr
    omega
  obtain ⟨p, cap, rfl, hlc, hl47, hcm, hat⟩ := h
  have HA := Lib.hid hat
  have HT := Lib.hid ht
  have HF := Lib.hid hfr
  have HE := Lib.hid hel
  clear hat ht hfr hel
  go_enter Tryz.func27, Tryz.ntmps27
  go_wp2
  go_loop [3, 11] (fun t i => ∃ k : Nat, k ≤ ls.length ∧ t = .int .i64 (roomC (ls.take k) : Int) ∧ i = .int .i64 (k : Int)) (fun _ i => ls.length - (intOf i).toNat)
  case atStart => exact ⟨0, by omega, rfl, rfl⟩
  case round =>
    obtain ⟨k, hk, rfl, rfl⟩ := hrel
    have hrt := room_take ls k
    by_cases hlt : k < ls.length
    · obtain ⟨b, off, u, rfl, hb, hc, hrd⟩ := HA.out k _ (List.getElem?_eq_getElem hlt)
      have hrt2 := room_take ls (k + 1)
      have hsn : roomC (ls.take (k + 1)) = roomC (ls.take k) + (14 + ls[k].length) := by
        rw [take_snoc ls k _ (List.getElem?_eq_getElem hlt), room_snoc]
      rw [hsn] at hrt2
      have HS := Lib.hid hsn
      clear hsn
      generalize ls[k] = l at *
      generalize roomC (ls.take k) = R at *
      obtain ⟨p2, cap2, rfl, hlc2, hl472, hcm2, hat2⟩ := hrd.form
      clear hrd hat2
      go_wp2
      go_round
      case rel => exact ⟨k + 1, by omega, by rw [HS.out]; go_num, by go_num⟩
      case measure => simp [intOf]; omega
    · have e : roomC (ls.take k) = roomC ls := by rw [List.take_of_length_le (by omega)]
      rw [e] at *
      clear e hrt
      go_wp2_with (at_make; refine wpList_make_own _ rfl _ _ 41 rfl w.heap.size 5 i0 (.int .u8 0) 1 Tryz.underlying41 hi hz0 hz1 .i64 .i64 _ (roomC ls) rfl rfl (by omega) (by rw [hz2]; omega) (by unfold maxLen; omega) (Nat.le_refl _) ?_; intro w0 hown0 hg0)
      have hb0 : Below w.heap.size w w0 := (Below.refl w.heap.size w).grown hg0 (Nat.le_refl _) (fun k hk => by cases hk)
      have HO0 := Lib.hid (Own.of hown0 rfl rfl : Own w0 w.heap.size _ [])
      clear hown0 hg0 hi hz0 hz1 hz2
      go_loopw [6, 25] (fun t i wr => ∃ k : Nat, k ≤ ls.length ∧ i = .int .i64 (k : Int) ∧ Own wr w.heap.size t (frames (ls.take k)) ∧ Below w.heap.size w wr) (fun _ i _ => ls.length - (intOf i).toNat)
      case atStart => exact ⟨0, by omega, rfl, HO0.out, hb0⟩
      case round =>
        obtain ⟨k, hk, rfl, hown, hbw⟩ := hrel
        have hfk := HF.out k
        by_cases hlt : k < ls.length
        · obtain ⟨b, off, u, rfl, hb, hc, hrd⟩ := HA.out k _ (List.getElem?_eq_getElem hlt)
          have hc1 : wr.cell? ⟨b, off + k, none⟩ = some u := (below_cells hbw b _ (by omega)).trans hc
          have hrd1 : Rd wr B u ls[k] := hrd.under hbw hB
          have hl47b := HE.out k _ (List.getElem?_eq_getElem hlt)
          have hsn : frames (ls.take (k + 1)) = frames (ls.take k) ++ (num ls[k].length ++ (four (crc ls[k]) ++ ls[k])) := by
            rw [take_snoc ls k _ (List.getElem?_eq_getElem hlt), frames_snoc]
            rfl
          have hfk1 := HF.out (k + 1)
          rw [hsn] at hfk1
          simp only [List.length_append, four_length] at hfk1
          have HS := Lib.hid hsn
          clear hsn hc hrd
          generalize ls[k] = l at *
          generalize frames (ls.take k) = F at *
          have hsz := hbw.size
          have HR := Lib.hid hrd1
          obtain ⟨p2, cap2, rfl, hlc2, hl472, hcm2, hat2⟩ := hrd1.form
          clear hrd1 hat2
          go_wp2_with fail
          refine (appendNumber_any _ F l.length w.heap.size wr (by omega) hown hsz (by omega)).mono ?_
          rintro e w1 ⟨v1, rfl, hown1, hb1⟩
          have hnl := num_len10 l.length (by omega)
          have hsz1 := (hbw.trans hb1).size
          have HR1 : Hid (Rd w1 B _ l) := Lib.hid (HR.out.under hb1 hB)
          have HT1 : Hid (Tabs w1) := Lib.hid (HT.out.under (hbw.trans hb1) HT.out.two)
          go_wp2_with fail
          refine (sum_any _ [l] (w1.heap.size + 1) _ (RdL.one HR1.out (by omega) _) (HT1.out.under (below_alloc _ _) HT1.out.two)).mono ?_
          rintro e w2 ⟨rfl, n, rfl⟩
          rw [show [l].flatten = l from by simp]
          have hb2 : Below w.heap.size w1 ((w1.alloc (.cells #[.slice p2 l.length cap2] 41)).drewN n) := below_drewN ((below_alloc w1 _).mono hsz1) n
          have hsz2 := (hbw.trans (hb1.trans hb2)).size
          have hown2 : Own ((w1.alloc (.cells #[.slice p2 l.length cap2] 41)).drewN n) w.heap.size v1 (F ++ num l.length) := (hown1.alloc _).drewN n
          have HR2 : Hid (Rd ((w1.alloc (.cells #[.slice p2 l.length cap2] 41)).drewN n) B _ l) := Lib.hid (HR1.out.under hb2 hB)
          go_wp2_with fail
          refine (appendSum_any v1 _ (crc l) w.heap.size _ (crc_lt l) hown2 hsz2 (by simp; omega)).mono ?_
          rintro e w3 ⟨v3, rfl, hown3, hb3⟩
          have hsz3 := (hbw.trans (hb1.trans (hb2.trans hb3))).size
          have HR3 : Hid (Rd w3 B _ l) := Lib.hid (HR2.out.under hb3 hB)
          clear hown1 hown2 hown hb0
          go_wp2_with (at_builtin; refine wpList_append_rd rfl _ _ rfl w.heap.size B _ _ _ l rfl hown3 rfl HR3.out (by simp only [List.length_append, four_length]; omega) hsz3 ?_; intro v4 w4 hown4 hb4)
          go_roundw
          case rel => exact ⟨k + 1, by omega, by go_num, by rw [HS.out, ← List.append_assoc, ← List.append_assoc]; exact hown4, hbw.trans (hb1.trans (hb2.trans (hb3.trans hb4)))⟩
          case measure => simp [intOf]; omega
        · rw [List.take_of_length_le (by omega)] at hown
          go_wp2_with fail
          go_ret
          exact ⟨_, rfl, hown, hbw⟩

end Go.Proofs.YtlbfgkocpjlamaaGreatDoor

/-
  The walks over the small functions of glacierlaw1: Same, total, joined; bytes.Clone; and known: the chapter's examples hold.
-/
namespace Go.Proofs.YtlbfgkocpjlamaaGreatDoor
open Go.RowKit

theorem convert_rd {w : World} {B : Nat} {v : Value} {l : List UInt8} (h : Rd w B v l) : (Go.convert 41 9 v).run Tryz.prog w = .ok (.string ⟨l.toArray⟩) w := by
  obtain ⟨p, cap, rfl, hlc, hl47, hat⟩ := h
  rcases Nat.eq_zero_or_pos l.length with h0 | h0
  · have : l = [] := List.eq_nil_of_length_eq_zero h0
    subst this
    cases p with
    | none => exact run_convert_bytes_nil w 41 5 Tryz.underlying41 Tryz.underlying5 _ _ _ Tryz.underlying9
    | some ad => exact run_convert_bytes_back w 41 9 5 ad cap [] Tryz.underlying41 Tryz.underlying5 Tryz.underlying9 (fun j hj => by simp at hj)
  · obtain ⟨b, off, rfl, hb, hc⟩ := hat h0
    refine run_convert_bytes_back w 41 9 5 ⟨b, off, none⟩ cap l Tryz.underlying41 Tryz.underlying5 Tryz.underlying9 (fun j hj => ?_)
    rw [Addr.add_mid, hc j hj]
    simp [hj]

theorem own_nil (w : World) (base : Nat) : Own w base (.slice none 0 0) [] := Own.of (World.ownsRow_nil w base 5 1) rfl rfl

theorem known_nums : rdNum [172, 2] = (300, 2, 0) := by decide +kernel
theorem known_sum : crc [49, 50, 51, 52, 53, 54, 55, 56, 57] = 3808858755 := by decide +kernel
theorem known_frame : (frame [97] == [1, 48, 67, 208, 193, 97]) = true := by
  unfold frame
  rw [num_lo _ (by decide)]
  decide +kernel

end Go.Proofs.YtlbfgkocpjlamaaGreatDoor
