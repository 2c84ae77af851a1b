/-
  The walks over glacierref1.step, glacierref1.Sum and codec.Sum: each answers the CRC-32C.
-/
import Derived.Test.YtjhafhfneedmjaaDoorMem
import Derived.Test.YtjhafhfneedmjaaDoorRows
import Derived.WalkKit
import Derived.WalkSpells
import Derived.BigQuiet
import Derived.Deep.QuietTactic
import Derived.Lib.Hide
namespace Go.Proofs.YtjhafhfneedmjaaDoor
open Go.RowKit

theorem and1 (z : Nat) (h : z < 4294967296) : bits .and .u32 (z : Int) 1 = (z : Int) % 2 := by
  have h1 := u32_and_nat z 1 h (by decide)
  rw [Nat.and_one_is_mod] at h1
  rw [Int.natCast_emod] at h1
  exact h1
theorem xorP (z : Nat) (h : z < 4294967296) : bits .xor .u32 ((z : Int) / 2) 2197175160 = ((z / 2 ^^^ 2197175160 : Nat) : Int) := by
  have h1 := u32_xor_nat (z / 2) 2197175160 (by omega) (by decide)
  rw [Int.natCast_ediv] at h1
  exact h1
theorem stp_odd (z : Nat) (h : z % 2 = 1) : stp z = z / 2 ^^^ 2197175160 := if_pos h
theorem stp_even (z : Nat) (h : ¬ z % 2 = 1) : stp z = z / 2 := if_neg h

set_option maxHeartbeats 400000 in
theorem step_any (c : Nat) (x : UInt8) (w : World) (hc : c < 4294967296) :
    Calls Tryd.prog 32 #[.int .u32 (c : Int), .int .u8 (x.toNat : Int)] w fun e w' => e = .returned (.int .u32 (crcByte c x : Int)) ∧ w = w' := by
  have hx : x.toNat < 256 := x.toNat_lt
  have hxor : bits .xor .u32 (c : Int) (x.toNat : Int) = ((c ^^^ x.toNat : Nat) : Int) := u32_xor_nat _ _ hc (by omega)
  have hz : c ^^^ x.toNat < 4294967296 := xor_lt32 _ _ hc (by omega)
  go_enter Tryd.func32, Tryd.ntmps32
  go_wp2
  clear hxor
  have hz8 := stps_lt 8 _ hz
  generalize hy : c ^^^ x.toNat = y at *
  have HY := Lib.hid hy
  clear hy
  go_loop [0, 5] (fun t i => ∃ (k z : Nat), k ≤ 8 ∧ z < 4294967296 ∧ t = .int .u32 (z : Int) ∧ i = .int .i64 (k : Int) ∧ stps (8 - k) z = stps 8 y) (fun _ i => 8 - (intOf i).toNat)
  case atStart => exact ⟨0, y, by omega, hz, rfl, rfl, rfl⟩
  case round =>
    obtain ⟨k, z, hk, hz1, rfl, rfl, hs⟩ := hrel
    have HS := Lib.hid hs
    clear hs
    have hand := and1 z hz1
    have hst := stp_lt z hz1
    have hnext : k < 8 → stps (8 - (k + 1)) (stp z) = stps 8 y := fun h => by
      rw [← HS.out, show 8 - k = 8 - (k + 1) + 1 from by omega]
      rfl
    by_cases hlt : k < 8
    · have HN := Lib.hid (hnext hlt)
      clear hnext
      by_cases h1 : z % 2 = 1
      · have hb : (((z : Int) % 2) == 1) = true := by simp; omega
        have hx2 := xorP z hz1
        have HO := Lib.hid (stp_odd z h1)
        clear h1
        go_wp2
        go_round
        case rel => exact ⟨k + 1, stp z, by omega, hst, by rw [HO.out], by go_num, HN.out⟩
        case measure => simp [intOf]; omega
      · have hb : (((z : Int) % 2) == 1) = false := by simp; omega
        have HO := Lib.hid (stp_even z h1)
        clear h1
        go_wp2
        go_round
        case rel => exact ⟨k + 1, stp z, by omega, hst, by rw [HO.out]; go_num, by go_num, HN.out⟩
        case measure => simp [intOf]; omega
    · obtain rfl : k = 8 := by omega
      clear hnext
      go_wp2
      go_ret
      have e : z = crcByte c x := by
        unfold crcByte
        rw [HY.out, ← HS.out]
        rfl
      exact ⟨ret_nat e, rfl⟩

set_option maxHeartbeats 400000 in
theorem refSum_any (v : Value) (l : List UInt8) (B : Nat) (w : World) (h : Rd w B v l) :
    Calls Tryd.prog 14 #[v] w fun e w' => e = .returned (.int .u32 (crc l : Int)) ∧ w = w' := by
  obtain ⟨p, cap, rfl, hlc, hl47, hcm, hat⟩ := h.form
  clear h
  have HA := Lib.hid hat
  clear hat
  go_enter Tryd.func14, Tryd.ntmps14
  go_wp2
  go_loop [3, 4] (fun t i => ∃ k : Nat, k ≤ l.length ∧ t = .int .u32 (crcL 4294967295 (l.take k) : Int) ∧ i = .int .i64 (k : Int)) (fun _ i => l.length - (intOf i).toNat)
  case atStart => exact ⟨0, by omega, rfl, rfl⟩
  case round =>
    obtain ⟨k, hk, rfl, rfl⟩ := hrel
    have hclt := crcL_lt (l.take k) 4294967295 (by decide)
    by_cases hlt : k < l.length
    · obtain ⟨b, off, x, rfl, hb, hx, hc⟩ := HA.out k hlt
      have HX := Lib.hid (show crcL 4294967295 (l.take (k + 1)) = crcByte (crcL 4294967295 (l.take k)) x by rw [take_snoc l k x hx, crcL_snoc])
      clear hx
      generalize crcL 4294967295 (l.take k) = c at *
      go_wp2_with (go_at_call 32; refine (step_any _ _ _ (by assumption)).mono ?_; rintro e w' ⟨rfl, rfl⟩)
      go_round
      case rel => exact ⟨k + 1, by omega, by rw [HX.out], by go_num⟩
      case measure => simp [intOf]; omega
    · obtain rfl : k = l.length := by omega
      have hcr := u32_xor_nat (crcL 4294967295 (l.take l.length)) 4294967295 hclt (by decide)
      have e : (crcL 4294967295 (l.take l.length) ^^^ 4294967295) = crc l := by rw [List.take_length]; rfl
      rw [e] at hcr
      have HC := Lib.hid hcr
      clear hcr e
      generalize crcL 4294967295 (l.take l.length) = c at *
      go_wp2
      go_ret
      exact ⟨ret_int HC.out, rfl⟩

theorem low_lt (i : Nat) : lowT.getD i 0 < 4294967296 := by
  by_cases h : i < 16
  · have all : ∀ j, j < 16 → lowT.getD j 0 < 4294967296 := by decide
    exact all i h
  · have hn : lowT[i]? = none := List.getElem?_eq_none (by show 16 ≤ i; omega)
    simp [List.getD, hn]
theorem high_lt (i : Nat) : highT.getD i 0 < 4294967296 := by
  by_cases h : i < 16
  · have all : ∀ j, j < 16 → highT.getD j 0 < 4294967296 := by decide
    exact all i h
  · have hn : highT[i]? = none := List.getElem?_eq_none (by show 16 ≤ i; omega)
    simp [List.getD, hn]
theorem ret_cast {k : IntKind} {a b : Nat} (h : a = b) : Value.int k (a : Int) = .int k (b : Int) := by rw [h]

set_option maxHeartbeats 400000 in
theorem sum_any (v : Value) (ls : List (List UInt8)) (B : Nat) (w : World) (h : RdL w B v ls) (ht : Tabs w) :
    Calls Tryd.prog 13 #[v] w fun e w' => e = .returned (.int .u32 (crc ls.flatten : Int)) ∧ ∃ n, w.drewN n = w' := by
  obtain ⟨p, cap, rfl, hlc, hl47, hcm, hat⟩ := h
  have HA := Lib.hid hat
  have HT := Lib.hid ht
  clear hat ht
  go_enter Tryd.func13, Tryd.ntmps13
  go_wp2
  go_loopw [3, 11] (fun t i wr => ∃ k n : Nat, k ≤ ls.length ∧ t = .int .u32 (crcL 4294967295 (ls.take k).flatten : Int) ∧ i = .int .i64 (k : Int) ∧ wr = w.drewN n) (fun _ i _ => ls.length - (intOf i).toNat)
  case atStart => exact ⟨0, 0, by omega, rfl, rfl, rfl⟩
  case round =>
    obtain ⟨k, n, hk, rfl, rfl, rfl⟩ := hrel
    by_cases hlt : k < ls.length
    · obtain ⟨b, off, u, rfl, hb, hc, hr⟩ := HA.out k _ (List.getElem?_eq_getElem hlt)
      have hfl : crcL 4294967295 (ls.take (k + 1)).flatten = crcL (crcL 4294967295 (ls.take k).flatten) ls[k] := by
        rw [take_snoc ls k _ (List.getElem?_eq_getElem hlt), List.flatten_append, crcL_append]
        simp
      have hc0 := crcL_lt (ls.take k).flatten 4294967295 (by decide)
      have HL := Lib.hid hfl
      clear hfl
      generalize ls[k] = l at *
      generalize crcL 4294967295 (ls.take k).flatten = c0 at *
      obtain ⟨p2, cap2, rfl, hlc2, hl472, hcm2, hat2⟩ := hr.form
      have HA2 := Lib.hid hat2
      clear hr hat2
      go_wp2
      go_loopw [3, 17] (fun t i wr => ∃ j m : Nat, j ≤ l.length ∧ t = .int .u32 (crcL c0 (l.take j) : Int) ∧ i = .int .i64 (j : Int) ∧ wr = w.drewN m) (fun _ i _ => l.length - (intOf i).toNat)
      case atStart => exact ⟨0, n, by omega, rfl, rfl, rfl⟩
      case round =>
        obtain ⟨j, m, hj, rfl, rfl, rfl⟩ := hrel
        by_cases hlt2 : j < l.length
        · obtain ⟨b2, off2, x, rfl, hb2, hx, hcx⟩ := HA2.out j hlt2
          have HX := Lib.hid (show crcL c0 (l.take (j + 1)) = crcByte (crcL c0 (l.take j)) x by rw [take_snoc l j x hx, crcL_snoc])
          have hclt := crcL_lt (l.take j) c0 hc0
          clear hx
          generalize crcL c0 (l.take j) = c at *
          have hx8 : x.toNat < 256 := x.toNat_lt
          have HB := Lib.hid (byTable c x)
          have hxor : bits .xor .u8 ((c : Int) % 256) (x.toNat : Int) = ((c % 256 ^^^ x.toNat : Nat) : Int) := by
            have h1 := u8_xor_nat (c % 256) x.toNat (by omega) hx8
            rw [Int.natCast_emod] at h1
            exact h1
          have hy : c % 256 ^^^ x.toNat < 256 := Nat.xor_lt_two_pow (n := 8) (by omega) hx8
          generalize c % 256 ^^^ x.toNat = y at *
          have hand : bits .and .u8 (y : Int) 15 = (y : Int) % 16 := u8_and15 _ (by omega) (by omega)
          have hlo := HT.out.1 (y % 16) (by omega)
          have hhi := HT.out.2 (y / 16) (by omega)
          have hL := low_lt (y % 16)
          have hH := high_lt (y / 16)
          generalize lowT.getD (y % 16) 0 = L at *
          generalize highT.getD (y / 16) 0 = H at *
          have hx1 := u32_xor_nat L H hL hH
          have hx2 := u32_xor_nat (L ^^^ H) (c / 256) (xor_lt32 _ _ hL hH) (by omega)
          rw [show ((c / 256 : Nat) : Int) = (c : Int) / 256 from by omega] at hx2
          go_wp2
          go_quiet (fail)
          go_wp2
          go_roundw
          case rel => exact ⟨j + 1, m + nq, by omega, ret_cast (by rw [HX.out, HB.out]), by go_num, by go_num⟩
          case measure => simp [intOf]; omega
        · go_wp2
          go_roundw
          case rel => exact ⟨k + 1, m, by omega, ret_cast (by rw [HL.out, List.take_of_length_le (by omega)]), by go_num, rfl⟩
          case measure => simp [intOf]; omega
    · have hcr := u32_xor_nat 4294967295 (crcL 4294967295 (ls.take k).flatten) (by decide) (crcL_lt _ _ (by decide))
      have e : (4294967295 ^^^ crcL 4294967295 (ls.take k).flatten) = crc ls.flatten := by rw [List.take_of_length_le (by omega), Nat.xor_comm]; rfl
      rw [e] at hcr
      have HC := Lib.hid hcr
      clear hcr e
      generalize crcL 4294967295 (ls.take k).flatten = c at *
      go_wp2
      go_ret
      exact ⟨ret_int HC.out, n, rfl⟩
end Go.Proofs.YtjhafhfneedmjaaDoor
