import Derived.Test.YtagehnclkneolaaGreatDoorGQa
import Derived.WalkKit
import Derived.WalkSpells
import Derived.Lib.Hide
import Derived.OwnWalk
import Derived.BigQuiet
import Derived.Laws.IdiomStrings
import Derived.Lib.SlBytesConst
import Derived.Maps.AppendAt
import Derived.Deep.RegionWith

/-
  The walks over codec.badEnd, codec.ReadNumber and glacierref1.ReadNumber: the number at the front of any bytes, or the error.
-/
namespace Go.Proofs.YtagehnclkneolaaGreatDoor
open Go.RowKit

def bad (x : UInt8) (i : Nat) : Bool := decide ((0 < i ∧ x.toNat = 0) ∨ (i = 9 ∧ 1 < x.toNat))

set_option maxHeartbeats 400000 in
theorem badEnd_any (x : UInt8) (i : Nat) (b : Bool) (w : World) (hi : i ≤ 9) (hb : bad x i = b) :
    Calls Tryz.prog 127 #[.int .u8 (x.toNat : Int), .int .i64 (i : Int)] w fun e w' => e = .returned (.bool b) ∧ w = w' := by
  have hx : x.toNat < 256 := x.toNat_lt
  have HB := Lib.hid hb
  clear hb
  by_cases h0 : 0 < i
  · have d0 : decide ((0 : Int) < (i : Int)) = true := by simp; omega
    by_cases hx0 : x.toNat = 0
    · have e0 : ((x.toNat : Int) == 0) = true := by simp; omega
      have hf : b = true := by rw [← HB.out]; unfold bad; simp [h0, hx0]
      subst hf
      clear hx0
      go_enter Tryz.func127, Tryz.ntmps127
      go_wp2
      go_ret
      exact ⟨rfl, rfl⟩
    · have e0 : ((x.toNat : Int) == 0) = false := by simp; omega
      by_cases h9 : i = 9
      · subst h9
        by_cases h1 : 1 < x.toNat
        · have d1 : decide ((1 : Int) < (x.toNat : Int)) = true := by simp; omega
          have hf : b = true := by rw [← HB.out]; unfold bad; simp [h1]
          subst hf
          clear hx0
          go_enter Tryz.func127, Tryz.ntmps127
          go_wp2
          go_ret
          exact ⟨rfl, rfl⟩
        · have d1 : decide ((1 : Int) < (x.toNat : Int)) = false := by simp; omega
          have hf : b = false := by rw [← HB.out]; unfold bad; simp [h1, hx0]
          subst hf
          clear hx0
          go_enter Tryz.func127, Tryz.ntmps127
          go_wp2
          go_ret
          exact ⟨rfl, rfl⟩
      · have e9 : ((i : Int) == 9) = false := by simp; omega
        have hf : b = false := by rw [← HB.out]; unfold bad; simp [h9, hx0]
        subst hf
        clear hx0 h9
        go_enter Tryz.func127, Tryz.ntmps127
        go_wp2
        go_ret
        exact ⟨rfl, rfl⟩
  · have hi0 : i = 0 := by omega
    subst hi0
    have hf : b = false := by rw [← HB.out]; unfold bad; simp
    subst hf
    go_enter Tryz.func127, Tryz.ntmps127
    go_wp2
    go_ret
    exact ⟨rfl, rfl⟩

theorem and127 (x : UInt8) : bits .and .u8 (x.toNat : Int) 127 = (x.toNat : Int) % 128 :=
  bits_mask .u8 8 (by decide) wraps_u8 7 (by decide) _ (by omega) (by have := x.toNat_lt; omega)
theorem and128lo (x : UInt8) (h : x.toNat < 128) : bits .and .u8 (x.toNat : Int) 128 = 0 := by
  have h1 := u8_and_nat x.toNat 128 (by omega) (by decide)
  have all : ∀ a, a < 128 → a &&& 128 = 0 := by decide +kernel
  rw [all _ h] at h1
  exact h1
theorem and128hi (x : UInt8) (h : ¬ x.toNat < 128) : bits .and .u8 (x.toNat : Int) 128 = 128 := by
  have hx := x.toNat_lt
  have h1 := u8_and_nat x.toNat 128 (by omega) (by decide)
  have all : ∀ a, a < 256 → ¬ a < 128 → a &&& 128 = 128 := by decide +kernel
  rw [all _ (by omega) h] at h1
  exact h1

theorem fuelC (k : Nat) (hk : k < 10) : 10 - k = 9 - k + 1 := by omega
theorem rd_bad (k X : Nat) (x : UInt8) (r : List UInt8) (hk : k < 10) (hx : x.toNat < 128) (hb : bad x k = true) : rdF (10 - k) k X (x :: r) = (0, 0, 12) := by
  unfold bad at hb
  have h := of_decide_eq_true hb
  rw [fuelC k hk, rdF, if_pos hx, if_pos (by omega)]
theorem rd_last (k X : Nat) (x : UInt8) (r : List UInt8) (hk : k < 10) (hx : x.toNat < 128) (hb : bad x k = false) : rdF (10 - k) k X (x :: r) = (X + x.toNat * 2 ^ (7 * k), k + 1, 0) := by
  unfold bad at hb
  have h := of_decide_eq_false hb
  rw [fuelC k hk, rdF, if_pos hx, if_neg (by omega)]
theorem rd_more (k X : Nat) (x : UInt8) (r : List UInt8) (hk : k < 10) (hx : ¬ x.toNat < 128) : rdF (10 - k) k X (x :: r) = rdF (10 - (k + 1)) (k + 1) (X + (x.toNat - 128) * 2 ^ (7 * k)) r := by
  rw [fuelC k hk, rdF, if_neg hx, show 10 - (k + 1) = 9 - k from by omega]
theorem rd_short (k X : Nat) (hk : k < 10) : rdF (10 - k) k X [] = (0, 0, 11) := by rw [fuelC k hk, rdF]
theorem mul_small (y k : Nat) (hk : k ≤ 9) (hy : y < 128) (h9 : k = 9 → y ≤ 1) : y * 2 ^ (7 * k) < 18446744073709551616 := by
  by_cases h : k = 9
  · subst h
    have := h9 rfl
    omega
  · have h1 : y * 2 ^ (7 * k) ≤ 127 * 2 ^ 56 := Nat.mul_le_mul (by omega) (Nat.pow_le_pow_right (by decide) (by omega))
    omega
theorem or_shl (X y k : Nat) (hX : X < 2 ^ (7 * k)) (hk : k ≤ 9) (hy : y < 128) (h9 : k = 9 → y ≤ 1) :
    bits .or .u64 (X : Int) (IntKind.u64.wrap ((y : Int) * 2 ^ (7 * k))) = ((X + y * 2 ^ (7 * k) : Nat) : Int) := by
  have hs := mul_small y k hk hy h9
  have hX2 : X < 18446744073709551616 := by
    have h1 : 2 ^ (7 * k) ≤ 2 ^ 63 := Nat.pow_le_pow_right (by decide) (by omega)
    omega
  have e : (y : Int) * 2 ^ (7 * k) = ((y * 2 ^ (7 * k) : Nat) : Int) := by simp
  have ew : IntKind.u64.wrap ((y * 2 ^ (7 * k) : Nat) : Int) = ((y * 2 ^ (7 * k) : Nat) : Int) := by rw [IntKind.wrap_u64]; omega
  rw [e, ew, u64_or_nat _ _ hX2 hs]
  congr 1
  rw [Nat.or_comm, Nat.mul_comm y, ← Nat.two_pow_add_eq_or_of_lt hX, Nat.add_comm]
theorem or_shl_byte (X k : Nat) (x : UInt8) (hX : X < 2 ^ (7 * k)) (hk : k ≤ 9) (h9 : k = 9 → x.toNat % 128 ≤ 1) :
    bits .or .u64 (X : Int) (IntKind.u64.wrap ((x.toNat : Int) % 128 * 2 ^ (7 * k))) = ((X + x.toNat % 128 * 2 ^ (7 * k) : Nat) : Int) := by
  have h := or_shl X (x.toNat % 128) k hX hk (by omega) h9
  rw [show ((x.toNat % 128 : Nat) : Int) = (x.toNat : Int) % 128 from by omega] at h
  exact h
theorem ret3 {a b c : Nat} {V : Int} {r : Nat × Nat × Nat} (h : r = (a, b, c)) (hV : V = (a : Int)) :
    Ending.returned (.tuple #[.int .u64 V, .int .i64 (b : Int), .int .i64 (c : Int)]) = .returned (.tuple #[.int .u64 (r.1 : Int), .int .i64 (r.2.1 : Int), .int .i64 (r.2.2 : Int)]) := by rw [h, hV]

set_option maxRecDepth 100000 in
set_option maxHeartbeats 400000 in
theorem readNumber_any (v : Value) (l : List UInt8) (B : Nat) (w : World) (h : Rd w B v l) :
    Calls Tryz.prog 119 #[v] w fun e w' => e = .returned (.tuple #[.int .u64 ((rdNum l).1 : Int), .int .i64 ((rdNum l).2.1 : Int), .int .i64 ((rdNum l).2.2 : Int)]) ∧ w = w' := by
  obtain ⟨p, cap, rfl, hlc, hl47, hcm, hat⟩ := h.form
  clear h
  have HA := Lib.hid hat
  clear hat
  go_enter Tryz.func119, Tryz.ntmps119
  go_wp2
  go_loop [5, 8] (fun t i => ∃ (k X : Nat) (V : Int), k ≤ 10 ∧ k ≤ l.length ∧ i = .int .i64 (k : Int) ∧ t = .int .u64 V ∧ (k ≤ 9 → V = (X : Int) ∧ X < 2 ^ (7 * k)) ∧ rdNum l = rdF (10 - k) k X (l.drop k)) (fun _ i => 10 - (intOf i).toNat)
  case atStart => exact ⟨0, 0, 0, by omega, by omega, rfl, rfl, fun _ => ⟨rfl, by decide⟩, rfl⟩
  case round =>
    obtain ⟨k, X, V, hk, hkl, rfl, rfl, hV, hd⟩ := hrel
    have HV := Lib.hid hV
    have HD := Lib.hid hd
    clear hV hd
    by_cases hlt : k < 10
    · by_cases hlen : k < l.length
      · obtain ⟨b, off, x, rfl, hb, hx, hc⟩ := HA.out k hlen
        have hx8 : x.toNat < 256 := x.toNat_lt
        have HX := Lib.hid (show l.drop k = x :: l.drop (k + 1) by
          rw [List.drop_eq_getElem_cons hlen]
          rw [List.getElem?_eq_getElem hlen] at hx
          injection hx with hx
          rw [hx])
        clear hx
        have hne : ((k : Int) == (l.length : Int)) = false := by simp; omega
        have h127 := and127 x
        obtain ⟨rfl, hX⟩ := HV.out (by omega)
        clear HV
        have HXl := Lib.hid hX
        clear hX
        by_cases h128 : x.toNat < 128
        · have ha := and128lo x h128
          cases hbad : bad x k
          · have hv : Hid (bits .or .u64 (X : Int) (IntKind.u64.wrap ((x.toNat : Int) % 128 * 2 ^ (7 * k))) = ((X + x.toNat * 2 ^ (7 * k) : Nat) : Int)) := by
              unfold bad at hbad
              have h := of_decide_eq_false hbad
              have h2 := or_shl_byte X k x HXl.out (by omega) (by omega)
              rw [show x.toNat % 128 = x.toNat from by omega] at h2
              exact h2
            have HR := Lib.hid (show rdNum l = (X + x.toNat * 2 ^ (7 * k), k + 1, 0) by rw [HD.out, HX.out, rd_last k X x _ hlt h128 hbad])
            have HBad := Lib.hid hbad
            clear hbad HD HX
            go_wp2_with (go_at_call 127; refine (badEnd_any x k false _ (by omega) HBad.out).mono ?_; rintro e w' ⟨rfl, rfl⟩)
            go_ret3
            exact ⟨ret3 HR.out hv.out, rfl⟩
          · have HR := Lib.hid (show rdNum l = (0, 0, 12) by rw [HD.out, HX.out, rd_bad k X x _ hlt h128 hbad])
            have HBad := Lib.hid hbad
            clear hbad HD HX
            go_wp2_with (go_at_call 127; refine (badEnd_any x k true _ (by omega) HBad.out).mono ?_; rintro e w' ⟨rfl, rfl⟩)
            go_ret3
            exact ⟨ret3 HR.out rfl, rfl⟩
        · have ha := and128hi x h128
          have HR := Lib.hid (show rdNum l = rdF (10 - (k + 1)) (k + 1) (X + (x.toNat - 128) * 2 ^ (7 * k)) (l.drop (k + 1)) by rw [HD.out, HX.out, rd_more k X x _ hlt h128])
          have hv : Hid (k + 1 ≤ 9 → bits .or .u64 (X : Int) (IntKind.u64.wrap ((x.toNat : Int) % 128 * 2 ^ (7 * k))) = ((X + (x.toNat - 128) * 2 ^ (7 * k) : Nat) : Int) ∧ X + (x.toNat - 128) * 2 ^ (7 * k) < 2 ^ (7 * (k + 1))) := by
            intro h9
            have h2 := or_shl_byte X k x HXl.out (by omega) (by omega)
            rw [show x.toNat % 128 = x.toNat - 128 from by omega] at h2
            refine ⟨h2, ?_⟩
            rw [pow_step]
            have h3 : (x.toNat - 128) * 2 ^ (7 * k) ≤ 127 * 2 ^ (7 * k) := Nat.mul_le_mul_right _ (by omega)
            have h4 := HXl.out
            omega
          clear HD HX
          go_wp2_with fail
          exact ⟨⟨k + 1, _, _, by omega, by omega, by go_num, rfl, hv.out, HR.out⟩, by simp [intOf]; omega⟩
      · obtain rfl : k = l.length := by omega
        have HR := Lib.hid (show rdNum l = (0, 0, 11) by rw [HD.out, List.drop_length, rd_short _ X hlt])
        have hne : ((l.length : Int) == (l.length : Int)) = true := by simp
        clear HD
        go_wp2_with fail
        go_ret3
        exact ⟨ret3 HR.out rfl, rfl⟩
    · obtain rfl : k = 10 := by omega
      have HR := Lib.hid (show rdNum l = (0, 0, 12) by rw [HD.out]; rfl)
      clear HD HV
      go_wp2_with fail
      go_ret3
      exact ⟨ret3 HR.out rfl, rfl⟩

theorem and127_64 (x : UInt8) : bits .and .u64 (x.toNat : Int) 127 = (x.toNat : Int) % 128 := by
  have hx := x.toNat_lt
  have h1 := u64_and_nat x.toNat 127 (by omega) (by decide)
  have all : ∀ a, a < 256 → a &&& 127 = a % 128 := by decide +kernel
  rw [all _ (by omega)] at h1
  exact h1.trans (by omega)
theorem rd_nine (X : Nat) (x : UInt8) (r : List UInt8) (h : 1 < x.toNat) : rdF (10 - 9) 9 X (x :: r) = (0, 0, 12) := by
  by_cases hx : x.toNat < 128
  · exact rd_bad 9 X x r (by omega) hx (by unfold bad; simp [h])
  · rw [rd_more 9 X x r (by omega) hx]
    rfl

set_option maxRecDepth 100000 in
set_option maxHeartbeats 400000 in
theorem refReadNumber_any (v : Value) (l : List UInt8) (B : Nat) (w : World) (h : Rd w B v l) :
    Calls Tryz.prog 81 #[v] w fun e w' => e = .returned (.tuple #[.int .u64 ((rdNum l).1 : Int), .int .i64 ((rdNum l).2.1 : Int), .int .i64 ((rdNum l).2.2 : Int)]) ∧ w = w' := by
  obtain ⟨p, cap, rfl, hlc, hl47, hcm, hat⟩ := h.form
  clear h
  have HA := Lib.hid hat
  clear hat
  go_enter Tryz.func81, Tryz.ntmps81
  go_wp2
  go_loop [5, 6] (fun t i => ∃ (k X : Nat) (V : Int), k ≤ 10 ∧ k ≤ l.length ∧ i = .int .i64 (k : Int) ∧ t = .int .u64 V ∧ (k ≤ 9 → V = (X : Int) ∧ X < 2 ^ (7 * k)) ∧ rdNum l = rdF (10 - k) k X (l.drop k)) (fun _ i => 10 - (intOf i).toNat)
  case atStart => exact ⟨0, 0, 0, by omega, by omega, rfl, rfl, fun _ => ⟨rfl, by decide⟩, rfl⟩
  case round =>
    obtain ⟨k, X, V, hk, hkl, rfl, rfl, hV, hd⟩ := hrel
    have HV := Lib.hid hV
    have HD := Lib.hid hd
    clear hV hd
    by_cases hlt : k < 10
    · by_cases hlen : k < l.length
      · obtain ⟨b, off, x, rfl, hb, hx, hc⟩ := HA.out k hlen
        have hx8 : x.toNat < 256 := x.toNat_lt
        have HX := Lib.hid (show l.drop k = x :: l.drop (k + 1) by
          rw [List.drop_eq_getElem_cons hlen]
          rw [List.getElem?_eq_getElem hlen] at hx
          injection hx with hx
          rw [hx])
        clear hx
        have h127 := and127_64 x
        obtain ⟨rfl, hX⟩ := HV.out (by omega)
        clear HV
        have HXl := Lib.hid hX
        clear hX
        by_cases h9 : k = 9 ∧ 1 < x.toNat
        · obtain ⟨h9, h1⟩ := h9
          have e9 : ((k : Int) == 9) = true := by simp; omega
          have HR := Lib.hid (show rdNum l = (0, 0, 12) by rw [HD.out, HX.out, h9, rd_nine X x _ h1])
          clear HD HX h9
          go_wp2_with fail
          go_ret3
          exact ⟨ret3 HR.out rfl, rfl⟩
        · by_cases h128 : x.toNat < 128
          · cases hbad : bad x k
            · have hv : Hid (bits .or .u64 (X : Int) (IntKind.u64.wrap ((x.toNat : Int) % 128 * 2 ^ (7 * k))) = ((X + x.toNat * 2 ^ (7 * k) : Nat) : Int)) := by
                unfold bad at hbad
                have h := of_decide_eq_false hbad
                have h2 := or_shl_byte X k x HXl.out (by omega) (by omega)
                rw [show x.toNat % 128 = x.toNat from by omega] at h2
                exact h2
              have HR := Lib.hid (show rdNum l = (X + x.toNat * 2 ^ (7 * k), k + 1, 0) by rw [HD.out, HX.out, rd_last k X x _ hlt h128 hbad])
              have hz : ¬ (0 < k ∧ x.toNat = 0) := by
                unfold bad at hbad
                have h := of_decide_eq_false hbad
                omega
              clear hbad HD HX
              by_cases e9 : k = 9
              · have b9 : ((k : Int) == 9) = true := by simp; omega
                have d1 : decide ((1 : Int) < (x.toNat : Int)) = false := by simp; omega
                have b0 : ((x.toNat : Int) == 0) = false := by simp; omega
                have HK := Lib.hid e9
                clear e9 h9 hz
                go_wp2_with fail
                go_ret3
                exact ⟨ret3 HR.out hv.out, rfl⟩
              · have b9 : ((k : Int) == 9) = false := by simp; omega
                by_cases x0 : x.toNat = 0
                · have b0 : ((x.toNat : Int) == 0) = true := by simp; omega
                  have dk : decide ((0 : Int) < (k : Int)) = false := by simp; omega
                  have dk2 : decide (0 < k) = false := by simp; omega
                  have hk0 : ¬ 0 < k := by omega
                  clear e9 h9 hz x0
                  go_wp2_with fail
                  go_ret3
                  exact ⟨ret3 HR.out hv.out, rfl⟩
                · have b0 : ((x.toNat : Int) == 0) = false := by simp; omega
                  clear e9 h9 hz x0
                  go_wp2_with fail
                  go_ret3
                  exact ⟨ret3 HR.out hv.out, rfl⟩
            · have HR := Lib.hid (show rdNum l = (0, 0, 12) by rw [HD.out, HX.out, rd_bad k X x _ hlt h128 hbad])
              have hz : 0 < k ∧ x.toNat = 0 := by
                unfold bad at hbad
                have h := of_decide_eq_true hbad
                omega
              obtain ⟨k0, x0⟩ := hz
              have b0 : ((x.toNat : Int) == 0) = true := by simp; omega
              have dk : decide ((0 : Int) < (k : Int)) = true := by simp; omega
              have dk2 : decide (0 < k) = true := by simp; omega
              have d1 : decide ((1 : Int) < (x.toNat : Int)) = false := by simp; omega
              clear hbad HD HX x0 h9
              by_cases e9 : k = 9
              · have b9 : ((k : Int) == 9) = true := by simp; omega
                clear e9
                go_wp2_with fail
                go_ret3
                exact ⟨ret3 HR.out rfl, rfl⟩
              · have b9 : ((k : Int) == 9) = false := by simp; omega
                clear e9
                go_wp2_with fail
                go_ret3
                exact ⟨ret3 HR.out rfl, rfl⟩
          · have HR := Lib.hid (show rdNum l = rdF (10 - (k + 1)) (k + 1) (X + (x.toNat - 128) * 2 ^ (7 * k)) (l.drop (k + 1)) by rw [HD.out, HX.out, rd_more k X x _ hlt h128])
            have hv : Hid (k + 1 ≤ 9 → bits .or .u64 (X : Int) (IntKind.u64.wrap ((x.toNat : Int) % 128 * 2 ^ (7 * k))) = ((X + (x.toNat - 128) * 2 ^ (7 * k) : Nat) : Int) ∧ X + (x.toNat - 128) * 2 ^ (7 * k) < 2 ^ (7 * (k + 1))) := by
              intro h9
              have h2 := or_shl_byte X k x HXl.out (by omega) (by omega)
              rw [show x.toNat % 128 = x.toNat - 128 from by omega] at h2
              refine ⟨h2, ?_⟩
              rw [pow_step]
              have h3 : (x.toNat - 128) * 2 ^ (7 * k) ≤ 127 * 2 ^ (7 * k) := Nat.mul_le_mul_right _ (by omega)
              have h4 := HXl.out
              omega
            have b9 : ((k : Int) == 9) = false := by simp; omega
            clear HD HX h9
            go_wp2_with fail
            exact ⟨⟨k + 1, _, _, by omega, by omega, by go_num, rfl, hv.out, HR.out⟩, by simp [intOf]; omega⟩
      · obtain rfl : k = l.length := by omega
        have HR := Lib.hid (show rdNum l = (0, 0, 11) by rw [HD.out, List.drop_length, rd_short _ X hlt])
        clear HD
        go_wp2_with fail
        go_ret3
        exact ⟨ret3 HR.out rfl, rfl⟩
    · obtain rfl : k = 10 := by omega
      have HR := Lib.hid (show rdNum l = (0, 0, 12) by rw [HD.out]; rfl)
      clear HD HV
      go_wp2_with fail
      go_ret3
      exact ⟨ret3 HR.out rfl, rfl⟩
end Go.Proofs.YtagehnclkneolaaGreatDoor

/-
  The walks over the small functions of glacierlaw1: Same, total, joined; bytes.Clone; and known: the chapter's examples hold.
-/
namespace Go.Proofs.YtagehnclkneolaaGreatDoor
open Go.RowKit

theorem convert_rd {w : World} {B : Nat} {v : Value} {l : List UInt8} (h : Rd w B v l) : (Go.convert 22 9 v).run Tryz.prog w = .ok (.string ⟨l.toArray⟩) w := by
  obtain ⟨p, cap, rfl, hlc, hl47, hat⟩ := h
  rcases Nat.eq_zero_or_pos l.length with h0 | h0
  · have : l = [] := List.eq_nil_of_length_eq_zero h0
    subst this
    cases p with
    | none => exact run_convert_bytes_nil w 22 5 Tryz.underlying22 Tryz.underlying5 _ _ _ Tryz.underlying9
    | some ad => exact run_convert_bytes_back w 22 9 5 ad cap [] Tryz.underlying22 Tryz.underlying5 Tryz.underlying9 (fun j hj => by simp at hj)
  · obtain ⟨b, off, rfl, hb, hc⟩ := hat h0
    refine run_convert_bytes_back w 22 9 5 ⟨b, off, none⟩ cap l Tryz.underlying22 Tryz.underlying5 Tryz.underlying9 (fun j hj => ?_)
    rw [Addr.add_mid, hc j hj]
    simp [hj]

theorem own_nil (w : World) (base : Nat) : Own w base (.slice none 0 0) [] := Own.of (World.ownsRow_nil w base 5 1) rfl rfl

theorem known_nums : rdNum [172, 2] = (300, 2, 0) := by decide +kernel
theorem known_sum : crc [49, 50, 51, 52, 53, 54, 55, 56, 57] = 3808858755 := by decide +kernel
theorem known_frame : (frame [97] == [1, 48, 67, 208, 193, 97]) = true := by
  unfold frame
  rw [num_lo _ (by decide)]
  decide +kernel

end Go.Proofs.YtagehnclkneolaaGreatDoor

/-
  The walks over codec.Bytes, glacierref1.Bytes and glacierref1.Frame; an append that tells which block alone may have changed.
-/
namespace Go.Proofs.YtagehnclkneolaaGreatDoor
open Go.RowKit

set_option maxRecDepth 100000 in
set_option maxHeartbeats 400000 in
theorem refNumber_only (v : Value) (l : List UInt8) (n base : Nat) (w : World) (hn : n < 18446744073709551616) (hown : Own w base v l) (hbase : base ≤ w.heap.size) (hlen : l.length ≤ 140737488355300) :
    Calls Tryz.prog 61 #[v, .int .u64 (n : Int)] w fun e w' => ∃ v', e = .returned v' ∧ Own w' base v' (l ++ num n) ∧ Only w v w' v' := by
  have hnl := num_len10 n hn
  have HN0 := Lib.hid hn
  clear hn
  go_enter Tryz.func61, Tryz.ntmps61
  go_wp2
  go_loopw [0, 1] (fun b x wr => ∃ (m : Nat) (pre : List UInt8), x = .int .u64 (m : Int) ∧ m < 18446744073709551616 ∧ pre ++ num m = num n ∧ Own wr base b (l ++ pre) ∧ Only w v wr b) (fun _ x _ => (intOf x).toNat)
  case atStart => exact ⟨n, [], rfl, HN0.out, rfl, by simpa using hown, Only.refl _ _⟩
  case round =>
    obtain ⟨m, pre, rfl, hm, hpre, hown1, hb1⟩ := hrel
    have hpl : pre.length + (num m).length ≤ 10 := by rw [← List.length_append, hpre]; exact hnl
    have hsz := hb1.1.size
    have HP := Lib.hid hpre
    have HM := Lib.hid hm
    have HB := Lib.hid hb1
    clear hpre hm hb1
    by_cases hlt : m < 128
    · have HN := Lib.hid (num_lo m hlt)
      go_wp2_with (at_builtin; refine wpList_append_rd_at rfl _ _ rfl base (wr.heap.size + 1) _ _ _ [UInt8.ofNat m] rfl (hown1.alloc _) rfl (Rd.new wr [UInt8.ofNat m] _ _ (by simp [bs, bv, toNat_ofC _ (show m < 256 by omega)]) (by simp)) (by simp; omega) (by simp; omega) ?_; intro v1 w1 hown2 hg2 hat2)
      go_ret
      refine ⟨v1, rfl, ?_, (HB.out.alloc _).step hg2 hat2⟩
      rw [← HP.out, HN.out, ← List.append_assoc]
      exact hown2
    · obtain ⟨x, hor, HN⟩ : ∃ x : UInt8, bits .or .u8 ((m : Int) % 256) 128 = (x.toNat : Int) ∧ Hid (num m = x :: num (m / 128)) := ⟨_, or128 m, num_hi m hlt⟩
      go_wp2_with (at_builtin; refine wpList_append_rd_at rfl _ _ rfl base (wr.heap.size + 1) _ _ _ [x] rfl (hown1.alloc _) rfl (Rd.new wr [x] _ _ rfl (by simp)) (by simp; omega) (by simp; omega) ?_; intro v1 w1 hown2 hg2 hat2)
      have HS := Lib.hid ((HB.out.alloc (.cells #[.int .u8 (x.toNat : Int)] 5)).step hg2 hat2)
      clear hg2 hat2
      go_roundw
      case rel =>
        refine ⟨m / 128, pre ++ [x], by go_num, by have := HM.out; omega, by rw [← HP.out, HN.out]; simp, by rw [← List.append_assoc]; exact hown2, HS.out⟩
      case measure => simp [intOf]; omega

set_option maxHeartbeats 400000 in
theorem refBytes_any (v u : Value) (l m : List UInt8) (base base2 : Nat) (w : World) (hown : Own w base v l) (hu : Own w base2 u m) (hne : ∀ k, v.ownBlock = some k → u.ownBlock ≠ some k) (hbase : base ≤ w.heap.size) (hlen : l.length + m.length ≤ 140737488355000) :
    Calls Tryz.prog 60 #[v, u] w fun e w' => ∃ v', e = .returned v' ∧ Own w' base v' (l ++ (num m.length ++ m)) ∧ Below base w w' := by
  have hnl := num_len10 m.length (by omega)
  have HO := Lib.hid hown
  have HU := Lib.hid hu
  have HNe := Lib.hid hne
  obtain ⟨p, cap, rfl, hlc, hl47, hcm, hat⟩ := (hu.rd (by omega)).form
  clear hown hu hat hne
  go_enter Tryz.func60, Tryz.ntmps60
  go_wp2_with fail
  refine (refNumber_only v l m.length base w (by omega) HO.out hbase (by omega)).mono ?_
  rintro e w1 ⟨v1, rfl, hown1, hon1⟩
  have hb1 := hon1.below HO.out hbase
  have HU1 : Hid (Own w1 base2 (.slice p m.length cap) m) := Lib.hid (World.ownsRow.kept HU.out hon1.1 (by
    rcases h : (Value.slice p m.length cap).ownBlock with _ | k
    · exact .inl rfl
    · exact .inr (fun e => HNe.out k e.symm h)))
  have hsz := hb1.size
  clear hon1
  go_wp2_with (at_builtin; refine wpList_append_rd rfl _ _ rfl base w1.heap.size _ _ _ m rfl hown1 rfl (HU1.out.rd (by omega)) (by simp only [List.length_append]; omega) (by omega) ?_; intro v2 w2 hown2 hb2)
  go_ret
  exact ⟨v2, rfl, by rw [← List.append_assoc]; exact hown2, hb1.trans hb2⟩

set_option maxHeartbeats 400000 in
theorem refFrame_any (v u : Value) (l m : List UInt8) (base B : Nat) (w : World) (hown : Own w base v l) (hu : Rd w B u m) (hB : B ≤ base) (hbase : base ≤ w.heap.size) (hlen : l.length + m.length ≤ 140737488355000) :
    Calls Tryz.prog 32 #[v, u] w fun e w' => ∃ v', e = .returned v' ∧ Own w' base v' (l ++ frame m) ∧ Below base w w' := by
  have hnl := num_len10 m.length (by omega)
  have HU := Lib.hid hu
  obtain ⟨p, cap, rfl, hlc, hl47, hcm, hat⟩ := hu.form
  clear hu hat
  go_enter Tryz.func32, Tryz.ntmps32
  go_wp2_with fail
  refine (refNumber_any v l m.length base w (by omega) hown hbase (by omega)).mono ?_
  rintro e w1 ⟨v1, rfl, hown1, hb1⟩
  have HU1 := Lib.hid (HU.out.under hb1 hB)
  have hsz := hb1.size
  clear hown
  go_wp2_with fail
  refine (refSum_any _ m B w1 HU1.out).mono ?_
  rintro e w1' ⟨rfl, rfl⟩
  go_wp2_with fail
  refine (refFour_any v1 _ (crc m) base w1 (crc_lt m) hown1 (by omega) (by simp only [List.length_append]; omega)).mono ?_
  rintro e w2 ⟨v2, rfl, hown2, hb2⟩
  have HU2 := Lib.hid (HU1.out.under hb2 hB)
  have hsz2 := hb2.size
  clear hown1
  go_wp2_with (at_builtin; refine wpList_append_rd rfl _ _ rfl base B _ _ _ m rfl hown2 rfl HU2.out (by simp only [List.length_append, four_length]; omega) (by omega) ?_; intro v3 w3 hown3 hb3)
  go_ret
  refine ⟨v3, rfl, ?_, hb1.trans (hb2.trans hb3)⟩
  unfold frame
  rw [← List.append_assoc, ← List.append_assoc]
  exact hown3

set_option maxHeartbeats 400000 in
theorem bytes_any (v u : Value) (l : List UInt8) (ls : List (List UInt8)) (B B2 : Nat) (w : World) (h : Rd w B v l) (hB : B ≤ w.heap.size) (hu : RdL w B2 u ls) (hB2 : B2 ≤ w.heap.size) (hlen : l.length + fln ls ≤ 140737488355000) :
    Calls Tryz.prog 94 #[v, u] w fun e w' => ∃ v', e = .returned v' ∧ Own w' w.heap.size v' (l ++ (num (fln ls) ++ ls.flatten)) ∧ Below w.heap.size w w' := by
  have hnl := num_len10 (fln ls) (by omega)
  have HR := Lib.hid h
  obtain ⟨p, cap, rfl, hlc, hl47, hcm, hat⟩ := hu
  have HA := Lib.hid hat
  clear hat h
  go_enter Tryz.func94, Tryz.ntmps94
  go_wp2
  go_loop [5, 13] (fun t i => ∃ k : Nat, k ≤ ls.length ∧ t = .int .i64 (fln (ls.take k) : Int) ∧ i = .int .i64 (k : Int)) (fun _ i => ls.length - (intOf i).toNat)
  case atStart => exact ⟨0, by omega, rfl, rfl⟩
  case round =>
    obtain ⟨k, hk, rfl, rfl⟩ := hrel
    by_cases hlt : k < ls.length
    · obtain ⟨b, off, u, rfl, hb, hc, hrd⟩ := HA.out k _ (List.getElem?_eq_getElem hlt)
      have hft := fln_take ls (k + 1)
      have hsn : fln (ls.take (k + 1)) = fln (ls.take k) + ls[k].length := by
        rw [take_snoc ls k _ (List.getElem?_eq_getElem hlt), fln_snoc]
      rw [hsn] at hft
      have HS := Lib.hid hsn
      clear hsn
      generalize ls[k] = m at *
      generalize fln (ls.take k) = R at *
      obtain ⟨p2, cap2, rfl, hlc2, hl472, hcm2, hat2⟩ := hrd.form
      clear hrd hat2
      go_wp2
      go_round
      case rel => exact ⟨k + 1, by omega, by rw [HS.out]; go_num, by go_num⟩
      case measure => simp [intOf]; omega
    · have e : fln (ls.take k) = fln ls := by rw [List.take_of_length_le (by omega)]
      rw [e]
      clear e
      have hap := apart_any v l (10 + fln ls) B w HR.out hB (by omega)
      rw [show (((10 + fln ls : Nat)) : Int) = 10 + (fln ls : Int) from by omega] at hap
      have HAp := hap
      clear hap
      go_wp2_with fail
      refine HAp.mono ?_
      rintro e w1 ⟨v1, rfl, hown1, hb1⟩
      have hsz1 := hb1.size
      clear HAp
      go_wp2_with fail
      refine (appendNumber_any v1 l (fln ls) w.heap.size w1 (by omega) hown1 hsz1 (by omega)).mono ?_
      rintro e w2 ⟨v2, rfl, hown2, hb2⟩
      have hb02 := hb1.trans hb2
      have HO2 := Lib.hid hown2
      clear hown1 hown2 hb1 hb2
      go_wp2_with fail
      go_loopw [8, 31] (fun t i wr => ∃ k : Nat, k ≤ ls.length ∧ i = .int .i64 (k : Int) ∧ Own wr w.heap.size t (l ++ num (fln ls) ++ (ls.take k).flatten) ∧ Below w.heap.size w wr) (fun _ i _ => ls.length - (intOf i).toNat)
      case atStart => exact ⟨0, by omega, rfl, by simpa using HO2.out, hb02⟩
      case round =>
        obtain ⟨k, hk, rfl, hown, hbw⟩ := hrel
        by_cases hlt : k < ls.length
        · obtain ⟨b, off, u, rfl, hb, hc, hrd⟩ := HA.out k _ (List.getElem?_eq_getElem hlt)
          have hc1 : wr.cell? ⟨b, off + k, none⟩ = some u := (below_cells hbw b _ (by omega)).trans hc
          have hrd1 : Rd wr B2 u ls[k] := hrd.under hbw hB2
          have hft := flat_take ls (k + 1)
          have hsn : (ls.take (k + 1)).flatten = (ls.take k).flatten ++ ls[k] := by
            rw [take_snoc ls k _ (List.getElem?_eq_getElem hlt), flatten_snoc]
          rw [hsn, List.length_append, show ls.flatten.length = fln ls from rfl] at hft
          have HS := Lib.hid hsn
          clear hsn hc hrd
          generalize ls[k] = m at *
          generalize (ls.take k).flatten = F at *
          have hsz := hbw.size
          have HR := Lib.hid hrd1
          obtain ⟨p2, cap2, rfl, hlc2, hl472, hcm2, hat2⟩ := hrd1.form
          clear hrd1 hat2
          go_wp2_with (at_builtin; refine wpList_append_rd rfl _ _ rfl w.heap.size B2 _ _ _ m rfl hown rfl HR.out (by simp only [List.length_append]; omega) hsz ?_; intro v4 w4 hown4 hb4)
          go_roundw
          case rel => exact ⟨k + 1, by omega, by go_num, by rw [HS.out, ← List.append_assoc]; exact hown4, hbw.trans hb4⟩
          case measure => simp [intOf]; omega
        · rw [List.take_of_length_le (by omega), List.append_assoc] at hown
          go_wp2_with fail
          go_ret
          exact ⟨_, rfl, hown, hbw⟩
end Go.Proofs.YtagehnclkneolaaGreatDoor

/-
  The walks over codec.readLength, bytes.Clone, codec.readSum, glacierref1.ReadFour, codec.ReadBytes and glacierref1.ReadBytes.
-/
namespace Go.Proofs.YtagehnclkneolaaGreatDoor
open Go.RowKit

theorem ret3l {a b c : Nat} {r : Nat × Nat × Nat} (h : r = (a, b, c)) :
    Ending.returned (.tuple #[.int .i64 (a : Int), .int .i64 (b : Int), .int .i64 (c : Int)]) = .returned (.tuple #[.int .i64 (r.1 : Int), .int .i64 (r.2.1 : Int), .int .i64 (r.2.2 : Int)]) := by rw [h]

set_option maxRecDepth 100000 in
set_option maxHeartbeats 400000 in
theorem readLength_any (v : Value) (l : List UInt8) (most extra B : Nat) (w : World) (h : Rd w B v l) (hm : most ≤ 9223372036854775807) (hx : extra ≤ 4) :
    Calls Tryz.prog 108 #[v, .int .i64 (most : Int), .int .i64 (extra : Int)] w fun e w' =>
      e = .returned (.tuple #[.int .i64 ((rdLen l most extra).1 : Int), .int .i64 ((rdLen l most extra).2.1 : Int), .int .i64 ((rdLen l most extra).2.2 : Int)]) ∧ w = w' := by
  have HR := Lib.hid h
  obtain ⟨p, cap, rfl, hlc, hl47, hcm, hat⟩ := h.form
  clear h hat
  go_enter Tryz.func108, Tryz.ntmps108
  go_wp2_with fail
  refine (readNumber_any _ l B w HR.out).mono ?_
  rintro e w1 ⟨rfl, rfl⟩
  rcases rdNum_form l with ⟨n, k, hr, h1, h2, h3, h4⟩ | hr | hr
  · rw [hr]
    have HN := Lib.hid h4
    have e0 : ((0 : Int) != 0) = false := rfl
    by_cases hv : most < n
    · have HE := Lib.hid (rdLen_long l most extra n k hr hv)
      clear hr h4
      have d1 : decide ((most : Int) < (n : Int)) = true := by simp; omega
      go_wp2_with fail
      go_ret3
      exact ⟨ret3l HE.out, rfl⟩
    · have d1 : decide ((most : Int) < (n : Int)) = false := by simp; omega
      by_cases hl : n + k + extra ≤ l.length
      · have HE := Lib.hid (rdLen_ok l most extra n k hr hv hl)
        clear hr h4
        have d2 : decide ((n : Int) ≤ (l.length : Int) - (k : Int) - (extra : Int)) = true := by simp; omega
        go_wp2_with fail
        go_ret3
        exact ⟨ret3l HE.out, rfl⟩
      · have HE := Lib.hid (rdLen_short l most extra n k hr hv hl)
        clear hr h4
        have d2 : decide ((n : Int) ≤ (l.length : Int) - (k : Int) - (extra : Int)) = false := by simp; omega
        go_wp2_with fail
        go_ret3
        exact ⟨ret3l HE.out, rfl⟩
  · rw [hr]
    have HE := Lib.hid (rdLen_err l most extra 11 hr (by decide))
    clear hr
    go_wp2_with fail
    go_ret3
    exact ⟨ret3l HE.out, rfl⟩
  · rw [hr]
    have HE := Lib.hid (rdLen_err l most extra 12 hr (by decide))
    clear hr
    go_wp2_with fail
    go_ret3
    exact ⟨ret3l HE.out, rfl⟩

theorem own_new0' (w : World) : Own (w.alloc (.cells #[] 5)) w.heap.size (.slice (some ⟨w.heap.size, 0, none⟩) 0 0) [] :=
  Own.of (n := 0) (xs := []) ⟨by simp, .inr ⟨w.heap.size, 0, #[], rfl, Nat.le_refl _, heap_alloc_new w _, Nat.le_refl _, by unfold maxLen; omega, by simp, by simp⟩⟩ rfl rfl

set_option maxHeartbeats 400000 in
theorem clone_anyC (v : Value) (l : List UInt8) (B : Nat) (w : World) (h : Rd w B v l) (hB : B ≤ w.heap.size) :
    Calls Tryz.prog 110 #[v] w fun e w' => ∃ v', e = .returned v' ∧ Rd w' w'.heap.size v' l ∧ (∀ k, v'.ownBlock = some k → w.heap.size ≤ k) ∧ Below w.heap.size w w' := by
  have HR := Lib.hid h
  obtain ⟨p, cap, rfl, hlc, ⟨hl47, hcm, hcn⟩, hat⟩ := h
  have q22 : ∀ (w : World) (a : Option Addr) (n c n' c' : Nat), (binOp .eql 22 (.slice a n c) (.slice none n' c')).run Tryz.prog w = .ok (.bool a.isNone) w := fun w a n c n' c' => Lib.run_eql_slice_nil w _ _ a n c n' c' Tryz.underlying22
  cases p with
  | none =>
    have hm : l = [] := by
      apply List.eq_nil_of_length_eq_zero
      rcases Nat.eq_zero_or_pos l.length with h0 | h0
      · exact h0
      · obtain ⟨b, off, e, _⟩ := hat h0
        cases e
    subst hm
    clear hat hcn
    go_enter Tryz.func110, Tryz.ntmps110
    go_wp2_with fail
    go_ret
    exact ⟨_, rfl, Rd.none_ _ _, (fun k hk => by cases hk), Below.refl _ _⟩
  | some ad =>
    clear hat hcn
    go_enter Tryz.func110, Tryz.ntmps110
    go_wp2_with (at_builtin; refine wpList_append_rd rfl _ _ rfl w.heap.size B _ _ [] l rfl (own_new0' w) rfl (HR.out.under (below_alloc w _) hB) (by simp; omega) (by simp) ?_; intro v1 w1 hown1 hb1)
    rw [List.nil_append] at hown1
    go_ret
    exact ⟨v1, rfl, hown1.rd (by omega), hown1.block, (below_alloc w _).trans hb1⟩

theorem or_add (a b k : Nat) (ha : a < 2 ^ k) (hab : a + b * 2 ^ k < 4294967296) : bits .or .u32 (a : Int) ((b : Int) * ((2 ^ k : Nat) : Int)) = ((a + b * 2 ^ k : Nat) : Int) := by
  rw [show (b : Int) * ((2 ^ k : Nat) : Int) = ((b * 2 ^ k : Nat) : Int) from by simp, u32_or_nat a (b * 2 ^ k) (by omega) (by omega)]
  congr 1
  rw [Nat.or_comm, Nat.mul_comm b, ← Nat.two_pow_add_eq_or_of_lt ha, Nat.add_comm]

set_option maxHeartbeats 400000 in
theorem readSum_any (v : Value) (l : List UInt8) (B : Nat) (w : World) (h : Rd w B v l) (hl : 4 ≤ l.length) :
    Calls Tryz.prog 109 #[v] w fun e w' => e = .returned (.int .u32 (unfour l : Int)) ∧ ∃ n, w.drewN n = w' := by
  obtain ⟨p, cap, rfl, hlc, ⟨hl47, hcm, hcn⟩, hat⟩ := h
  obtain ⟨b, off, rfl, hb, hc⟩ := hat (by omega)
  have hc0 := hc 0 (by omega)
  have hc1 := hc 1 (by omega)
  have hc2 := hc 2 (by omega)
  have hc3 := hc 3 (by omega)
  rw [Nat.add_zero] at hc0
  have HU : Hid (unfour l = (l.getD 0 0).toNat + (l.getD 1 0).toNat * 256 + (l.getD 2 0).toNat * 65536 + (l.getD 3 0).toNat * 16777216) := Lib.hid rfl
  clear hc hat
  have h0 : (l.getD 0 0).toNat < 256 := (l.getD 0 0).toNat_lt
  have h1 : (l.getD 1 0).toNat < 256 := (l.getD 1 0).toNat_lt
  have h2 : (l.getD 2 0).toNat < 256 := (l.getD 2 0).toNat_lt
  have h3 : (l.getD 3 0).toNat < 256 := (l.getD 3 0).toNat_lt
  generalize (l.getD 0 0).toNat = a at *
  generalize (l.getD 1 0).toNat = c at *
  generalize (l.getD 2 0).toNat = d at *
  generalize (l.getD 3 0).toNat = f at *
  generalize unfour l = U at *
  generalize l.length = len at *
  have o1 := or_add a c 8 (by omega) (by omega)
  have o2 := or_add (a + c * 2 ^ 8) d 16 (by omega) (by omega)
  have o3 := or_add (a + c * 2 ^ 8 + d * 2 ^ 16) f 24 (by omega) (by omega)
  have HO : Hid (bits .or .u32 (bits .or .u32 (bits .or .u32 (a : Int) ((c : Int) * 256)) ((d : Int) * 65536)) ((f : Int) * 16777216) = (U : Int)) := Lib.hid (by
    rw [show bits .or .u32 (a : Int) ((c : Int) * 256) = ((a + c * 2 ^ 8 : Nat) : Int) from o1, show bits .or .u32 ((a + c * 2 ^ 8 : Nat) : Int) ((d : Int) * 65536) = ((a + c * 2 ^ 8 + d * 2 ^ 16 : Nat) : Int) from o2,
      show bits .or .u32 ((a + c * 2 ^ 8 + d * 2 ^ 16 : Nat) : Int) ((f : Int) * 16777216) = ((a + c * 2 ^ 8 + d * 2 ^ 16 + f * 2 ^ 24 : Nat) : Int) from o3, HU.out])
  clear o1 o2 o3
  go_enter Tryz.func109, Tryz.ntmps109
  go_wp2
  go_quiet (fail)
  go_wp2
  go_ret
  exact ⟨ret_int HO.out, nq, rfl⟩

set_option maxHeartbeats 400000 in
theorem refReadFour_any (v : Value) (l : List UInt8) (B : Nat) (w : World) (h : Rd w B v l) (hl : 4 ≤ l.length) :
    Calls Tryz.prog 43 #[v] w fun e w' => e = .returned (.int .u32 (unfour l : Int)) ∧ ∃ n, w.drewN n = w' := by
  obtain ⟨p, cap, rfl, hlc, ⟨hl47, hcm, hcn⟩, hat⟩ := h
  obtain ⟨b, off, rfl, hb, hc⟩ := hat (by omega)
  have hc0 := hc 0 (by omega)
  have hc1 := hc 1 (by omega)
  have hc2 := hc 2 (by omega)
  have hc3 := hc 3 (by omega)
  rw [Nat.add_zero] at hc0
  have HU : Hid (unfour l = (l.getD 0 0).toNat + (l.getD 1 0).toNat * 256 + (l.getD 2 0).toNat * 65536 + (l.getD 3 0).toNat * 16777216) := Lib.hid rfl
  clear hc hat
  have h0 : (l.getD 0 0).toNat < 256 := (l.getD 0 0).toNat_lt
  have h1 : (l.getD 1 0).toNat < 256 := (l.getD 1 0).toNat_lt
  have h2 : (l.getD 2 0).toNat < 256 := (l.getD 2 0).toNat_lt
  have h3 : (l.getD 3 0).toNat < 256 := (l.getD 3 0).toNat_lt
  generalize (l.getD 0 0).toNat = a at *
  generalize (l.getD 1 0).toNat = c at *
  generalize (l.getD 2 0).toNat = d at *
  generalize (l.getD 3 0).toNat = f at *
  generalize unfour l = U at *
  generalize l.length = len at *
  have o1 := or_add a c 8 (by omega) (by omega)
  have o2 := or_add (a + c * 2 ^ 8) d 16 (by omega) (by omega)
  have o3 := or_add (a + c * 2 ^ 8 + d * 2 ^ 16) f 24 (by omega) (by omega)
  have HO : Hid (bits .or .u32 (bits .or .u32 (bits .or .u32 (a : Int) ((c : Int) * 256)) ((d : Int) * 65536)) ((f : Int) * 16777216) = (U : Int)) := Lib.hid (by
    rw [show bits .or .u32 (a : Int) ((c : Int) * 256) = ((a + c * 2 ^ 8 : Nat) : Int) from o1, show bits .or .u32 ((a + c * 2 ^ 8 : Nat) : Int) ((d : Int) * 65536) = ((a + c * 2 ^ 8 + d * 2 ^ 16 : Nat) : Int) from o2,
      show bits .or .u32 ((a + c * 2 ^ 8 + d * 2 ^ 16 : Nat) : Int) ((f : Int) * 16777216) = ((a + c * 2 ^ 8 + d * 2 ^ 16 + f * 2 ^ 24 : Nat) : Int) from o3, HU.out])
  clear o1 o2 o3
  go_enter Tryz.func43, Tryz.ntmps43
  go_wp2
  go_quiet (fail)
  go_wp2
  go_ret
  exact ⟨ret_int HO.out, nq, rfl⟩

theorem bytes_val {W : World} {B : Nat} {v : Value} {l : List UInt8} (h : Rd W B v l) : ∃ p cap, v = .slice p l.length cap := by
  obtain ⟨p, cap, rfl, _⟩ := h
  exact ⟨p, cap, rfl⟩
/-- What 'b[n:]' and 'b[i:j]' read as. -/
theorem Rd.cut {W : World} {B n m : Nat} {p : Option Addr} {cap : Nat} {l : List UInt8} (h : Rd W B (.slice p l.length cap) l) (hn : n + m ≤ l.length) :
    Rd W B (.slice (if cap = n then p else p.map (·.add n)) m (cap - n)) ((l.drop n).take m) := by
  obtain ⟨p', cap', e, h1, h2, h3⟩ := h
  injection e with e1 _ e2
  subst e1 e2
  have hl : ((l.drop n).take m).length = m := by rw [List.length_take, List.length_drop]; omega
  refine ⟨_, _, by rw [hl], by omega, ⟨by omega, by omega, fun hp => ?_⟩, fun h0 => ?_⟩
  · split at hp
    · omega
    · have : p = none := by
        cases p with
        | none => rfl
        | some a => cases hp
      have := h2.2.2 this
      omega
  · obtain ⟨b, off, ep, hb, hc⟩ := h3 (by omega)
    subst ep
    refine ⟨b, off + n, ?_, hb, fun i hi => ?_⟩
    · rw [if_neg (by omega)]
      simp [Addr.add_mid]
    · rw [show off + n + i = off + (n + i) from by omega, hc (n + i) (by omega)]
      have : ((l.drop n).take m).getD i 0 = l.getD (n + i) 0 := by
        simp only [List.getD_eq_getElem?_getD]
        rw [List.getElem?_take, if_pos (by omega), List.getElem?_drop]
      rw [this]

theorem sizeU8 (w : World) : (Go.sizeOf 5).run Tryz.prog w = .ok 1 w := by kernel_rfl
theorem elemBytes : Tryz.prog.elem 22 = 5 := by simp [Program.elem, Tryz.underlying22]
theorem underBytes : Tryz.prog.underlying 22 = some (.slice (Tryz.prog.elem 22)) := by rw [elemBytes]; exact Tryz.underlying22
theorem cut_run {W0 : World} {B n m : Nat} {p : Option Addr} {cap : Nat} {l : List UInt8} (h : Rd W0 B (.slice p l.length cap) l) (hn : n + m ≤ l.length) :
    ∃ p' cap', Rd W0 B (.slice p' m cap') ((l.drop n).take m) ∧
      ∀ W, (Instr.slice 22 (.slice p l.length cap) (some (.int .i64 (n : Int))) (some (.int .i64 ((n : Int) + (m : Int)))) none).run Tryz.prog W = .ok (.slice p' m cap') W := by
  have hr := h.cut hn
  obtain ⟨_, _, e, hlc, _, _⟩ := id h
  injection e with _ _ e2
  refine ⟨_, _, hr, fun W => ?_⟩
  rw [run_slice_lh W 22 _ _ _ underBytes .i64 .i64 _ _ (by omega) (by omega) (by omega), elemBytes, sizeU8]
  simp only [Result.andThen, sliced, Nat.mul_one]
  rw [show ((n : Int) + (m : Int)).toNat = n + m from by omega, show ((n : Int)).toNat = n from by omega, show n + m - n = m from by omega]
theorem tail_run {W0 : World} {B n : Nat} {p : Option Addr} {cap : Nat} {l : List UInt8} (h : Rd W0 B (.slice p l.length cap) l) (hn : n ≤ l.length) :
    ∃ p' cap', Rd W0 B (.slice p' (l.length - n) cap') (l.drop n) ∧
      ∀ W, (Instr.slice 22 (.slice p l.length cap) (some (.int .i64 (n : Int))) none none).run Tryz.prog W = .ok (.slice p' (l.length - n) cap') W := by
  have hr := h.cut (n := n) (m := l.length - n) (by omega)
  rw [List.take_of_length_le (by rw [List.length_drop]; omega)] at hr
  refine ⟨_, _, hr, fun W => ?_⟩
  rw [run_slice_l W 22 _ _ _ underBytes .i64 _ (by omega) (by omega), elemBytes, sizeU8]
  simp only [Result.andThen, sliced, Nat.mul_one]
  rw [show ((n : Int)).toNat = n from by omega]
end Go.Proofs.YtagehnclkneolaaGreatDoor

/-
  The walks over codec.ReadBytes and glacierref1.ReadBytes.
-/
namespace Go.Proofs.YtagehnclkneolaaGreatDoor
open Go.RowKit

theorem ret3b {v : Value} {N E : Int} {r : List UInt8 × Nat × Nat} {p : List UInt8} {n e : Nat} (h : r = (p, n, e)) (hN : N = (n : Int)) (hE : E = (e : Int)) :
    Ending.returned (.tuple #[v, .int .i64 N, .int .i64 E]) = .returned (.tuple #[v, .int .i64 (r.2.1 : Int), .int .i64 (r.2.2 : Int)]) := by rw [h, hN, hE]

set_option maxRecDepth 100000 in
set_option maxHeartbeats 1000000 in
theorem readBytes_any (v : Value) (l : List UInt8) (most : Int) (M B : Nat) (w : World) (h : Rd w B v l) (hB : B ≤ w.heap.size) (hm1 : -9223372036854775808 ≤ most) (hm2 : most ≤ 9223372036854775807) (hM : M = most.toNat) :
    Calls Tryz.prog 120 #[v, .int .i64 most] w fun e w' =>
      ∃ v', e = .returned (.tuple #[v', .int .i64 ((rdBytes l M).2.1 : Int), .int .i64 ((rdBytes l M).2.2 : Int)]) ∧ Rd w' w'.heap.size v' (rdBytes l M).1 ∧ Below w.heap.size w w' := by
  have HR := Lib.hid h
  obtain ⟨p, cap, rfl, hlc, hl47, hcm, hat⟩ := h.form
  clear h hat
  go_enter Tryz.func120, Tryz.ntmps120
  rcases Int.lt_trichotomy most 0 with hs | hs | hs
  · obtain rfl : M = 0 := by omega
    clear hM
    go_wp2_with fail
    refine (readLength_any _ l 0 0 B w HR.out (by omega) (by omega)).mono ?_
    rintro e w1 ⟨rfl, rfl⟩
    rcases rdLen_form l 0 0 with ⟨n, k, hr, hnum, hv, hl, h1, h2⟩ | ⟨e, hr, he⟩
    · rw [hr]
      have HE := Lib.hid (rdBytes_ok l 0 n k hr)
      obtain ⟨p2, cap2, hcut, hsl⟩ := cut_run (n := k) (m := n) HR.out (by omega)
      have HC := Lib.hid hcut
      clear hr hnum hcut
      go_wp2_with fail
      refine (clone_anyC _ _ B w HC.out hB).mono ?_
      rintro e w2 ⟨v2, rfl, hrd2, _, hb2⟩
      go_wp2_with fail
      go_ret3
      exact ⟨_, ret3b HE.out (by omega) rfl, by rw [HE.out]; exact hrd2, hb2⟩
    · rw [hr]
      have HE := Lib.hid (rdBytes_err l 0 e hr (by omega))
      have e0 : ((e : Int) != 0) = true := by rw [bne_iff_ne]; omega
      clear hr he
      go_wp2_with fail
      go_ret3
      exact ⟨_, ret3b HE.out rfl rfl, by rw [HE.out]; exact Rd.none_ _ _, Below.refl _ _⟩
  · obtain rfl : M = 0 := by omega
    subst hs
    clear hM
    go_wp2_with fail
    refine (readLength_any _ l 0 0 B w HR.out (by omega) (by omega)).mono ?_
    rintro e w1 ⟨rfl, rfl⟩
    rcases rdLen_form l 0 0 with ⟨n, k, hr, hnum, hv, hl, h1, h2⟩ | ⟨e, hr, he⟩
    · rw [hr]
      have HE := Lib.hid (rdBytes_ok l 0 n k hr)
      obtain ⟨p2, cap2, hcut, hsl⟩ := cut_run (n := k) (m := n) HR.out (by omega)
      have HC := Lib.hid hcut
      clear hr hnum hcut
      go_wp2_with fail
      refine (clone_anyC _ _ B w HC.out hB).mono ?_
      rintro e w2 ⟨v2, rfl, hrd2, _, hb2⟩
      go_wp2_with fail
      go_ret3
      exact ⟨_, ret3b HE.out (by omega) rfl, by rw [HE.out]; exact hrd2, hb2⟩
    · rw [hr]
      have HE := Lib.hid (rdBytes_err l 0 e hr (by omega))
      have e0 : ((e : Int) != 0) = true := by rw [bne_iff_ne]; omega
      clear hr he
      go_wp2_with fail
      go_ret3
      exact ⟨_, ret3b HE.out rfl rfl, by rw [HE.out]; exact Rd.none_ _ _, Below.refl _ _⟩
  · obtain rfl : most = (M : Int) := by omega
    clear hM
    go_wp2_with fail
    refine (readLength_any _ l M 0 B w HR.out (by omega) (by omega)).mono ?_
    rintro e w1 ⟨rfl, rfl⟩
    rcases rdLen_form l M 0 with ⟨n, k, hr, hnum, hv, hl, h1, h2⟩ | ⟨e, hr, he⟩
    · rw [hr]
      have HE := Lib.hid (rdBytes_ok l M n k hr)
      obtain ⟨p2, cap2, hcut, hsl⟩ := cut_run (n := k) (m := n) HR.out (by omega)
      have HC := Lib.hid hcut
      clear hr hnum hcut
      go_wp2_with fail
      refine (clone_anyC _ _ B w HC.out hB).mono ?_
      rintro e w2 ⟨v2, rfl, hrd2, _, hb2⟩
      go_wp2_with fail
      go_ret3
      exact ⟨_, ret3b HE.out (by omega) rfl, by rw [HE.out]; exact hrd2, hb2⟩
    · rw [hr]
      have HE := Lib.hid (rdBytes_err l M e hr (by omega))
      have e0 : ((e : Int) != 0) = true := by rw [bne_iff_ne]; omega
      clear hr he
      go_wp2_with fail
      go_ret3
      exact ⟨_, ret3b HE.out rfl rfl, by rw [HE.out]; exact Rd.none_ _ _, Below.refl _ _⟩

set_option maxRecDepth 100000 in
set_option maxHeartbeats 1000000 in
theorem refReadBytes_any (v : Value) (l : List UInt8) (most : Int) (M B : Nat) (w : World) (h : Rd w B v l) (hm1 : -9223372036854775808 ≤ most) (hm2 : most ≤ 9223372036854775807) (hM : M = most.toNat) :
    Calls Tryz.prog 82 #[v, .int .i64 most] w fun e w' =>
      ∃ v', e = .returned (.tuple #[v', .int .i64 ((rdBytes l M).2.1 : Int), .int .i64 ((rdBytes l M).2.2 : Int)]) ∧ Rd w B v' (rdBytes l M).1 ∧ w = w' := by
  have HR := Lib.hid h
  obtain ⟨p, cap, rfl, hlc, hl47, hcm, hat⟩ := h.form
  clear h hat
  go_enter Tryz.func82, Tryz.ntmps82
  go_wp2_with fail
  refine (refReadNumber_any _ l B w HR.out).mono ?_
  rintro e w1 ⟨rfl, rfl⟩
  rcases Int.lt_or_le most 0 with hs | hs
  · obtain rfl : M = 0 := by omega
    clear hM
    rcases rdNum_form l with ⟨n, k, hr, h1, h2, h3, h4⟩ | hr | hr
    · rw [hr]
      have HN := Lib.hid h4
      by_cases hv : 0 < n
      · have HE := Lib.hid (rdBytes_err l 0 3 (rdLen_long l 0 0 n k hr hv) (by decide))
        clear hr h4
        have d1 : decide ((0 : Int) < (n : Int)) = true := by simp; omega
        go_wp2_with fail
        go_ret3
        exact ⟨_, ret3b HE.out rfl rfl, by rw [HE.out]; exact Rd.none_ _ _, rfl⟩
      · have d1 : decide ((0 : Int) < (n : Int)) = false := by simp; omega
        by_cases hl : n + k + 0 ≤ l.length
        · have HE := Lib.hid (rdBytes_ok l 0 n k (rdLen_ok l 0 0 n k hr hv hl))
          obtain ⟨p2, cap2, hcut, hsl⟩ := cut_run (n := k) (m := n) HR.out (by omega)
          have HC := Lib.hid hcut
          clear hr h4 hcut
          have d2 : decide ((l.length : Int) - (k : Int) < (n : Int)) = false := by simp; omega
          go_wp2_with fail
          go_ret3
          exact ⟨_, ret3b HE.out (by omega) rfl, by rw [HE.out]; exact HC.out, rfl⟩
        · have HE := Lib.hid (rdBytes_err l 0 11 (rdLen_short l 0 0 n k hr hv hl) (by decide))
          clear hr h4
          have d2 : decide ((l.length : Int) - (k : Int) < (n : Int)) = true := by simp; omega
          go_wp2_with fail
          go_ret3
          exact ⟨_, ret3b HE.out rfl rfl, by rw [HE.out]; exact Rd.none_ _ _, rfl⟩
    · rw [hr]
      have HE := Lib.hid (rdBytes_err l 0 11 (rdLen_err l 0 0 11 hr (by decide)) (by decide))
      clear hr
      go_wp2_with fail
      go_ret3
      exact ⟨_, ret3b HE.out rfl rfl, by rw [HE.out]; exact Rd.none_ _ _, rfl⟩
    · rw [hr]
      have HE := Lib.hid (rdBytes_err l 0 12 (rdLen_err l 0 0 12 hr (by decide)) (by decide))
      clear hr
      go_wp2_with fail
      go_ret3
      exact ⟨_, ret3b HE.out rfl rfl, by rw [HE.out]; exact Rd.none_ _ _, rfl⟩
  · obtain rfl : most = (M : Int) := by omega
    clear hM
    rcases rdNum_form l with ⟨n, k, hr, h1, h2, h3, h4⟩ | hr | hr
    · rw [hr]
      have HN := Lib.hid h4
      by_cases hv : M < n
      · have HE := Lib.hid (rdBytes_err l M 3 (rdLen_long l M 0 n k hr hv) (by decide))
        clear hr h4
        have d1 : decide ((M : Int) < (n : Int)) = true := by simp; omega
        go_wp2_with fail
        go_ret3
        exact ⟨_, ret3b HE.out rfl rfl, by rw [HE.out]; exact Rd.none_ _ _, rfl⟩
      · have d1 : decide ((M : Int) < (n : Int)) = false := by simp; omega
        by_cases hl : n + k + 0 ≤ l.length
        · have HE := Lib.hid (rdBytes_ok l M n k (rdLen_ok l M 0 n k hr hv hl))
          obtain ⟨p2, cap2, hcut, hsl⟩ := cut_run (n := k) (m := n) HR.out (by omega)
          have HC := Lib.hid hcut
          clear hr h4 hcut
          have d2 : decide ((l.length : Int) - (k : Int) < (n : Int)) = false := by simp; omega
          go_wp2_with fail
          go_ret3
          exact ⟨_, ret3b HE.out (by omega) rfl, by rw [HE.out]; exact HC.out, rfl⟩
        · have HE := Lib.hid (rdBytes_err l M 11 (rdLen_short l M 0 n k hr hv hl) (by decide))
          clear hr h4
          have d2 : decide ((l.length : Int) - (k : Int) < (n : Int)) = true := by simp; omega
          go_wp2_with fail
          go_ret3
          exact ⟨_, ret3b HE.out rfl rfl, by rw [HE.out]; exact Rd.none_ _ _, rfl⟩
    · rw [hr]
      have HE := Lib.hid (rdBytes_err l M 11 (rdLen_err l M 0 11 hr (by decide)) (by decide))
      clear hr
      go_wp2_with fail
      go_ret3
      exact ⟨_, ret3b HE.out rfl rfl, by rw [HE.out]; exact Rd.none_ _ _, rfl⟩
    · rw [hr]
      have HE := Lib.hid (rdBytes_err l M 12 (rdLen_err l M 0 12 hr (by decide)) (by decide))
      clear hr
      go_wp2_with fail
      go_ret3
      exact ⟨_, ret3b HE.out rfl rfl, by rw [HE.out]; exact Rd.none_ _ _, rfl⟩
end Go.Proofs.YtagehnclkneolaaGreatDoor

/-
  The walks over codec.ReadFrame and glacierref1.ReadFrame.
-/
namespace Go.Proofs.YtagehnclkneolaaGreatDoor
open Go.RowKit

theorem Rd.heap {w W : World} {B : Nat} {v : Value} {l : List UInt8} (h : Rd w B v l) (e : W.heap = w.heap) : Rd W B v l := h.keep fun _ _ _ => World.cell?_of_block (by rw [e])
theorem RdL.heap {w W : World} {B : Nat} {v : Value} {ls : List (List UInt8)} (h : RdL w B v ls) (e : W.heap = w.heap) : RdL W B v ls := h.keep fun _ _ _ => World.cell?_of_block (by rw [e])
theorem Tabs.heap {w W : World} (h : Tabs w) (e : W.heap = w.heap) : Tabs W := h.keep fun _ _ _ => World.cell?_of_block (by rw [e])
theorem below_heap {B : Nat} {w w1 W : World} (h : Below B w w1) (e : W.heap = w1.heap) (ho : W.os = w1.os) (ht : W.tape = w1.tape) (hp : W.output = w1.output) : Below B w W :=
  ⟨ho.trans h.os, ht.trans h.tape, hp.trans h.output, by rw [e]; exact h.size, fun k hk => by rw [e]; exact h.block k hk⟩

theorem q_same {P : Program} {f : FuncId} {args : Array Value} {w : World} {n : Nat} {v : Value}
    (h : Calls P f args (w.drewN n) fun e w' => e = .returned v ∧ w.drewN n = w') : Calls P f args (w.drewN n) fun e w'' => e = .returned v ∧ ∃ m, w'' = w.drewN m :=
  h.mono fun _ _ ⟨he, hm⟩ => ⟨he, n, hm.symm⟩
theorem q_drew {P : Program} {f : FuncId} {args : Array Value} {w : World} {n : Nat} {v : Value}
    (h : Calls P f args (w.drewN n) fun e w' => e = .returned v ∧ ∃ m, (w.drewN n).drewN m = w') : Calls P f args (w.drewN n) fun e w'' => e = .returned v ∧ ∃ m, w'' = w.drewN m :=
  h.mono fun _ _ ⟨he, m, hm⟩ => ⟨he, n + m, by rw [← hm, World.drewN_drewN]⟩

set_option maxRecDepth 100000 in
set_option maxHeartbeats 1000000 in
theorem refReadFrame_any (v : Value) (l : List UInt8) (B : Nat) (w : World) (h : Rd w B v l) :
    Calls Tryz.prog 45 #[v] w fun e w' =>
      ∃ v', e = .returned (.tuple #[v', .int .i64 ((rdFrame l).2.1 : Int), .int .i64 ((rdFrame l).2.2 : Int)]) ∧ Rd w B v' (rdFrame l).1 ∧ ∃ n, w.drewN n = w' := by
  have HR := Lib.hid h
  obtain ⟨p, cap, rfl, hlc, hl47, hcm, hat⟩ := h.form
  clear h hat
  go_enter Tryz.func45, Tryz.ntmps45
  go_wp2_with fail
  refine (refReadNumber_any _ l B w HR.out).mono ?_
  rintro e w1 ⟨rfl, rfl⟩
  rcases rdNum_form l with ⟨n, k, hr, h1, h2, h3, h4⟩ | hr | hr
  · rw [hr]
    have HN := Lib.hid h4
    by_cases hv : 67108864 < n
    · have HE := Lib.hid (rdFrame_err l 3 (rdLen_long l 67108864 4 n k hr hv) (by decide))
      clear hr h4
      have d1 : decide ((67108864 : Int) < (n : Int)) = true := by simp; omega
      go_wp2_with fail
      go_ret3
      exact ⟨_, ret3b HE.out rfl rfl, by rw [HE.out]; exact Rd.none_ _ _, 0, rfl⟩
    · have d1 : decide ((67108864 : Int) < (n : Int)) = false := by simp; omega
      by_cases hl : n + k + 4 ≤ l.length
      · have hlen := rdLen_ok l 67108864 4 n k hr hv hl
        obtain ⟨p2, cap2, hcut, hsl⟩ := cut_run (n := k + 4) (m := n) HR.out (by omega)
        obtain ⟨p3, cap3, htl, hsl3⟩ := tail_run (n := k) HR.out (by omega)
        have HC := Lib.hid hcut
        have HD := Lib.hid htl
        clear hr h4 hcut htl
        have e4 : ((k + 4 : Nat) : Int) = (k : Int) + 4 := by omega
        rw [e4] at hsl
        clear e4
        have d2 : decide ((l.length : Int) - (k : Int) < 4) = false := by simp; omega
        have d3 : decide ((l.length : Int) - (k : Int) - 4 < (n : Int)) = false := by simp; omega
        have h4d : 4 ≤ (l.drop k).length := by rw [List.length_drop]; omega
        have hdl : (l.drop k).length = l.length - k := List.length_drop
        have HDL := Lib.hid hdl
        have HS4 := Lib.hid h4d
        clear hdl h4d
        by_cases hc : crc ((l.drop (k + 4)).take n) = unfour (l.drop k)
        · have HE := Lib.hid (rdFrame_ok l n k hlen hc)
          have b1 : ((crc ((l.drop (k + 4)).take n) : Int) != (unfour (l.drop k) : Int)) = false := by simp [hc]
          clear hc hlen
          go_wp2_with fail
          go_quiet (first
            | (go_at_call 42; exact q_same (refSum_any _ _ B _ (HC.out.drewN _)))
            | (go_at_call 43; exact q_drew (refReadFour_any _ _ B _ (HD.out.drewN _) HS4.out)))
          go_wp2_with fail
          go_ret3
          exact ⟨_, ret3b HE.out (by omega) rfl, by rw [HE.out]; exact HC.out, nq, rfl⟩
        · have HE := Lib.hid (rdFrame_sum l n k hlen hc)
          have b1 : ((crc ((l.drop (k + 4)).take n) : Int) != (unfour (l.drop k) : Int)) = true := by rw [bne_iff_ne]; omega
          clear hc hlen
          go_wp2_with fail
          go_quiet (first
            | (go_at_call 42; exact q_same (refSum_any _ _ B _ (HC.out.drewN _)))
            | (go_at_call 43; exact q_drew (refReadFour_any _ _ B _ (HD.out.drewN _) HS4.out)))
          go_wp2_with fail
          go_ret3
          exact ⟨_, ret3b HE.out rfl rfl, by rw [HE.out]; exact Rd.none_ _ _, nq, rfl⟩
      · have HE := Lib.hid (rdFrame_err l 11 (rdLen_short l 67108864 4 n k hr hv hl) (by decide))
        clear hr h4
        by_cases hk4 : l.length < k + 4
        · have d2 : decide ((l.length : Int) - (k : Int) < 4) = true := by simp; omega
          go_wp2_with fail
          go_ret3
          exact ⟨_, ret3b HE.out rfl rfl, by rw [HE.out]; exact Rd.none_ _ _, 0, rfl⟩
        · have d2 : decide ((l.length : Int) - (k : Int) < 4) = false := by simp; omega
          have d3 : decide ((l.length : Int) - (k : Int) - 4 < (n : Int)) = true := by simp; omega
          go_wp2_with fail
          go_ret3
          exact ⟨_, ret3b HE.out rfl rfl, by rw [HE.out]; exact Rd.none_ _ _, 0, rfl⟩
  · rw [hr]
    have HE := Lib.hid (rdFrame_err l 11 (rdLen_err l 67108864 4 11 hr (by decide)) (by decide))
    clear hr
    go_wp2_with fail
    go_ret3
    exact ⟨_, ret3b HE.out rfl rfl, by rw [HE.out]; exact Rd.none_ _ _, 0, rfl⟩
  · rw [hr]
    have HE := Lib.hid (rdFrame_err l 12 (rdLen_err l 67108864 4 12 hr (by decide)) (by decide))
    clear hr
    go_wp2_with fail
    go_ret3
    exact ⟨_, ret3b HE.out rfl rfl, by rw [HE.out]; exact Rd.none_ _ _, 0, rfl⟩

set_option maxRecDepth 100000 in
set_option maxHeartbeats 1000000 in
theorem readFrame_any (v : Value) (l : List UInt8) (B : Nat) (w : World) (h : Rd w B v l) (hB : B ≤ w.heap.size) (ht : Tabs w) :
    Calls Tryz.prog 100 #[v] w fun e w' =>
      ∃ v', e = .returned (.tuple #[v', .int .i64 ((rdFrame l).2.1 : Int), .int .i64 ((rdFrame l).2.2 : Int)]) ∧ Rd w' w'.heap.size v' (rdFrame l).1 ∧ (∀ k, v'.ownBlock = some k → w.heap.size ≤ k) ∧ Below w.heap.size w w' := by
  have HR := Lib.hid h
  have HT := Lib.hid ht
  obtain ⟨p, cap, rfl, hlc, hl47, hcm, hat⟩ := h.form
  clear h hat ht
  go_enter Tryz.func100, Tryz.ntmps100
  go_wp2_with fail
  refine (readLength_any _ l 67108864 4 B w HR.out (by omega) (by omega)).mono ?_
  rintro e w1 ⟨rfl, rfl⟩
  rcases rdLen_form l 67108864 4 with ⟨n, k, hr, hnum, hv, hl, h1, h2⟩ | ⟨e, hr, he⟩
  · rw [hr]
    obtain ⟨p2, cap2, hcut, hsl⟩ := cut_run (n := k + 4) (m := n) HR.out (by omega)
    obtain ⟨p3, cap3, htl, hsl3⟩ := tail_run (n := k) HR.out (by omega)
    have HC := Lib.hid hcut
    have HL := Lib.hid (RdL.one hcut hB 22)
    have HBl := Lib.hid (below_alloc w (.cells #[.slice p2 n cap2] 22))
    have HC1 := Lib.hid (hcut.under HBl.out hB)
    have HD1 := Lib.hid (htl.under HBl.out hB)
    have HT1 := Lib.hid (HT.out.under HBl.out HT.out.two)
    have HD := Lib.hid htl
    clear hnum hcut htl
    have e4 : ((k + 4 : Nat) : Int) = (k : Int) + 4 := by omega
    rw [e4] at hsl
    clear e4
    have h4d : 4 ≤ (l.drop k).length := by rw [List.length_drop]; omega
    have HS4 := Lib.hid h4d
    clear h4d
    by_cases hc : crc ((l.drop (k + 4)).take n) = unfour (l.drop k)
    · have HE := Lib.hid (rdFrame_ok l n k hr hc)
      have b1 : ((crc ((l.drop (k + 4)).take n) : Int) != (unfour (l.drop k) : Int)) = false := by simp [hc]
      clear hc hr
      go_wp2_with fail
      go_region_with (first
        | (go_at_call 90; refine (sum_any _ [(l.drop (k + 4)).take n] (w.heap.size + 1) _ (by exact HL.out.heap rfl) (by exact HT1.out.heap rfl)).mono ?_; rintro e w' ⟨rfl, m, rfl⟩)
        | (go_at_call 109; refine (readSum_any _ (l.drop k) B _ (by exact HD.out.heap rfl) HS4.out).mono ?_; rintro e w' ⟨rfl, m, rfl⟩)
        | (go_at_call 109; refine (readSum_any _ (l.drop k) B _ (by exact HD1.out.heap rfl) HS4.out).mono ?_; rintro e w' ⟨rfl, m, rfl⟩))
      go_wp2_with fail
      refine (clone_anyC _ _ B _ (by exact HC1.out.heap rfl) (by simp; omega)).mono ?_
      rintro e w2 ⟨v2, rfl, hrd2, hnew2, hb2⟩
      go_wp2_with fail
      go_ret3
      have hb3 := hb2.mono (B' := w.heap.size) (by simp)
      exact ⟨_, ret3b HE.out (by omega) rfl, by rw [HE.out]; exact hrd2, (fun k hk => by have := hnew2 k hk; simp at this; omega), Below.trans (by exact below_heap HBl.out rfl rfl rfl rfl) hb3⟩
    · have HE := Lib.hid (rdFrame_sum l n k hr hc)
      have b1 : ((crc ((l.drop (k + 4)).take n) : Int) != (unfour (l.drop k) : Int)) = true := by rw [bne_iff_ne]; omega
      clear hc hr
      go_wp2_with fail
      go_region_with (first
        | (go_at_call 90; refine (sum_any _ [(l.drop (k + 4)).take n] (w.heap.size + 1) _ (by exact HL.out.heap rfl) (by exact HT1.out.heap rfl)).mono ?_; rintro e w' ⟨rfl, m, rfl⟩)
        | (go_at_call 109; refine (readSum_any _ (l.drop k) B _ (by exact HD.out.heap rfl) HS4.out).mono ?_; rintro e w' ⟨rfl, m, rfl⟩)
        | (go_at_call 109; refine (readSum_any _ (l.drop k) B _ (by exact HD1.out.heap rfl) HS4.out).mono ?_; rintro e w' ⟨rfl, m, rfl⟩))
      go_wp2_with fail
      go_ret3
      exact ⟨_, ret3b HE.out rfl rfl, by rw [HE.out]; exact Rd.none_ _ _, (fun k hk => by cases hk), below_heap HBl.out rfl rfl rfl rfl⟩
  · rw [hr]
    have HE := Lib.hid (rdFrame_err l e hr (by omega))
    have e0 : ((e : Int) != 0) = true := by rw [bne_iff_ne]; omega
    clear hr he
    go_wp2_with fail
    go_ret3
    exact ⟨_, ret3b HE.out rfl rfl, by rw [HE.out]; exact Rd.none_ _ _, (fun k hk => by cases hk), Below.refl _ _⟩
end Go.Proofs.YtagehnclkneolaaGreatDoor
