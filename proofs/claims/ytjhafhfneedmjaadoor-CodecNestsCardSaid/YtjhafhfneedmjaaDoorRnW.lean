/-
  The walks over codec.badEnd, codec.ReadNumber and glacierref1.ReadNumber: the number at the front of any bytes, or the error.
-/
import Derived.Test.YtjhafhfneedmjaaDoorApp
import Derived.WalkKit
import Derived.WalkSpells
import Derived.Lib.Hide
import Derived.OwnWalk
import Derived.BigQuiet
namespace Go.Proofs.YtjhafhfneedmjaaDoor
open Go.RowKit

def bad (x : UInt8) (i : Nat) : Bool := decide ((0 < i ∧ x.toNat = 0) ∨ (i = 9 ∧ 1 < x.toNat))

set_option maxHeartbeats 400000 in
theorem badEnd_any (x : UInt8) (i : Nat) (b : Bool) (w : World) (hi : i ≤ 9) (hb : bad x i = b) :
    Calls Tryd.prog 33 #[.int .u8 (x.toNat : Int), .int .i64 (i : Int)] w fun e w' => e = .returned (.bool b) ∧ w = w' := by
  have hx : x.toNat < 256 := x.toNat_lt
  have HB := Lib.hid hb
  clear hb
  by_cases h0 : 0 < i
  · have d0 : decide ((0 : Int) < (i : Int)) = true := by simp; omega
    by_cases hx0 : x.toNat = 0
    · have e0 : ((x.toNat : Int) == 0) = true := by simp; omega
      have hf : b = true := by rw [← HB.out]; unfold bad; simp [h0, hx0]
      subst hf
      clear hx0
      go_enter Tryd.func33, Tryd.ntmps33
      go_wp2
      go_ret
      exact ⟨rfl, rfl⟩
    · have e0 : ((x.toNat : Int) == 0) = false := by simp; omega
      by_cases h9 : i = 9
      · subst h9
        by_cases h1 : 1 < x.toNat
        · have d1 : decide ((1 : Int) < (x.toNat : Int)) = true := by simp; omega
          have hf : b = true := by rw [← HB.out]; unfold bad; simp [h1]
          subst hf
          clear hx0
          go_enter Tryd.func33, Tryd.ntmps33
          go_wp2
          go_ret
          exact ⟨rfl, rfl⟩
        · have d1 : decide ((1 : Int) < (x.toNat : Int)) = false := by simp; omega
          have hf : b = false := by rw [← HB.out]; unfold bad; simp [h1, hx0]
          subst hf
          clear hx0
          go_enter Tryd.func33, Tryd.ntmps33
          go_wp2
          go_ret
          exact ⟨rfl, rfl⟩
      · have e9 : ((i : Int) == 9) = false := by simp; omega
        have hf : b = false := by rw [← HB.out]; unfold bad; simp [h9, hx0]
        subst hf
        clear hx0 h9
        go_enter Tryd.func33, Tryd.ntmps33
        go_wp2
        go_ret
        exact ⟨rfl, rfl⟩
  · have hi0 : i = 0 := by omega
    subst hi0
    have hf : b = false := by rw [← HB.out]; unfold bad; simp
    subst hf
    go_enter Tryd.func33, Tryd.ntmps33
    go_wp2
    go_ret
    exact ⟨rfl, rfl⟩

theorem and127 (x : UInt8) : bits .and .u8 (x.toNat : Int) 127 = (x.toNat : Int) % 128 :=
  bits_mask .u8 8 (by decide) wraps_u8 7 (by decide) _ (by omega) (by have := x.toNat_lt; omega)
theorem and128lo (x : UInt8) (h : x.toNat < 128) : bits .and .u8 (x.toNat : Int) 128 = 0 := by
  have h1 := u8_and_nat x.toNat 128 (by omega) (by decide)
  have all : ∀ a, a < 128 → a &&& 128 = 0 := by decide +kernel
  rw [all _ h] at h1
  exact h1
theorem and128hi (x : UInt8) (h : ¬ x.toNat < 128) : bits .and .u8 (x.toNat : Int) 128 = 128 := by
  have hx := x.toNat_lt
  have h1 := u8_and_nat x.toNat 128 (by omega) (by decide)
  have all : ∀ a, a < 256 → ¬ a < 128 → a &&& 128 = 128 := by decide +kernel
  rw [all _ (by omega) h] at h1
  exact h1

theorem fuel (k : Nat) (hk : k < 10) : 10 - k = 9 - k + 1 := by omega
theorem rd_bad (k X : Nat) (x : UInt8) (r : List UInt8) (hk : k < 10) (hx : x.toNat < 128) (hb : bad x k = true) : rdF (10 - k) k X (x :: r) = (0, 0, 12) := by
  unfold bad at hb
  have h := of_decide_eq_true hb
  rw [fuel k hk, rdF, if_pos hx, if_pos (by omega)]
theorem rd_last (k X : Nat) (x : UInt8) (r : List UInt8) (hk : k < 10) (hx : x.toNat < 128) (hb : bad x k = false) : rdF (10 - k) k X (x :: r) = (X + x.toNat * 2 ^ (7 * k), k + 1, 0) := by
  unfold bad at hb
  have h := of_decide_eq_false hb
  rw [fuel k hk, rdF, if_pos hx, if_neg (by omega)]
theorem rd_more (k X : Nat) (x : UInt8) (r : List UInt8) (hk : k < 10) (hx : ¬ x.toNat < 128) : rdF (10 - k) k X (x :: r) = rdF (10 - (k + 1)) (k + 1) (X + (x.toNat - 128) * 2 ^ (7 * k)) r := by
  rw [fuel k hk, rdF, if_neg hx, show 10 - (k + 1) = 9 - k from by omega]
theorem rd_short (k X : Nat) (hk : k < 10) : rdF (10 - k) k X [] = (0, 0, 11) := by rw [fuel k hk, rdF]
theorem mul_small (y k : Nat) (hk : k ≤ 9) (hy : y < 128) (h9 : k = 9 → y ≤ 1) : y * 2 ^ (7 * k) < 18446744073709551616 := by
  by_cases h : k = 9
  · subst h
    have := h9 rfl
    omega
  · have h1 : y * 2 ^ (7 * k) ≤ 127 * 2 ^ 56 := Nat.mul_le_mul (by omega) (Nat.pow_le_pow_right (by decide) (by omega))
    omega
theorem or_shl (X y k : Nat) (hX : X < 2 ^ (7 * k)) (hk : k ≤ 9) (hy : y < 128) (h9 : k = 9 → y ≤ 1) :
    bits .or .u64 (X : Int) (IntKind.u64.wrap ((y : Int) * 2 ^ (7 * k))) = ((X + y * 2 ^ (7 * k) : Nat) : Int) := by
  have hs := mul_small y k hk hy h9
  have hX2 : X < 18446744073709551616 := by
    have h1 : 2 ^ (7 * k) ≤ 2 ^ 63 := Nat.pow_le_pow_right (by decide) (by omega)
    omega
  have e : (y : Int) * 2 ^ (7 * k) = ((y * 2 ^ (7 * k) : Nat) : Int) := by simp
  have ew : IntKind.u64.wrap ((y * 2 ^ (7 * k) : Nat) : Int) = ((y * 2 ^ (7 * k) : Nat) : Int) := by rw [IntKind.wrap_u64]; omega
  rw [e, ew, u64_or_nat _ _ hX2 hs]
  congr 1
  rw [Nat.or_comm, Nat.mul_comm y, ← Nat.two_pow_add_eq_or_of_lt hX, Nat.add_comm]
theorem or_shl_byte (X k : Nat) (x : UInt8) (hX : X < 2 ^ (7 * k)) (hk : k ≤ 9) (h9 : k = 9 → x.toNat % 128 ≤ 1) :
    bits .or .u64 (X : Int) (IntKind.u64.wrap ((x.toNat : Int) % 128 * 2 ^ (7 * k))) = ((X + x.toNat % 128 * 2 ^ (7 * k) : Nat) : Int) := by
  have h := or_shl X (x.toNat % 128) k hX hk (by omega) h9
  rw [show ((x.toNat % 128 : Nat) : Int) = (x.toNat : Int) % 128 from by omega] at h
  exact h
theorem ret3 {a b c : Nat} {V : Int} {r : Nat × Nat × Nat} (h : r = (a, b, c)) (hV : V = (a : Int)) :
    Ending.returned (.tuple #[.int .u64 V, .int .i64 (b : Int), .int .i64 (c : Int)]) = .returned (.tuple #[.int .u64 (r.1 : Int), .int .i64 (r.2.1 : Int), .int .i64 (r.2.2 : Int)]) := by rw [h, hV]

set_option maxRecDepth 100000 in
set_option maxHeartbeats 400000 in
theorem readNumber_any (v : Value) (l : List UInt8) (B : Nat) (w : World) (h : Rd w B v l) :
    Calls Tryd.prog 16 #[v] w fun e w' => e = .returned (.tuple #[.int .u64 ((rdNum l).1 : Int), .int .i64 ((rdNum l).2.1 : Int), .int .i64 ((rdNum l).2.2 : Int)]) ∧ w = w' := by
  obtain ⟨p, cap, rfl, hlc, hl47, hcm, hat⟩ := h.form
  clear h
  have HA := Lib.hid hat
  clear hat
  go_enter Tryd.func16, Tryd.ntmps16
  go_wp2
  go_loop [5, 8] (fun t i => ∃ (k X : Nat) (V : Int), k ≤ 10 ∧ k ≤ l.length ∧ i = .int .i64 (k : Int) ∧ t = .int .u64 V ∧ (k ≤ 9 → V = (X : Int) ∧ X < 2 ^ (7 * k)) ∧ rdNum l = rdF (10 - k) k X (l.drop k)) (fun _ i => 10 - (intOf i).toNat)
  case atStart => exact ⟨0, 0, 0, by omega, by omega, rfl, rfl, fun _ => ⟨rfl, by decide⟩, rfl⟩
  case round =>
    obtain ⟨k, X, V, hk, hkl, rfl, rfl, hV, hd⟩ := hrel
    have HV := Lib.hid hV
    have HD := Lib.hid hd
    clear hV hd
    by_cases hlt : k < 10
    · by_cases hlen : k < l.length
      · obtain ⟨b, off, x, rfl, hb, hx, hc⟩ := HA.out k hlen
        have hx8 : x.toNat < 256 := x.toNat_lt
        have HX := Lib.hid (show l.drop k = x :: l.drop (k + 1) by
          rw [List.drop_eq_getElem_cons hlen]
          rw [List.getElem?_eq_getElem hlen] at hx
          injection hx with hx
          rw [hx])
        clear hx
        have hne : ((k : Int) == (l.length : Int)) = false := by simp; omega
        have h127 := and127 x
        obtain ⟨rfl, hX⟩ := HV.out (by omega)
        clear HV
        have HXl := Lib.hid hX
        clear hX
        by_cases h128 : x.toNat < 128
        · have ha := and128lo x h128
          cases hbad : bad x k
          · have hv : Hid (bits .or .u64 (X : Int) (IntKind.u64.wrap ((x.toNat : Int) % 128 * 2 ^ (7 * k))) = ((X + x.toNat * 2 ^ (7 * k) : Nat) : Int)) := by
              unfold bad at hbad
              have h := of_decide_eq_false hbad
              have h2 := or_shl_byte X k x HXl.out (by omega) (by omega)
              rw [show x.toNat % 128 = x.toNat from by omega] at h2
              exact h2
            have HR := Lib.hid (show rdNum l = (X + x.toNat * 2 ^ (7 * k), k + 1, 0) by rw [HD.out, HX.out, rd_last k X x _ hlt h128 hbad])
            have HBad := Lib.hid hbad
            clear hbad HD HX
            go_wp2_with (go_at_call 33; refine (badEnd_any x k false _ (by omega) HBad.out).mono ?_; rintro e w' ⟨rfl, rfl⟩)
            go_ret3
            exact ⟨ret3 HR.out hv.out, rfl⟩
          · have HR := Lib.hid (show rdNum l = (0, 0, 12) by rw [HD.out, HX.out, rd_bad k X x _ hlt h128 hbad])
            have HBad := Lib.hid hbad
            clear hbad HD HX
            go_wp2_with (go_at_call 33; refine (badEnd_any x k true _ (by omega) HBad.out).mono ?_; rintro e w' ⟨rfl, rfl⟩)
            go_ret3
            exact ⟨ret3 HR.out rfl, rfl⟩
        · have ha := and128hi x h128
          have HR := Lib.hid (show rdNum l = rdF (10 - (k + 1)) (k + 1) (X + (x.toNat - 128) * 2 ^ (7 * k)) (l.drop (k + 1)) by rw [HD.out, HX.out, rd_more k X x _ hlt h128])
          have hv : Hid (k + 1 ≤ 9 → bits .or .u64 (X : Int) (IntKind.u64.wrap ((x.toNat : Int) % 128 * 2 ^ (7 * k))) = ((X + (x.toNat - 128) * 2 ^ (7 * k) : Nat) : Int) ∧ X + (x.toNat - 128) * 2 ^ (7 * k) < 2 ^ (7 * (k + 1))) := by
            intro h9
            have h2 := or_shl_byte X k x HXl.out (by omega) (by omega)
            rw [show x.toNat % 128 = x.toNat - 128 from by omega] at h2
            refine ⟨h2, ?_⟩
            rw [pow_step]
            have h3 : (x.toNat - 128) * 2 ^ (7 * k) ≤ 127 * 2 ^ (7 * k) := Nat.mul_le_mul_right _ (by omega)
            have h4 := HXl.out
            omega
          clear HD HX
          go_wp2_with fail
          exact ⟨⟨k + 1, _, _, by omega, by omega, by go_num, rfl, hv.out, HR.out⟩, by simp [intOf]; omega⟩
      · obtain rfl : k = l.length := by omega
        have HR := Lib.hid (show rdNum l = (0, 0, 11) by rw [HD.out, List.drop_length, rd_short _ X hlt])
        have hne : ((l.length : Int) == (l.length : Int)) = true := by simp
        clear HD
        go_wp2_with fail
        go_ret3
        exact ⟨ret3 HR.out rfl, rfl⟩
    · obtain rfl : k = 10 := by omega
      have HR := Lib.hid (show rdNum l = (0, 0, 12) by rw [HD.out]; rfl)
      clear HD HV
      go_wp2_with fail
      go_ret3
      exact ⟨ret3 HR.out rfl, rfl⟩

theorem and127_64 (x : UInt8) : bits .and .u64 (x.toNat : Int) 127 = (x.toNat : Int) % 128 := by
  have hx := x.toNat_lt
  have h1 := u64_and_nat x.toNat 127 (by omega) (by decide)
  have all : ∀ a, a < 256 → a &&& 127 = a % 128 := by decide +kernel
  rw [all _ (by omega)] at h1
  exact h1.trans (by omega)
theorem rd_nine (X : Nat) (x : UInt8) (r : List UInt8) (h : 1 < x.toNat) : rdF (10 - 9) 9 X (x :: r) = (0, 0, 12) := by
  by_cases hx : x.toNat < 128
  · exact rd_bad 9 X x r (by omega) hx (by unfold bad; simp [h])
  · rw [rd_more 9 X x r (by omega) hx]
    rfl

set_option maxRecDepth 100000 in
set_option maxHeartbeats 400000 in
theorem refReadNumber_any (v : Value) (l : List UInt8) (B : Nat) (w : World) (h : Rd w B v l) :
    Calls Tryd.prog 17 #[v] w fun e w' => e = .returned (.tuple #[.int .u64 ((rdNum l).1 : Int), .int .i64 ((rdNum l).2.1 : Int), .int .i64 ((rdNum l).2.2 : Int)]) ∧ w = w' := by
  obtain ⟨p, cap, rfl, hlc, hl47, hcm, hat⟩ := h.form
  clear h
  have HA := Lib.hid hat
  clear hat
  go_enter Tryd.func17, Tryd.ntmps17
  go_wp2
  go_loop [5, 6] (fun t i => ∃ (k X : Nat) (V : Int), k ≤ 10 ∧ k ≤ l.length ∧ i = .int .i64 (k : Int) ∧ t = .int .u64 V ∧ (k ≤ 9 → V = (X : Int) ∧ X < 2 ^ (7 * k)) ∧ rdNum l = rdF (10 - k) k X (l.drop k)) (fun _ i => 10 - (intOf i).toNat)
  case atStart => exact ⟨0, 0, 0, by omega, by omega, rfl, rfl, fun _ => ⟨rfl, by decide⟩, rfl⟩
  case round =>
    obtain ⟨k, X, V, hk, hkl, rfl, rfl, hV, hd⟩ := hrel
    have HV := Lib.hid hV
    have HD := Lib.hid hd
    clear hV hd
    by_cases hlt : k < 10
    · by_cases hlen : k < l.length
      · obtain ⟨b, off, x, rfl, hb, hx, hc⟩ := HA.out k hlen
        have hx8 : x.toNat < 256 := x.toNat_lt
        have HX := Lib.hid (show l.drop k = x :: l.drop (k + 1) by
          rw [List.drop_eq_getElem_cons hlen]
          rw [List.getElem?_eq_getElem hlen] at hx
          injection hx with hx
          rw [hx])
        clear hx
        have h127 := and127_64 x
        obtain ⟨rfl, hX⟩ := HV.out (by omega)
        clear HV
        have HXl := Lib.hid hX
        clear hX
        by_cases h9 : k = 9 ∧ 1 < x.toNat
        · obtain ⟨h9, h1⟩ := h9
          have e9 : ((k : Int) == 9) = true := by simp; omega
          have HR := Lib.hid (show rdNum l = (0, 0, 12) by rw [HD.out, HX.out, h9, rd_nine X x _ h1])
          clear HD HX h9
          go_wp2_with fail
          go_ret3
          exact ⟨ret3 HR.out rfl, rfl⟩
        · by_cases h128 : x.toNat < 128
          · cases hbad : bad x k
            · have hv : Hid (bits .or .u64 (X : Int) (IntKind.u64.wrap ((x.toNat : Int) % 128 * 2 ^ (7 * k))) = ((X + x.toNat * 2 ^ (7 * k) : Nat) : Int)) := by
                unfold bad at hbad
                have h := of_decide_eq_false hbad
                have h2 := or_shl_byte X k x HXl.out (by omega) (by omega)
                rw [show x.toNat % 128 = x.toNat from by omega] at h2
                exact h2
              have HR := Lib.hid (show rdNum l = (X + x.toNat * 2 ^ (7 * k), k + 1, 0) by rw [HD.out, HX.out, rd_last k X x _ hlt h128 hbad])
              have hz : ¬ (0 < k ∧ x.toNat = 0) := by
                unfold bad at hbad
                have h := of_decide_eq_false hbad
                omega
              clear hbad HD HX
              by_cases e9 : k = 9
              · have b9 : ((k : Int) == 9) = true := by simp; omega
                have d1 : decide ((1 : Int) < (x.toNat : Int)) = false := by simp; omega
                have b0 : ((x.toNat : Int) == 0) = false := by simp; omega
                have HK := Lib.hid e9
                clear e9 h9 hz
                go_wp2_with fail
                go_ret3
                exact ⟨ret3 HR.out hv.out, rfl⟩
              · have b9 : ((k : Int) == 9) = false := by simp; omega
                by_cases x0 : x.toNat = 0
                · have b0 : ((x.toNat : Int) == 0) = true := by simp; omega
                  have dk : decide ((0 : Int) < (k : Int)) = false := by simp; omega
                  have dk2 : decide (0 < k) = false := by simp; omega
                  have hk0 : ¬ 0 < k := by omega
                  clear e9 h9 hz x0
                  go_wp2_with fail
                  go_ret3
                  exact ⟨ret3 HR.out hv.out, rfl⟩
                · have b0 : ((x.toNat : Int) == 0) = false := by simp; omega
                  clear e9 h9 hz x0
                  go_wp2_with fail
                  go_ret3
                  exact ⟨ret3 HR.out hv.out, rfl⟩
            · have HR := Lib.hid (show rdNum l = (0, 0, 12) by rw [HD.out, HX.out, rd_bad k X x _ hlt h128 hbad])
              have hz : 0 < k ∧ x.toNat = 0 := by
                unfold bad at hbad
                have h := of_decide_eq_true hbad
                omega
              obtain ⟨k0, x0⟩ := hz
              have b0 : ((x.toNat : Int) == 0) = true := by simp; omega
              have dk : decide ((0 : Int) < (k : Int)) = true := by simp; omega
              have dk2 : decide (0 < k) = true := by simp; omega
              have d1 : decide ((1 : Int) < (x.toNat : Int)) = false := by simp; omega
              clear hbad HD HX x0 h9
              by_cases e9 : k = 9
              · have b9 : ((k : Int) == 9) = true := by simp; omega
                clear e9
                go_wp2_with fail
                go_ret3
                exact ⟨ret3 HR.out rfl, rfl⟩
              · have b9 : ((k : Int) == 9) = false := by simp; omega
                clear e9
                go_wp2_with fail
                go_ret3
                exact ⟨ret3 HR.out rfl, rfl⟩
          · have HR := Lib.hid (show rdNum l = rdF (10 - (k + 1)) (k + 1) (X + (x.toNat - 128) * 2 ^ (7 * k)) (l.drop (k + 1)) by rw [HD.out, HX.out, rd_more k X x _ hlt h128])
            have hv : Hid (k + 1 ≤ 9 → bits .or .u64 (X : Int) (IntKind.u64.wrap ((x.toNat : Int) % 128 * 2 ^ (7 * k))) = ((X + (x.toNat - 128) * 2 ^ (7 * k) : Nat) : Int) ∧ X + (x.toNat - 128) * 2 ^ (7 * k) < 2 ^ (7 * (k + 1))) := by
              intro h9
              have h2 := or_shl_byte X k x HXl.out (by omega) (by omega)
              rw [show x.toNat % 128 = x.toNat - 128 from by omega] at h2
              refine ⟨h2, ?_⟩
              rw [pow_step]
              have h3 : (x.toNat - 128) * 2 ^ (7 * k) ≤ 127 * 2 ^ (7 * k) := Nat.mul_le_mul_right _ (by omega)
              have h4 := HXl.out
              omega
            have b9 : ((k : Int) == 9) = false := by simp; omega
            clear HD HX h9
            go_wp2_with fail
            exact ⟨⟨k + 1, _, _, by omega, by omega, by go_num, rfl, hv.out, HR.out⟩, by simp [intOf]; omega⟩
      · obtain rfl : k = l.length := by omega
        have HR := Lib.hid (show rdNum l = (0, 0, 11) by rw [HD.out, List.drop_length, rd_short _ X hlt])
        clear HD
        go_wp2_with fail
        go_ret3
        exact ⟨ret3 HR.out rfl, rfl⟩
    · obtain rfl : k = 10 := by omega
      have HR := Lib.hid (show rdNum l = (0, 0, 12) by rw [HD.out]; rfl)
      clear HD HV
      go_wp2_with fail
      go_ret3
      exact ⟨ret3 HR.out rfl, rfl⟩
end Go.Proofs.YtjhafhfneedmjaaDoor
