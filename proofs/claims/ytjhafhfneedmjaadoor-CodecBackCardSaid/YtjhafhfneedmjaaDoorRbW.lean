/-
  The walks over codec.ReadBytes and glacierref1.ReadBytes.
-/
import Derived.Test.YtjhafhfneedmjaaDoorReadW
namespace Go.Proofs.YtjhafhfneedmjaaDoor
open Go.RowKit

theorem ret3b {v : Value} {N E : Int} {r : List UInt8 × Nat × Nat} {p : List UInt8} {n e : Nat} (h : r = (p, n, e)) (hN : N = (n : Int)) (hE : E = (e : Int)) :
    Ending.returned (.tuple #[v, .int .i64 N, .int .i64 E]) = .returned (.tuple #[v, .int .i64 (r.2.1 : Int), .int .i64 (r.2.2 : Int)]) := by rw [h, hN, hE]

set_option maxRecDepth 100000 in
set_option maxHeartbeats 1000000 in
theorem readBytes_any (v : Value) (l : List UInt8) (most : Int) (M B : Nat) (w : World) (h : Rd w B v l) (hB : B ≤ w.heap.size) (hm1 : -9223372036854775808 ≤ most) (hm2 : most ≤ 9223372036854775807) (hM : M = most.toNat) :
    Calls Tryd.prog 18 #[v, .int .i64 most] w fun e w' =>
      ∃ v', e = .returned (.tuple #[v', .int .i64 ((rdBytes l M).2.1 : Int), .int .i64 ((rdBytes l M).2.2 : Int)]) ∧ Rd w' w'.heap.size v' (rdBytes l M).1 ∧ Below w.heap.size w w' := by
  have HR := Lib.hid h
  obtain ⟨p, cap, rfl, hlc, hl47, hcm, hat⟩ := h.form
  clear h hat
  go_enter Tryd.func18, Tryd.ntmps18
  rcases Int.lt_trichotomy most 0 with hs | hs | hs
  · obtain rfl : M = 0 := by omega
    clear hM
    go_wp2_with fail
    refine (readLength_any _ l 0 0 B w HR.out (by omega) (by omega)).mono ?_
    rintro e w1 ⟨rfl, rfl⟩
    rcases rdLen_form l 0 0 with ⟨n, k, hr, hnum, hv, hl, h1, h2⟩ | ⟨e, hr, he⟩
    · rw [hr]
      have HE := Lib.hid (rdBytes_ok l 0 n k hr)
      obtain ⟨p2, cap2, hcut, hsl⟩ := cut_run (n := k) (m := n) HR.out (by omega)
      have HC := Lib.hid hcut
      clear hr hnum hcut
      go_wp2_with fail
      refine (clone_any _ _ B w HC.out hB).mono ?_
      rintro e w2 ⟨v2, rfl, hrd2, _, hb2⟩
      go_wp2_with fail
      go_ret3
      exact ⟨_, ret3b HE.out (by omega) rfl, by rw [HE.out]; exact hrd2, hb2⟩
    · rw [hr]
      have HE := Lib.hid (rdBytes_err l 0 e hr (by omega))
      have e0 : ((e : Int) != 0) = true := by rw [bne_iff_ne]; omega
      clear hr he
      go_wp2_with fail
      go_ret3
      exact ⟨_, ret3b HE.out rfl rfl, by rw [HE.out]; exact Rd.none_ _ _, Below.refl _ _⟩
  · obtain rfl : M = 0 := by omega
    subst hs
    clear hM
    go_wp2_with fail
    refine (readLength_any _ l 0 0 B w HR.out (by omega) (by omega)).mono ?_
    rintro e w1 ⟨rfl, rfl⟩
    rcases rdLen_form l 0 0 with ⟨n, k, hr, hnum, hv, hl, h1, h2⟩ | ⟨e, hr, he⟩
    · rw [hr]
      have HE := Lib.hid (rdBytes_ok l 0 n k hr)
      obtain ⟨p2, cap2, hcut, hsl⟩ := cut_run (n := k) (m := n) HR.out (by omega)
      have HC := Lib.hid hcut
      clear hr hnum hcut
      go_wp2_with fail
      refine (clone_any _ _ B w HC.out hB).mono ?_
      rintro e w2 ⟨v2, rfl, hrd2, _, hb2⟩
      go_wp2_with fail
      go_ret3
      exact ⟨_, ret3b HE.out (by omega) rfl, by rw [HE.out]; exact hrd2, hb2⟩
    · rw [hr]
      have HE := Lib.hid (rdBytes_err l 0 e hr (by omega))
      have e0 : ((e : Int) != 0) = true := by rw [bne_iff_ne]; omega
      clear hr he
      go_wp2_with fail
      go_ret3
      exact ⟨_, ret3b HE.out rfl rfl, by rw [HE.out]; exact Rd.none_ _ _, Below.refl _ _⟩
  · obtain rfl : most = (M : Int) := by omega
    clear hM
    go_wp2_with fail
    refine (readLength_any _ l M 0 B w HR.out (by omega) (by omega)).mono ?_
    rintro e w1 ⟨rfl, rfl⟩
    rcases rdLen_form l M 0 with ⟨n, k, hr, hnum, hv, hl, h1, h2⟩ | ⟨e, hr, he⟩
    · rw [hr]
      have HE := Lib.hid (rdBytes_ok l M n k hr)
      obtain ⟨p2, cap2, hcut, hsl⟩ := cut_run (n := k) (m := n) HR.out (by omega)
      have HC := Lib.hid hcut
      clear hr hnum hcut
      go_wp2_with fail
      refine (clone_any _ _ B w HC.out hB).mono ?_
      rintro e w2 ⟨v2, rfl, hrd2, _, hb2⟩
      go_wp2_with fail
      go_ret3
      exact ⟨_, ret3b HE.out (by omega) rfl, by rw [HE.out]; exact hrd2, hb2⟩
    · rw [hr]
      have HE := Lib.hid (rdBytes_err l M e hr (by omega))
      have e0 : ((e : Int) != 0) = true := by rw [bne_iff_ne]; omega
      clear hr he
      go_wp2_with fail
      go_ret3
      exact ⟨_, ret3b HE.out rfl rfl, by rw [HE.out]; exact Rd.none_ _ _, Below.refl _ _⟩

set_option maxRecDepth 100000 in
set_option maxHeartbeats 1000000 in
theorem refReadBytes_any (v : Value) (l : List UInt8) (most : Int) (M B : Nat) (w : World) (h : Rd w B v l) (hm1 : -9223372036854775808 ≤ most) (hm2 : most ≤ 9223372036854775807) (hM : M = most.toNat) :
    Calls Tryd.prog 19 #[v, .int .i64 most] w fun e w' =>
      ∃ v', e = .returned (.tuple #[v', .int .i64 ((rdBytes l M).2.1 : Int), .int .i64 ((rdBytes l M).2.2 : Int)]) ∧ Rd w B v' (rdBytes l M).1 ∧ w = w' := by
  have HR := Lib.hid h
  obtain ⟨p, cap, rfl, hlc, hl47, hcm, hat⟩ := h.form
  clear h hat
  go_enter Tryd.func19, Tryd.ntmps19
  go_wp2_with fail
  refine (refReadNumber_any _ l B w HR.out).mono ?_
  rintro e w1 ⟨rfl, rfl⟩
  rcases Int.lt_or_le most 0 with hs | hs
  · obtain rfl : M = 0 := by omega
    clear hM
    rcases rdNum_form l with ⟨n, k, hr, h1, h2, h3, h4⟩ | hr | hr
    · rw [hr]
      have HN := Lib.hid h4
      by_cases hv : 0 < n
      · have HE := Lib.hid (rdBytes_err l 0 3 (rdLen_long l 0 0 n k hr hv) (by decide))
        clear hr h4
        have d1 : decide ((0 : Int) < (n : Int)) = true := by simp; omega
        go_wp2_with fail
        go_ret3
        exact ⟨_, ret3b HE.out rfl rfl, by rw [HE.out]; exact Rd.none_ _ _, rfl⟩
      · have d1 : decide ((0 : Int) < (n : Int)) = false := by simp; omega
        by_cases hl : n + k + 0 ≤ l.length
        · have HE := Lib.hid (rdBytes_ok l 0 n k (rdLen_ok l 0 0 n k hr hv hl))
          obtain ⟨p2, cap2, hcut, hsl⟩ := cut_run (n := k) (m := n) HR.out (by omega)
          have HC := Lib.hid hcut
          clear hr h4 hcut
          have d2 : decide ((l.length : Int) - (k : Int) < (n : Int)) = false := by simp; omega
          go_wp2_with fail
          go_ret3
          exact ⟨_, ret3b HE.out (by omega) rfl, by rw [HE.out]; exact HC.out, rfl⟩
        · have HE := Lib.hid (rdBytes_err l 0 11 (rdLen_short l 0 0 n k hr hv hl) (by decide))
          clear hr h4
          have d2 : decide ((l.length : Int) - (k : Int) < (n : Int)) = true := by simp; omega
          go_wp2_with fail
          go_ret3
          exact ⟨_, ret3b HE.out rfl rfl, by rw [HE.out]; exact Rd.none_ _ _, rfl⟩
    · rw [hr]
      have HE := Lib.hid (rdBytes_err l 0 11 (rdLen_err l 0 0 11 hr (by decide)) (by decide))
      clear hr
      go_wp2_with fail
      go_ret3
      exact ⟨_, ret3b HE.out rfl rfl, by rw [HE.out]; exact Rd.none_ _ _, rfl⟩
    · rw [hr]
      have HE := Lib.hid (rdBytes_err l 0 12 (rdLen_err l 0 0 12 hr (by decide)) (by decide))
      clear hr
      go_wp2_with fail
      go_ret3
      exact ⟨_, ret3b HE.out rfl rfl, by rw [HE.out]; exact Rd.none_ _ _, rfl⟩
  · obtain rfl : most = (M : Int) := by omega
    clear hM
    rcases rdNum_form l with ⟨n, k, hr, h1, h2, h3, h4⟩ | hr | hr
    · rw [hr]
      have HN := Lib.hid h4
      by_cases hv : M < n
      · have HE := Lib.hid (rdBytes_err l M 3 (rdLen_long l M 0 n k hr hv) (by decide))
        clear hr h4
        have d1 : decide ((M : Int) < (n : Int)) = true := by simp; omega
        go_wp2_with fail
        go_ret3
        exact ⟨_, ret3b HE.out rfl rfl, by rw [HE.out]; exact Rd.none_ _ _, rfl⟩
      · have d1 : decide ((M : Int) < (n : Int)) = false := by simp; omega
        by_cases hl : n + k + 0 ≤ l.length
        · have HE := Lib.hid (rdBytes_ok l M n k (rdLen_ok l M 0 n k hr hv hl))
          obtain ⟨p2, cap2, hcut, hsl⟩ := cut_run (n := k) (m := n) HR.out (by omega)
          have HC := Lib.hid hcut
          clear hr h4 hcut
          have d2 : decide ((l.length : Int) - (k : Int) < (n : Int)) = false := by simp; omega
          go_wp2_with fail
          go_ret3
          exact ⟨_, ret3b HE.out (by omega) rfl, by rw [HE.out]; exact HC.out, rfl⟩
        · have HE := Lib.hid (rdBytes_err l M 11 (rdLen_short l M 0 n k hr hv hl) (by decide))
          clear hr h4
          have d2 : decide ((l.length : Int) - (k : Int) < (n : Int)) = true := by simp; omega
          go_wp2_with fail
          go_ret3
          exact ⟨_, ret3b HE.out rfl rfl, by rw [HE.out]; exact Rd.none_ _ _, rfl⟩
    · rw [hr]
      have HE := Lib.hid (rdBytes_err l M 11 (rdLen_err l M 0 11 hr (by decide)) (by decide))
      clear hr
      go_wp2_with fail
      go_ret3
      exact ⟨_, ret3b HE.out rfl rfl, by rw [HE.out]; exact Rd.none_ _ _, rfl⟩
    · rw [hr]
      have HE := Lib.hid (rdBytes_err l M 12 (rdLen_err l M 0 12 hr (by decide)) (by decide))
      clear hr
      go_wp2_with fail
      go_ret3
      exact ⟨_, ret3b HE.out rfl rfl, by rw [HE.out]; exact Rd.none_ _ _, rfl⟩
end Go.Proofs.YtjhafhfneedmjaaDoor
