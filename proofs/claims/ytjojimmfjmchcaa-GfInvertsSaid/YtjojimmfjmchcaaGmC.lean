/-
  The walk over gf.Cauchy.
-/
import Derived.Test.YtjojimmfjmchcaaGmB
namespace Go.Proofs.Ytjojimmfjmchcaa
open Go.RowKit

/-- The first i rows of a matrix, and j elements of row i. -/
def partF (f : MtF) (i j : Nat) : MtF := fun a b => if a < i ∨ (a = i ∧ b < j) then f a b else 0#8
theorem partF_zero (f : MtF) : partF f 0 0 = zerF := by
  funext a b
  unfold partF zerF
  rw [if_neg (by omega)]
theorem partF_set (r c i j : Nat) (f : MtF) (x : UInt8) (hx : x.toBitVec = f i j) : (tabM r c (partF f i j)).set i ((rowM c (partF f i j i)).set j x) = tabM r c (partF f i (j + 1)) := by
  rw [rowM_set, tabM_set, hx]
  refine tabM_congr fun a ha b hb => ?_
  unfold upR
  by_cases h : a = i
  · subst h
    rw [if_pos rfl]
    unfold upF partF
    by_cases h2 : b = j
    · subst h2
      rw [if_pos rfl, if_pos (by omega)]
    · rw [if_neg h2]
      by_cases h3 : b < j
      · rw [if_pos (by omega), if_pos (by omega)]
      · rw [if_neg (by omega), if_neg (by omega)]
  · rw [if_neg h]
    unfold partF
    by_cases h3 : a < i ∨ (a = i ∧ b < j)
    · rw [if_pos h3, if_pos (by omega)]
    · rw [if_neg h3, if_neg (by omega)]
theorem partF_next (r c i : Nat) (f : MtF) : tabM r c (partF f i c) = tabM r c (partF f (i + 1) 0) := tabM_congr fun a ha b hb => by
  unfold partF
  by_cases h : a < i ∨ (a = i ∧ b < c)
  · rw [if_pos h, if_pos (by omega)]
  · rw [if_neg h, if_neg (by omega)]
theorem partF_all (r c : Nat) (f : MtF) : tabM r c (partF f r 0) = tabM r c f := tabM_congr fun a ha b hb => by
  unfold partF
  rw [if_pos (by omega)]
/-- Whether both together are few enough. -/
def cauB (r c : Int) : Bool := decide (1 ≤ r) && (decide (1 ≤ c) && decide (r + c ≤ 256))
theorem cau_no (w : World) (r c : Int) (hr : -9223372036854775808 ≤ r ∧ r ≤ 9223372036854775807) (hc : -9223372036854775808 ≤ c ∧ c ≤ 9223372036854775807) (h : cauB r c = false) :
    Calls Try.prog 25 #[.int .i64 r, .int .i64 c] w fun e w' => e = .returned (.tuple #[.slice none 0 0, .int .i64 1]) ∧ w = w' := by
  unfold cauB at h
  go_enter Try.func25, Try.ntmps25
  by_cases h1 : r < 1
  · have d1 : decide (r < 1) = true := decide_eq_true h1
    clear h
    go_wp2_with fail
    refine Go.bodyPost_ret (Go.results_tmp2 rfl _ _ _) rfl ?_
    exact ⟨rfl, rfl⟩
  · have d1 : decide (r < 1) = false := decide_eq_false h1
    by_cases h2 : c < 1
    · have d2 : decide (c < 1) = true := decide_eq_true h2
      clear h
      go_wp2_with fail
      refine Go.bodyPost_ret (Go.results_tmp2 rfl _ _ _) rfl ?_
      exact ⟨rfl, rfl⟩
    · have d2 : decide (c < 1) = false := decide_eq_false h2
      have h3 : 256 - c < r := by
        rw [decide_eq_true (show 1 ≤ r by omega), decide_eq_true (show 1 ≤ c by omega), Bool.true_and, Bool.true_and] at h
        have := of_decide_eq_false h
        omega
      have d3 : decide (256 - c < r) = true := decide_eq_true h3
      clear h
      go_wp2_with fail
      refine Go.bodyPost_ret (Go.results_tmp2 rfl _ _ _) rfl ?_
      exact ⟨rfl, rfl⟩

set_option maxRecDepth 100000 in
set_option maxHeartbeats 1000000 in
theorem cau_any (w : World) (r c : Nat) (h1 : 1 ≤ r) (h2 : 1 ≤ c) (h3 : r + c ≤ 256) :
    Calls Try.prog 25 #[.int .i64 (r : Int), .int .i64 (c : Int)] w fun e w' => ∃ us, e = .returned (.tuple #[.slice (some ⟨w.heap.size, 0, none⟩) r r, .int .i64 0]) ∧ OwL w' (fun k => w.heap.size ≤ k) (.slice (some ⟨w.heap.size, 0, none⟩) r r) us (tabM r c (cauF c)) ∧ Below w.heap.size w w' := by
  have HZ := Lib.hid (zeros_any w r c (by omega) (by omega))
  have d1 : decide ((r : Int) < 1) = false := decide_eq_false (by omega)
  have d2 : decide ((c : Int) < 1) = false := decide_eq_false (by omega)
  have d3 : decide ((256 : Int) - (c : Int) < (r : Int)) = false := decide_eq_false (by omega)
  go_enter Try.func25, Try.ntmps25
  go_wp2_with fail
  refine HZ.out.mono ?_
  rintro e w1 ⟨us, rfl, ho1, hb1⟩
  have HO1 := Lib.hid ho1
  have HB1 := Lib.hid hb1
  clear ho1 hb1 d1 d2 d3
  go_wp2_with fail
  go_loopw [27] (fun i wr => ∃ k : Nat, k ≤ r ∧ i = .int .i64 (k : Int) ∧ OwL wr (fun k => w.heap.size ≤ k) (.slice (some ⟨w.heap.size, 0, none⟩) r r) us (tabM r c (partF (cauF c) k 0)) ∧ Below w.heap.size w wr) (fun i _ => r - (intOf i).toNat)
  case atStart => exact ⟨0, by omega, rfl, by rw [partF_zero]; exact HO1.out, HB1.out⟩
  case round =>
    obtain ⟨k, hk, rfl, ho, hb⟩ := hrel
    have HO := Lib.hid ho
    have HB := Lib.hid hb
    by_cases hlt : k < r
    · have e1 : decide ((k : Int) < (r : Int)) = true := decide_eq_true (by omega)
      have e2 : decide (k < r) = true := decide_eq_true hlt
      obtain ⟨mb, cap, u, hv, _, _, _, _, hu, k1, f1, hou⟩ := ho.at_ (tabM_at hlt c _)
      obtain ⟨rfl, h9, rfl⟩ : w.heap.size = mb ∧ r = _ ∧ r = cap := by simpa using hv
      clear h9
      obtain ⟨g, cp, rfl, hc1, hc2, hg⟩ := own_form hou (by rw [rowM_len]; omega)
      rw [rowM_len] at k1 hc1 hu
      have HU := Lib.hid hu
      clear ho hb hv hu hou
      go_wp2_with fail
      go_loopw [34] (fun i wi => ∃ j : Nat, j ≤ c ∧ i = .int .i64 (j : Int) ∧ OwL wi (fun k => w.heap.size ≤ k) (.slice (some ⟨w.heap.size, 0, none⟩) r r) us (tabM r c (partF (cauF c) k j)) ∧ Below w.heap.size w wi) (fun i _ => c - (intOf i).toNat)
      case atStart => exact ⟨0, by omega, rfl, HO.out, HB.out⟩
      case round =>
        obtain ⟨j, hj, rfl, ho, hb⟩ := hrel
        have HO := Lib.hid ho
        have HB := Lib.hid hb
        by_cases hjl : j < c
        · have e3 : decide ((j : Int) < (c : Int)) = true := decide_eq_true (by omega)
          have e4 : decide (j < c) = true := decide_eq_true hjl
          obtain ⟨k2, f2⟩ := own_cell (ho.own k _ _ HU.out (tabM_at hlt c _)) (i := j) (by rw [rowM_len]; exact hjl)
          have ha1 : (bvG (c + k)).toNat = c + k := by
            show (c + k) % 2 ^ 8 = c + k
            omega
          have ha2 : (bvG j).toNat = j := by
            show j % 2 ^ 8 = j
            omega
          have HA : Hid (∀ W : World, Calls Try.prog 18 #[.int .u8 ((c : Int) + (k : Int)), .int .u8 (j : Int)] W fun e w' => e = .returned (.int .u8 ((bvG (c + k) ^^^ bvG j).toNat : Int)) ∧ W = w') := Lib.hid (fun W => by
            have h := add_any W (bvG (c + k)) (bvG j)
            rw [ha1, ha2] at h
            exact h)
          have HD : Hid (∀ W : World, Calls Try.prog 12 #[.int .u8 1, .int .u8 ((bvG (c + k) ^^^ bvG j).toNat : Int)] W fun e w' => e = .returned (.tuple #[.int .u8 ((cauF c k j).toNat : Int), .int .i64 0]) ∧ W = w') := Lib.hid (fun W => by
            have h := div_any W 1#8 (bvG (c + k) ^^^ bvG j)
            rw [divR_ne _ (bv_ne (by omega) hjl), one_mul] at h
            exact h)
          generalize bvG (c + k) ^^^ bvG j = a at *
          have HP := Lib.hid (partF_set r c k j (cauF c) (UInt8.ofBitVec (cauF c k j)) rfl)
          clear ha1 ha2
          generalize hcv : cauF c k j = x at *
          clear hcv ho hb
          go_wp2_with fail
          refine (HA.out _).mono ?_
          rintro e w' ⟨rfl, rfl⟩
          go_wp2_with fail
          refine (HD.out _).mono ?_
          rintro e w' ⟨rfl, rfl⟩
          go_wp2_with fail
          refine ⟨⟨j + 1, by omega, by go_num, ?_, ?_⟩, by simp [intOf]; omega⟩
          · have h5 := HO.out.put (j := j) HU.out (tabM_at hlt c _) (UInt8.ofBitVec x)
            rw [HP.out] at h5
            exact h5
          · exact HB.out.trans ((Fr.setCell (fun b => b = g) wr (p := ⟨g, j, none⟩) rfl _).below HB.out.size fun b hb e => by
              have := HO.out.blks k _ g HU.out rfl
              omega)
        · obtain rfl : j = c := by omega
          clear ho hb
          go_wp2_with fail
          refine ⟨⟨k + 1, by omega, by go_num, ?_, HB.out⟩, by simp [intOf]; omega⟩
          rw [← partF_next]
          exact HO.out
    · obtain rfl : k = r := by omega
      clear ho hb
      go_wp2_with fail
      refine Go.bodyPost_ret (Go.results_tmp2 rfl _ _ _) rfl ?_
      exact ⟨us, rfl, by rw [← partF_all]; exact HO.out, HB.out⟩
end Go.Proofs.Ytjojimmfjmchcaa
