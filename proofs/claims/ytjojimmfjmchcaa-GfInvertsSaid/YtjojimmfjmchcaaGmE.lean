/-
  The walks over the reference's Unit and Cauchy.
-/
import Derived.Test.YtjojimmfjmchcaaGmD
import Derived.Test.YtjojimmfjmchcaaRqT
namespace Go.Proofs.Ytjojimmfjmchcaa
open Go.RowKit

theorem q_turn {P : Program} {f : FuncId} {args : Array Value} {w : World} {x : Ending} (h : Calls P f args w fun e w' => e = x ∧ w = w') : Calls P f args w fun e w' => e = x ∧ w' = w :=
  h.mono fun _ _ ⟨he, hm⟩ => ⟨he, hm.symm⟩
theorem runit_no (w : World) (n : Int) (h : inB n = false) : Calls Try.prog 23 #[.int .i64 n] w fun e w' => e = .returned (.tuple #[.slice none 0 0, .int .i64 1]) ∧ w = w' := by
  unfold inB at h
  go_enter Try.func23, Try.ntmps23
  by_cases h1 : n < 1
  · have d1 : decide (n < 1) = true := decide_eq_true h1
    clear h
    go_wp2_with fail
    refine Go.bodyPost_ret (Go.results_tmp2 rfl _ _ _) rfl ?_
    exact ⟨rfl, rfl⟩
  · have d1 : decide (n < 1) = false := decide_eq_false h1
    have h3 : 255 < n := by
      rw [decide_eq_true (show 1 ≤ n by omega), Bool.true_and] at h
      have := of_decide_eq_false h
      omega
    have d3 : decide (255 < n) = true := decide_eq_true h3
    clear h
    go_wp2_with fail
    refine Go.bodyPost_ret (Go.results_tmp2 rfl _ _ _) rfl ?_
    exact ⟨rfl, rfl⟩
set_option maxRecDepth 100000 in
set_option maxHeartbeats 1000000 in
theorem runit_any (w : World) (n : Nat) (h1 : 1 ≤ n) (h2 : n ≤ 255) :
    Calls Try.prog 23 #[.int .i64 (n : Int)] w fun e w' => ∃ v us, e = .returned (.tuple #[v, .int .i64 0]) ∧ OwL w' (fun k => w.heap.size ≤ k) v us (tabM n n unitF) ∧ Below w.heap.size w w' := by
  have HZ := Lib.hid (blank_any w n n (by omega) (by omega))
  have d1 : decide ((n : Int) < 1) = false := decide_eq_false (by omega)
  have d2 : decide ((255 : Int) < (n : Int)) = false := decide_eq_false (by omega)
  go_enter Try.func23, Try.ntmps23
  go_wp2_with fail
  refine HZ.out.mono ?_
  rintro e w1 ⟨v, us, rfl, ho1, hb1⟩
  obtain ⟨mb, cap, u0, rfl, hcap, hcap2, _, hG, _, _, _, _⟩ := ho1.at_ (tabM_at (show 0 < n by omega) n zerF)
  rw [tabM_len] at ho1 hcap
  have HO1 := Lib.hid ho1
  have HB1 := Lib.hid hb1
  rw [tabM_len]
  clear ho1 hb1 d1 d2
  go_wp2_with fail
  go_loopw [5] (fun i wr => ∃ k : Nat, k ≤ n ∧ i = .int .i64 (k : Int) ∧ OwL wr (fun k => w.heap.size ≤ k) (.slice (some ⟨mb, 0, none⟩) n cap) us (tabM n n (oneF k)) ∧ Below w.heap.size w wr) (fun i _ => n - (intOf i).toNat)
  case atStart => exact ⟨0, by omega, rfl, by rw [oneF_zero]; exact HO1.out, HB1.out⟩
  case round =>
    obtain ⟨k, hk, rfl, ho, hb⟩ := hrel
    have HO := Lib.hid ho
    have HB := Lib.hid hb
    by_cases hlt : k < n
    · have d1 : decide ((k : Int) < (n : Int)) = true := decide_eq_true (by omega)
      have d2 : decide (k < n) = true := decide_eq_true hlt
      obtain ⟨mb', cap', u, hv, _, _, _, _, hu, k1, f1, hou⟩ := ho.at_ (tabM_at hlt n (oneF k))
      obtain ⟨rfl, h9, rfl⟩ : mb = mb' ∧ n = _ ∧ cap = cap' := by simpa using hv
      clear h9
      obtain ⟨g, cp, rfl, hc1, hc2, hg⟩ := own_form hou (by rw [rowM_len]; omega)
      obtain ⟨k2, f2⟩ := own_cell hou (i := k) (by rw [rowM_len]; exact hlt)
      rw [rowM_len] at k1 hc1
      have HU := Lib.hid hu
      clear ho hb hv hu hou
      go_wp2_with fail
      refine ⟨⟨k + 1, by omega, by go_num, ?_, ?_⟩, by simp [intOf]; omega⟩
      · have h5 := HO.out.put (j := k) HU.out (tabM_at hlt n (oneF k)) 1
        rw [oneF_set] at h5
        exact h5
      · exact HB.out.trans ((Fr.setCell (fun b => b = g) wr (p := ⟨g, k, none⟩) rfl _).below HB.out.size fun b hb e => by
          have := HO.out.blks k _ g HU.out rfl
          omega)
    · obtain rfl : k = n := by omega
      clear ho hb
      go_wp2_with fail
      refine Go.bodyPost_ret (Go.results_tmp2 rfl _ _ _) rfl ?_
      exact ⟨_, us, rfl, by rw [← oneF_all]; exact HO.out, HB.out⟩

theorem rcau_no (w : World) (r c : Int) (hr : -9223372036854775808 ≤ r ∧ r ≤ 9223372036854775807) (hc : -9223372036854775808 ≤ c ∧ c ≤ 9223372036854775807) (h : cauB r c = false) :
    Calls Try.prog 26 #[.int .i64 r, .int .i64 c] w fun e w' => e = .returned (.tuple #[.slice none 0 0, .int .i64 1]) ∧ w = w' := by
  unfold cauB at h
  go_enter Try.func26, Try.ntmps26
  by_cases h1 : r < 1
  · have d1 : decide (r < 1) = true := decide_eq_true h1
    clear h
    go_wp2_with fail
    refine Go.bodyPost_ret (Go.results_tmp2 rfl _ _ _) rfl ?_
    exact ⟨rfl, rfl⟩
  · have d1 : decide (r < 1) = false := decide_eq_false h1
    by_cases h2 : c < 1
    · have d2 : decide (c < 1) = true := decide_eq_true h2
      clear h
      go_wp2_with fail
      refine Go.bodyPost_ret (Go.results_tmp2 rfl _ _ _) rfl ?_
      exact ⟨rfl, rfl⟩
    · have d2 : decide (c < 1) = false := decide_eq_false h2
      by_cases h3 : 256 < r
      · have d3 : decide (256 < r) = true := decide_eq_true h3
        clear h
        go_wp2_with fail
        refine Go.bodyPost_ret (Go.results_tmp2 rfl _ _ _) rfl ?_
        exact ⟨rfl, rfl⟩
      · have d3 : decide (256 < r) = false := decide_eq_false h3
        have h4 : 256 - r < c := by
          rw [decide_eq_true (show 1 ≤ r by omega), decide_eq_true (show 1 ≤ c by omega), Bool.true_and, Bool.true_and] at h
          have := of_decide_eq_false h
          omega
        have d4 : decide (256 - r < c) = true := decide_eq_true h4
        clear h
        go_wp2_with fail
        refine Go.bodyPost_ret (Go.results_tmp2 rfl _ _ _) rfl ?_
        exact ⟨rfl, rfl⟩

set_option maxRecDepth 100000 in
set_option maxHeartbeats 1000000 in
theorem rcau_any (w : World) (r c : Nat) (h1 : 1 ≤ r) (h2 : 1 ≤ c) (h3 : r + c ≤ 256) :
    Calls Try.prog 26 #[.int .i64 (r : Int), .int .i64 (c : Int)] w fun e w' => ∃ v us, e = .returned (.tuple #[v, .int .i64 0]) ∧ OwL w' (fun k => w.heap.size ≤ k) v us (tabM r c (cauF c)) ∧ Below w.heap.size w w' := by
  have HZ := Lib.hid (blank_any w r c (by omega) (by omega))
  have d1 : decide ((r : Int) < 1) = false := decide_eq_false (by omega)
  have d2 : decide ((c : Int) < 1) = false := decide_eq_false (by omega)
  have d3 : decide ((256 : Int) < (r : Int)) = false := decide_eq_false (by omega)
  have d4 : decide ((256 : Int) - (r : Int) < (c : Int)) = false := decide_eq_false (by omega)
  go_enter Try.func26, Try.ntmps26
  go_wp2_with fail
  refine HZ.out.mono ?_
  rintro e w1 ⟨v, us, rfl, ho1, hb1⟩
  obtain ⟨mb, cap, u0, rfl, hcap, hcap2, _, hG, _, _, _, _⟩ := ho1.at_ (tabM_at (show 0 < r by omega) c zerF)
  rw [tabM_len] at ho1 hcap
  have HO1 := Lib.hid ho1
  have HB1 := Lib.hid hb1
  rw [tabM_len]
  clear ho1 hb1 d1 d2 d3 d4
  go_wp2_with fail
  go_loopw [7, 8] (fun i z wr => ∃ k : Nat, k ≤ r ∧ i = .int .i64 (k : Int) ∧ OwL wr (fun k => w.heap.size ≤ k) (.slice (some ⟨mb, 0, none⟩) r cap) us (tabM r c (partF (cauF c) k 0)) ∧ Below w.heap.size w wr) (fun i _ _ => r - (intOf i).toNat)
  case atStart => exact ⟨0, by omega, rfl, by rw [partF_zero]; exact HO1.out, HB1.out⟩
  case round =>
    obtain ⟨k, hk, rfl, ho, hb⟩ := hrel
    have HO := Lib.hid ho
    have HB := Lib.hid hb
    by_cases hlt : k < r
    · have e1 : decide ((k : Int) < (r : Int)) = true := decide_eq_true (by omega)
      have e2 : decide (k < r) = true := decide_eq_true hlt
      clear ho hb
      go_wp2_with fail
      go_loopw [8] (fun i wi => ∃ j : Nat, j ≤ c ∧ i = .int .i64 (j : Int) ∧ OwL wi (fun k => w.heap.size ≤ k) (.slice (some ⟨mb, 0, none⟩) r cap) us (tabM r c (partF (cauF c) k j)) ∧ Below w.heap.size w wi) (fun i _ => c - (intOf i).toNat)
      case atStart => exact ⟨0, by omega, rfl, HO.out, HB.out⟩
      case round =>
        obtain ⟨j, hj, rfl, ho, hb⟩ := hrel
        have HO := Lib.hid ho
        have HB := Lib.hid hb
        by_cases hjl : j < c
        · have e3 : decide ((j : Int) < (c : Int)) = true := decide_eq_true (by omega)
          have e4 : decide (j < c) = true := decide_eq_true hjl
          obtain ⟨mb', cap', u, hv, _, _, _, _, hu, k1, f1, hou⟩ := ho.at_ (tabM_at hlt c _)
          obtain ⟨rfl, h9, rfl⟩ : mb = mb' ∧ r = _ ∧ cap = cap' := by simpa using hv
          clear h9
          obtain ⟨g, cp, rfl, hc1, hc2, hg⟩ := own_form hou (by rw [rowM_len]; omega)
          obtain ⟨k2, f2⟩ := own_cell hou (i := j) (by rw [rowM_len]; exact hjl)
          rw [rowM_len] at k1 hc1 hu
          have HU := Lib.hid hu
          have ha1 : (bvG (c + k)).toNat = c + k := by
            show (c + k) % 2 ^ 8 = c + k
            omega
          have ha2 : (bvG j).toNat = j := by
            show j % 2 ^ 8 = j
            omega
          have hx : bits .xor .u8 ((c : Int) + (k : Int)) (j : Int) = ((bvG (c + k) ^^^ bvG j).toNat : Int) := by
            rw [← bxor, ha1, ha2]
            rfl
          have HI : Hid (∀ W : World, Calls Try.prog 38 #[.int .u8 ((bvG (c + k) ^^^ bvG j).toNat : Int)] W fun e w' => e = .returned (.int .u8 ((cauF c k j).toNat : Int)) ∧ W = w') := Lib.hid (fun W => rinv_any W _)
          have HP := Lib.hid (partF_set r c k j (cauF c) (UInt8.ofBitVec (cauF c k j)) rfl)
          generalize bvG (c + k) ^^^ bvG j = a at *
          clear ha1 ha2
          generalize hcv : cauF c k j = x at *
          clear hcv ho hb hv hu hou
          go_wp2_with fail
          have HI2 : Hid (Calls Try.prog 38 #[.int .u8 (a.toNat : Int)] wr.drew fun e w' => e = .returned (.int .u8 (x.toNat : Int)) ∧ w' = wr.drew) := Lib.hid (q_turn (HI.out _))
          refine wp_region_quiet_tail 14 (by kernel_rfl) (by kernel_rfl) ?_
          simp only [List.take_succ_cons, List.take_zero, List.drop_succ_cons, List.drop_zero]
          repeat (go_big_quiet_step (exact HI2.out _))
          refine wpQuiet_nil ?_
          go_wp2_with fail
          refine ⟨⟨j + 1, by omega, by go_num, ?_, ?_⟩, by simp [intOf]; omega⟩
          · have h5 := (HO.out.below (below_drew (Below.refl _ _))).put (j := j) HU.out (tabM_at hlt c _) (UInt8.ofBitVec x)
            rw [HP.out] at h5
            exact h5
          · exact HB.out.trans ((below_drew (Below.refl _ _)).trans ((Fr.setCell (fun b => b = g) wr.drew (p := ⟨g, j, none⟩) rfl _).below HB.out.size fun b hb e => by
              have := HO.out.blks k _ g HU.out rfl
              omega))
        · obtain rfl : j = c := by omega
          clear ho hb
          go_wp2_with fail
          refine ⟨⟨k + 1, by omega, by go_num, ?_, HB.out⟩, by simp [intOf]; omega⟩
          rw [← partF_next]
          exact HO.out
    · obtain rfl : k = r := by omega
      clear ho hb
      go_wp2_with fail
      refine Go.bodyPost_ret (Go.results_tmp2 rfl _ _ _) rfl ?_
      exact ⟨_, us, rfl, by rw [← partF_all]; exact HO.out, HB.out⟩
end Go.Proofs.Ytjojimmfjmchcaa
