/-
  The walks over gf.within, gf.zeros, gf.Unit, gf.Cauchy: a matrix of noughts, of the unit, Cauchy's.
-/
import Derived.Test.YtjojimmfjmchcaaGmA
import Derived.Test.YtjojimmfjmchcaaGaC
namespace Go.Proofs.Ytjojimmfjmchcaa
open Go.RowKit

def inB (n : Int) : Bool := decide (1 ≤ n) && decide (n ≤ 255)
theorem within_any (w : World) (n : Int) : Calls Try.prog 41 #[.int .i64 n] w fun e w' => e = .returned (.bool (inB n)) ∧ w = w' := by
  unfold inB
  go_enter Try.func41, Try.ntmps41
  by_cases h1 : 1 ≤ n
  · have d1 : decide (1 ≤ n) = true := decide_eq_true h1
    rw [d1, Bool.true_and]
    go_wp2
    go_ret
    exact ⟨rfl, rfl⟩
  · have d1 : decide (1 ≤ n) = false := decide_eq_false h1
    rw [d1, Bool.false_and]
    go_wp2
    go_ret
    exact ⟨rfl, rfl⟩

set_option maxRecDepth 100000 in
set_option maxHeartbeats 1000000 in
theorem zeros_any (w : World) (r c : Nat) (hr : r ≤ 1048576) (hc : c ≤ 1048576) :
    Calls Try.prog 42 #[.int .i64 (r : Int), .int .i64 (c : Int)] w fun e w' => ∃ us, e = .returned (.slice (some ⟨w.heap.size, 0, none⟩) r r) ∧ OwL w' (fun k => w.heap.size ≤ k) (.slice (some ⟨w.heap.size, 0, none⟩) r r) us (tabM r c zerF) ∧ Below w.heap.size w w' := by
  have hmk := mk_gf r (by omega)
  have hmb := mk_bytes c (by omega)
  go_enter Try.func42, Try.ntmps42
  obtain ⟨Z, hZ⟩ : ∃ Z, (bs (zeroR c)).toArray = Z := ⟨_, rfl⟩
  have HZ : Hid (∀ W : World, Own (W.alloc (.cells Z 5)) W.heap.size (.slice (some ⟨W.heap.size, 0, none⟩) c c) (zeroR c)) := Lib.hid (fun W => by rw [← hZ]; exact own_made W c (by omega))
  rw [hZ] at hmb
  clear hZ
  obtain ⟨X, hX⟩ : ∃ X, w.alloc (.cells (Array.replicate r (.slice none 0 0)) 48) = X := ⟨_, rfl⟩
  have HX : Hid (OwL X (fun k => w.heap.size ≤ k) (.slice (some ⟨w.heap.size, 0, none⟩) r r) (List.replicate r (.slice none 0 0)) (List.replicate r [])) := Lib.hid (by rw [← hX]; exact OwL.made w r (by omega) _ (Nat.le_refl _))
  have HXb : Hid (Below w.heap.size w X) := Lib.hid (by rw [← hX]; exact bel_alloc _ _)
  go_wp2_with fail
  go_loopw [11] (fun i wr => ∃ (k : Nat) (us : List Value), k ≤ r ∧ i = .int .i64 (k : Int) ∧ OwL wr (fun k => w.heap.size ≤ k) (.slice (some ⟨w.heap.size, 0, none⟩) r r) us (frontM r c zerF k) ∧ Below w.heap.size w wr) (fun i _ => r - (intOf i).toNat)
  case atStart => exact ⟨0, _, by omega, rfl, by rw [frontM_zero]; exact HX.out, HXb.out⟩
  case round =>
    obtain ⟨k, us, hk, rfl, ho, hb⟩ := hrel
    have HO := Lib.hid ho
    have HB := Lib.hid hb
    clear hX
    by_cases hlt : k < r
    · have d1 : decide ((k : Int) < (r : Int)) = true := decide_eq_true (by omega)
      have d2 : decide (k < r) = true := decide_eq_true hlt
      obtain ⟨Y, hY⟩ : ∃ Y, wr.alloc (.cells Z 5) = Y := ⟨_, rfl⟩
      have hYb : Below wr.heap.size wr Y := by rw [← hY]; exact bel_alloc _ _
      obtain ⟨mb, cap, u, hv, _, _, _, _, hu, k1, f1, _⟩ := (ho.below hYb).at_ (frontM_at c zerF hlt)
      obtain ⟨rfl, h9, rfl⟩ : w.heap.size = mb ∧ r = _ ∧ r = cap := by simpa using hv
      clear h9
      have HYo : Hid (Own Y wr.heap.size (.slice (some ⟨wr.heap.size, 0, none⟩) c c) (zeroR c)) := Lib.hid (by rw [← hY]; exact HZ.out wr)
      have HYb := Lib.hid hYb
      clear ho hb hYb hv hu
      go_wp2_with fail
      have h5 := (HO.out.below HYb.out).seat (k := k) rfl (by rw [frontM_len c zerF hk]; exact hlt) (row_zero HYo.out) (fun b hb => by
        obtain rfl : wr.heap.size = b := by simpa [Value.ownBlock] using hb
        exact HB.out.size) (fun i u' b _ hu' hb e => by
        obtain rfl : wr.heap.size = b := by simpa [Value.ownBlock] using hb
        exact Nat.lt_irrefl _ (HO.out.lt hu' e))
      rw [show zeroR c = rowM c (zerF k) from rfl, frontM_set c zerF hlt] at h5
      refine ⟨⟨k + 1, _, by omega, by go_num, h5, ?_⟩, by simp [intOf]; omega⟩
      exact (HB.out.trans (HYb.out.mono HB.out.size)).trans ((Fr.setCell (fun b => b = w.heap.size) Y (p := ⟨w.heap.size, k, none⟩) rfl _).below (Nat.le_trans HB.out.size HYb.out.size) fun b hb e => by omega)
    · obtain rfl : k = r := by omega
      go_wp2_with fail
      go_ret
      exact ⟨_, rfl, by have h := HO.out; rw [frontM_all] at h; exact h, HB.out⟩

theorem unit_no (w : World) (n : Int) (h : inB n = false) : Calls Try.prog 22 #[.int .i64 n] w fun e w' => e = .returned (.tuple #[.slice none 0 0, .int .i64 1]) ∧ w = w' := by
  have HW := Lib.hid (within_any w n)
  rw [h] at HW
  go_enter Try.func22, Try.ntmps22
  go_wp2_with fail
  refine HW.out.mono ?_
  rintro e w' ⟨rfl, rfl⟩
  go_wp2_with fail
  refine Go.bodyPost_ret (Go.results_tmp2 rfl _ _ _) rfl ?_
  exact ⟨rfl, rfl⟩
/-- Unit's first k ones. -/
def oneF (k : Nat) : MtF := fun i j => if i = j ∧ i < k then 1#8 else 0#8
theorem oneF_zero : oneF 0 = zerF := by
  funext i j
  unfold oneF zerF
  rw [if_neg (by omega)]
theorem oneF_all {n : Nat} : tabM n n (oneF n) = tabM n n unitF := tabM_congr fun i hi j hj => by
  unfold oneF unitF
  by_cases h : i = j
  · rw [if_pos ⟨h, hi⟩, if_pos h]
  · rw [if_neg (fun e => h e.1), if_neg h]
theorem oneF_set (r c k : Nat) : (tabM r c (oneF k)).set k ((rowM c (oneF k k)).set k 1) = tabM r c (oneF (k + 1)) := by
  rw [rowM_set, tabM_set]
  refine tabM_congr fun i hi j hj => ?_
  unfold upR
  by_cases h : i = k
  · subst h
    rw [if_pos rfl]
    unfold upF oneF
    by_cases h2 : j = i
    · subst h2
      rw [if_pos rfl, if_pos (by omega)]
      rfl
    · rw [if_neg h2, if_neg (by omega), if_neg (by omega)]
  · rw [if_neg h]
    unfold oneF
    by_cases h3 : i = j ∧ i < k
    · rw [if_pos h3, if_pos (by omega)]
    · rw [if_neg h3, if_neg (by omega)]

set_option maxRecDepth 100000 in
set_option maxHeartbeats 1000000 in
theorem unit_any (w : World) (n : Nat) (h1 : 1 ≤ n) (h2 : n ≤ 255) :
    Calls Try.prog 22 #[.int .i64 (n : Int)] w fun e w' => ∃ us, e = .returned (.tuple #[.slice (some ⟨w.heap.size, 0, none⟩) n n, .int .i64 0]) ∧ OwL w' (fun k => w.heap.size ≤ k) (.slice (some ⟨w.heap.size, 0, none⟩) n n) us (tabM n n unitF) ∧ Below w.heap.size w w' := by
  have HW := Lib.hid (within_any w (n : Int))
  have HZ := Lib.hid (zeros_any w n n (by omega) (by omega))
  rw [show inB (n : Int) = true by unfold inB; simp; omega] at HW
  go_enter Try.func22, Try.ntmps22
  go_wp2_with fail
  refine HW.out.mono ?_
  rintro e w' ⟨rfl, rfl⟩
  go_wp2_with fail
  refine HZ.out.mono ?_
  rintro e w1 ⟨us, rfl, ho1, hb1⟩
  have HO1 := Lib.hid ho1
  have HB1 := Lib.hid hb1
  clear ho1 hb1
  go_wp2_with fail
  go_loopw [14] (fun i wr => ∃ k : Nat, k ≤ n ∧ i = .int .i64 (k : Int) ∧ OwL wr (fun k => w.heap.size ≤ k) (.slice (some ⟨w.heap.size, 0, none⟩) n n) us (tabM n n (oneF k)) ∧ Below w.heap.size w wr) (fun i _ => n - (intOf i).toNat)
  case atStart => exact ⟨0, by omega, rfl, by rw [oneF_zero]; exact HO1.out, HB1.out⟩
  case round =>
    obtain ⟨k, hk, rfl, ho, hb⟩ := hrel
    have HO := Lib.hid ho
    have HB := Lib.hid hb
    by_cases hlt : k < n
    · have d1 : decide ((k : Int) < (n : Int)) = true := decide_eq_true (by omega)
      have d2 : decide (k < n) = true := decide_eq_true hlt
      obtain ⟨mb, cap, u, hv, _, _, _, _, hu, k1, f1, hou⟩ := ho.at_ (tabM_at hlt n (oneF k))
      obtain ⟨rfl, h9, rfl⟩ : w.heap.size = mb ∧ n = _ ∧ n = cap := by simpa using hv
      clear h9
      obtain ⟨g, cp, rfl, hc1, hc2, hg⟩ := own_form hou (by rw [rowM_len]; omega)
      obtain ⟨k2, f2⟩ := own_cell hou (i := k) (by rw [rowM_len]; exact hlt)
      rw [rowM_len] at k1 hc1
      have HU := Lib.hid hu
      clear ho hb hv hu hou
      go_wp2_with fail
      refine ⟨⟨k + 1, by omega, by go_num, ?_, ?_⟩, by simp [intOf]; omega⟩
      · have h5 := HO.out.put (j := k) HU.out (tabM_at hlt n (oneF k)) 1
        rw [oneF_set] at h5
        exact h5
      · exact HB.out.trans ((Fr.setCell (fun b => b = g) wr (p := ⟨g, k, none⟩) rfl _).below HB.out.size fun b hb e => by
          have := HO.out.blks k _ g HU.out rfl
          omega)
    · obtain rfl : k = n := by omega
      clear ho hb
      go_wp2_with fail
      refine Go.bodyPost_ret (Go.results_tmp2 rfl _ _ _) rfl ?_
      exact ⟨us, rfl, by rw [← oneF_all]; exact HO.out, HB.out⟩
end Go.Proofs.Ytjojimmfjmchcaa
