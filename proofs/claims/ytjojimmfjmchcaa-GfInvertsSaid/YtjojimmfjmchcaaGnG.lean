/-
  The walks over the reference's Apply and Times.
-/
import Derived.Test.YtjojimmfjmchcaaGnF
namespace Go.Proofs.Ytjojimmfjmchcaa
open Go.RowKit

set_option maxRecDepth 100000 in
set_option maxHeartbeats 2000000 in
theorem rapply_m (w : World) (F F' : Nat → Prop) (v u : Value) (A : List (List UInt8)) (l : List UInt8) (ha : Mx w F v A) (hb : By w F' u l) :
    Calls Try.prog 32 #[v, u] w fun e w' => ∃ x, e = .returned (.tuple #[x, .int .i64 (applyR A l).2]) ∧ Own w' w.heap.size x (applyR A l).1 ∧ Below w.heap.size w w' := by
  have HR1 := Lib.hid (rright_any w F v A ha)
  have HA := Lib.hid ha
  have HB := Lib.hid hb
  obtain ⟨pa, ca, rfl, hla, _, hca, _⟩ := ha.form
  obtain ⟨pb, cb, rfl, hlb, _, hcb, _⟩ := hb.form
  clear ha hb
  go_enter Try.func32, Try.ntmps32
  go_wp2_with fail
  refine HR1.out.mono ?_
  rintro e w1 ⟨rfl, n1, hw1⟩
  have hbw1 : Below w.heap.size w w1 := by rw [hw1]; exact below_drewN (Below.refl _ _) n1
  have HBw1 := Lib.hid hbw1
  have HSz : Hid (w1.heap.size = w.heap.size) := Lib.hid (by rw [hw1]; rfl)
  have ha1 := HA.out.below hbw1
  have hb1 := HB.out.below hbw1
  have HA1 := Lib.hid ha1
  have HB1 := Lib.hid hb1
  clear hw1
  cases qa : rightL A
  · have HN := Lib.hid (applyR_no (A := A) (l := l) (by rw [qa]; simp))
    clear ha1 hb1 qa hbw1
    go_wp2_with fail
    refine Go.bodyPost_ret (Go.results_tmp2 rfl _ _ _) rfl ?_
    rw [HN.out]
    exact ⟨_, rfl, World.ownsRow_nil _ _ _ _, HBw1.out⟩
  · have ga := right_iff.1 qa
    obtain ⟨b0, o0, q0, c0, rfl, k0⟩ := first_at ha1 (by omega)
    have hcp : (0 : Int) < (A.length : Int) := by omega
    by_cases hq : l.length = colsL A
    · have z1 : ((l.length : Int) == (colsL A : Int)) = true := by rw [hq]; simp
      have z2 : (l.length == colsL A) = true := by rw [hq]; simp
      have HN := Lib.hid (applyR_yes ⟨qa, hq⟩)
      have hmb := mk_bytes A.length (by omega)
      obtain ⟨X, hX⟩ : ∃ X, w1.alloc (.cells (bs (zeroR A.length)).toArray 5) = X := ⟨_, rfl⟩
      have HX : Hid (Own X w1.heap.size (.slice (some ⟨w1.heap.size, 0, none⟩) A.length A.length) (zeroR A.length)) := Lib.hid (by rw [← hX]; exact own_made w1 _ (by omega))
      have HXb : Hid (Below w1.heap.size w1 X) := Lib.hid (by rw [← hX]; exact bel_alloc _ _)
      obtain ⟨Z, hZ⟩ : ∃ Z, (bs (zeroR A.length)).toArray = Z := ⟨_, rfl⟩
      rw [hZ] at hmb hX
      obtain ⟨bu, ou, rfl, hbu, _, _, hcell⟩ := hb1.all (by omega)
      have HCl := Lib.hid hcell
      have HQ := Lib.hid hq
      have HT := Lib.hid (right_tab qa)
      obtain ⟨hc1, hc2⟩ := ga.2.1
      have ga1 := ga.1
      clear hZ ha1 hb1 qa hcell ga hq hbw1
      go_wp2_with fail
      go_loopw [7, 8] (fun i z wr => ∃ k : Nat, k ≤ A.length ∧ i = .int .i64 (k : Int) ∧ Own wr w1.heap.size (.slice (some ⟨w1.heap.size, 0, none⟩) A.length A.length) (rowM A.length (apF (colsL A) (ofL A) (rowF l) k 0)) ∧ Below w1.heap.size w1 wr) (fun i _ _ => A.length - (intOf i).toNat)
      case atStart => exact ⟨0, by omega, rfl, by rw [apF_zero]; exact HX.out, HXb.out⟩
      case round =>
        obtain ⟨k, hk, rfl, ho, hb⟩ := hrel
        have HO := Lib.hid ho
        have HBw := Lib.hid hb
        clear hX
        by_cases hlt : k < A.length
        · have d1 : decide ((k : Int) < (A.length : Int)) = true := decide_eq_true (by omega)
          have d2 : decide (k < A.length) = true := decide_eq_true hlt
          clear ho hb
          go_wp2_with fail
          go_loopw [8] (fun i wi => ∃ j : Nat, j ≤ colsL A ∧ i = .int .i64 (j : Int) ∧ Own wi w1.heap.size (.slice (some ⟨w1.heap.size, 0, none⟩) A.length A.length) (rowM A.length (apF (colsL A) (ofL A) (rowF l) k j)) ∧ Below w1.heap.size w1 wi) (fun i _ => colsL A - (intOf i).toNat)
          case atStart => exact ⟨0, by omega, rfl, HO.out, HBw.out⟩
          case round =>
            obtain ⟨j, hj, rfl, ho, hb⟩ := hrel
            have HO := Lib.hid ho
            have HBw := Lib.hid hb
            by_cases hjl : j < colsL A
            · have hAk : A[k]? = some (rowM (colsL A) (ofL A k)) := by
                have h := tabM_at hlt (colsL A) (ofL A)
                rw [← HT.out] at h
                exact h
              obtain ⟨b1, o1, q1, c1, hp1, hbl, _, k1, r1⟩ := HA1.out.at_ hAk
              obtain ⟨rfl, rfl⟩ : b0 = b1 ∧ o0 = o1 := by simpa using hp1
              rw [rowM_len] at k1
              have k2 := (below_cells hb b0 _ hbl).trans k1
              obtain ⟨bf, of, rfl, hbf, _, hcf, hcells⟩ := r1.all (by rw [rowM_len]; omega)
              rw [rowM_len] at hcf hcells
              have g1 : wr.cell? ⟨bf, of + j, none⟩ = some (.int .u8 ((ofL A k j).toNat : Int)) := by
                have h := (below_cells hb bf _ hbf).trans (hcells j hjl)
                rw [rowM_nat hjl] at h
                exact h
              have g2 : wr.cell? ⟨bu, ou + j, none⟩ = some (.int .u8 ((rowF l j).toNat : Int)) := (below_cells hb bu _ hbu).trans (HCl.out j (by have := HQ.out; omega))
              obtain ⟨g3, f3⟩ := own_cell ho (i := k) (by rw [rowM_len]; exact hlt)
              rw [rowM_nat hlt, apF_at] at g3
              have hjl2 : ((j : Int) < (l.length : Int)) := by have := HQ.out; omega
              have e3 : decide ((j : Int) < (l.length : Int)) = true := decide_eq_true hjl2
              have hjl3 : decide (j < l.length) = true := decide_eq_true (by have := HQ.out; omega)
              have HP := Lib.hid (apF_set A.length (colsL A) (ofL A) (rowF l) k j (UInt8.ofBitVec (dotN j (ofL A k) (rowF l) ^^^ mulG (ofL A k j) (rowF l j))) rfl)
              have HM2 : Hid (Calls Try.prog 20 #[.int .u8 ((ofL A k j).toNat : Int), .int .u8 ((rowF l j).toNat : Int)] wr.drew fun e w' => e = .returned (.int .u8 ((mulG (ofL A k j) (rowF l j)).toNat : Int)) ∧ w' = wr.drew) := Lib.hid (q_turn (rmul_any _ _ _))
              have hx2 := bxor (dotN j (ofL A k) (rowF l)) (mulG (ofL A k j) (rowF l j))
              generalize dotN j (ofL A k) (rowF l) ^^^ mulG (ofL A k j) (rowF l j) = z at *
              generalize mulG (ofL A k j) (rowF l j) = y at *
              generalize dotN j (ofL A k) (rowF l) = x at *
              generalize ofL A k j = s at *
              generalize rowF l j = t at *
              clear ho hb hAk hp1 k1 r1 hcells k0
              go_wp2_with fail
              refine wp_region_quiet_tail 20 (by kernel_rfl) (by kernel_rfl) ?_
              simp only [List.take_succ_cons, List.take_zero, List.drop_succ_cons, List.drop_zero]
              repeat (go_big_quiet_step (exact HM2.out _))
              refine wpQuiet_nil ?_
              go_wp2_with fail
              refine ⟨⟨j + 1, by omega, by go_num, ?_, ?_⟩, by simp [intOf]; omega⟩
              · have h := own_set (i := k) (HO.out.after (below_drew (Below.refl _ _))) (UInt8.ofBitVec z)
                rw [HP.out] at h
                exact h
              · exact HBw.out.trans ((below_drew (Below.refl _ _)).trans ((Fr.setCell (fun b => b = w1.heap.size) wr.drew (p := ⟨w1.heap.size, k, none⟩) rfl _).below HBw.out.size fun b hb e => by omega))
            · obtain rfl : j = colsL A := by omega
              have e3 : decide ((colsL A : Int) < (l.length : Int)) = false := decide_eq_false (by have := HQ.out; omega)
              have e4 : decide (colsL A < l.length) = false := decide_eq_false (by have := HQ.out; omega)
              clear ho hb
              go_wp2_with fail
              refine ⟨⟨k + 1, by omega, by go_num, ?_, HBw.out⟩, by simp [intOf]; omega⟩
              rw [← apF_next]
              exact HO.out
        · obtain rfl : k = A.length := by omega
          clear ho hb
          go_wp2_with fail
          refine Go.bodyPost_ret (Go.results_tmp2 rfl _ _ _) rfl ?_
          rw [HN.out, ← HSz.out]
          exact ⟨_, rfl, by rw [← apF_all]; exact HO.out, by have h := HBw1.out; rw [← HSz.out] at h; exact h.trans HBw.out⟩
    · have z1 : ((l.length : Int) == (colsL A : Int)) = false := by simp; omega
      have z2 : (l.length == colsL A) = false := by simp; omega
      have HN := Lib.hid (applyR_no (A := A) (l := l) (fun h => hq h.2))
      clear ha1 hb1 qa ga hq hbw1
      go_wp2_with fail
      refine Go.bodyPost_ret (Go.results_tmp2 rfl _ _ _) rfl ?_
      rw [HN.out]
      exact ⟨_, rfl, World.ownsRow_nil _ _ _ _, HBw1.out⟩
end Go.Proofs.Ytjojimmfjmchcaa
