/-
  The walk over the reference's Times.
-/
import Derived.Test.YtjojimmfjmchcaaGnG
namespace Go.Proofs.Ytjojimmfjmchcaa
open Go.RowKit

/-- The product's first i rows, of the next one j elements, of the next one k summands. -/
def tpF (n : Nat) (A B : MtF) (i j k : Nat) : MtF := fun a b => if a < i ∨ (a = i ∧ b < j) then prodF n A B a b else if a = i ∧ b = j then dotN k (A i) (fun q => B q j) else 0#8
theorem tpF_zero (n : Nat) (A B : MtF) : tpF n A B 0 0 0 = zerF := by
  funext a b
  unfold tpF zerF
  rw [if_neg (by omega)]
  split
  · rfl
  · rfl
theorem tpF_at (n : Nat) (A B : MtF) (i j k : Nat) : tpF n A B i j k i j = dotN k (A i) (fun q => B q j) := by
  unfold tpF
  rw [if_neg (by omega), if_pos ⟨rfl, rfl⟩]
theorem tpF_set (r c n : Nat) (A B : MtF) (i j k : Nat) (z : UInt8) (hz : z.toBitVec = dotN k (A i) (fun q => B q j) ^^^ mulG (A i k) (B k j)) :
    (tabM r c (tpF n A B i j k)).set i ((rowM c (tpF n A B i j k i)).set j z) = tabM r c (tpF n A B i j (k + 1)) := by
  rw [rowM_set, tabM_set, hz]
  refine tabM_congr fun a ha b hb => ?_
  unfold upR
  by_cases h : a = i
  · subst h
    rw [if_pos rfl]
    unfold upF tpF
    by_cases h2 : b = j
    · subst h2
      rw [if_pos rfl, if_neg (by omega), if_pos ⟨rfl, rfl⟩, dotN_succ]
    · rw [if_neg h2]
      by_cases h3 : b < j
      · rw [if_pos (by omega), if_pos (by omega)]
      · rw [if_neg (by omega), if_neg (by omega), if_neg (by omega), if_neg (by omega)]
  · rw [if_neg h]
    unfold tpF
    by_cases h3 : a < i
    · rw [if_pos (by omega), if_pos (by omega)]
    · rw [if_neg (by omega), if_neg (by omega), if_neg (by omega), if_neg (by omega)]
theorem tpF_col (r c n : Nat) (A B : MtF) (i j : Nat) : tabM r c (tpF n A B i j n) = tabM r c (tpF n A B i (j + 1) 0) := tabM_congr fun a ha b hb => by
  unfold tpF
  by_cases h : a < i ∨ (a = i ∧ b < j)
  · rw [if_pos h, if_pos (by omega)]
  · rw [if_neg h]
    by_cases h2 : a = i ∧ b = j
    · rw [if_pos h2, if_pos (by omega), h2.1, h2.2]
      rfl
    · rw [if_neg h2, if_neg (by omega)]
      split
      · rfl
      · rfl
theorem tpF_row (r c n : Nat) (A B : MtF) (i : Nat) : tabM r c (tpF n A B i c 0) = tabM r c (tpF n A B (i + 1) 0 0) := tabM_congr fun a ha b hb => by
  unfold tpF
  by_cases h : a < i ∨ (a = i ∧ b < c)
  · rw [if_pos h, if_pos (by omega)]
  · rw [if_neg h, if_neg (by omega), if_neg (by omega)]
    split
    · rfl
    · rfl
theorem tpF_all (r c n : Nat) (A B : MtF) : tabM r c (tpF n A B r 0 0) = tabM r c (prodF n A B) := tabM_congr fun a ha b hb => by
  unfold tpF
  rw [if_pos (by omega)]

set_option maxRecDepth 100000 in
set_option maxHeartbeats 4000000 in
theorem rtimes_m (w : World) (F F' : Nat → Prop) (v u : Value) (A B : List (List UInt8)) (ha : Mx w F v A) (hb : Mx w F' u B) :
    Calls Try.prog 30 #[v, u] w fun e w' => ∃ x us, e = .returned (.tuple #[x, .int .i64 (timesR A B).2]) ∧ OwL w' (fun k => w.heap.size ≤ k) x us (timesR A B).1 ∧ Below w.heap.size w w' := by
  have HR1 := Lib.hid (rright_any w F v A ha)
  have HA := Lib.hid ha
  have HB := Lib.hid hb
  obtain ⟨pa, ca, rfl, hla, _, hca, _⟩ := ha.form
  obtain ⟨pb, cb, rfl, hlb, _, hcb, _⟩ := hb.form
  clear ha hb
  go_enter Try.func30, Try.ntmps30
  go_wp2_with fail
  refine HR1.out.mono ?_
  rintro e w0 ⟨rfl, n0, hw0⟩
  have HB0 : Hid (Below w.heap.size w w0) := Lib.hid (by rw [hw0]; exact below_drewN (Below.refl _ _) n0)
  have HSz0 : Hid (w0.heap.size = w.heap.size) := Lib.hid (by rw [hw0]; rfl)
  clear hw0
  cases qa : rightL A
  · have HN := Lib.hid (timesR_no (A := A) (B := B) (by rw [qa]; simp))
    clear qa
    go_wp2_with fail
    refine Go.bodyPost_ret (Go.results_tmp2 rfl _ _ _) rfl ?_
    rw [HN.out]
    exact ⟨_, [], rfl, OwL.nil _ _, HB0.out⟩
  · have ga := right_iff.1 qa
    have HR2 := Lib.hid (rright_any w0 F' _ B (HB.out.below HB0.out))
    go_wp2_with fail
    refine HR2.out.mono ?_
    rintro e w1 ⟨rfl, n1, hw1⟩
    have hbw1 : Below w.heap.size w w1 := by rw [hw1]; exact below_drewN HB0.out n1
    have HBw1 := Lib.hid hbw1
    have HSz : Hid (w1.heap.size = w.heap.size) := Lib.hid (by rw [hw1]; exact HSz0.out)
    have ha1 := HA.out.below hbw1
    have hb1 := HB.out.below hbw1
    have HA1 := Lib.hid ha1
    have HB1 := Lib.hid hb1
    clear hw1
    cases qb : rightL B
    · have HN := Lib.hid (timesR_no (A := A) (B := B) (by rw [qb]; simp))
      clear ha1 hb1 qa qb ga hbw1
      go_wp2_with fail
      refine Go.bodyPost_ret (Go.results_tmp2 rfl _ _ _) rfl ?_
      rw [HN.out]
      exact ⟨_, [], rfl, OwL.nil _ _, HBw1.out⟩
    · have gb := right_iff.1 qb
      obtain ⟨b0, o0, q0, c0, rfl, k0⟩ := first_at ha1 (by omega)
      obtain ⟨b2, o2, q2, c2, rfl, k02⟩ := first_at hb1 (by omega)
      have hcp : (0 : Int) < (A.length : Int) := by omega
      have hcp2 : (0 : Int) < (B.length : Int) := by omega
      have hb0l : b0 < w1.heap.size := block_lt_of_cell k0
      have hb2l : b2 < w1.heap.size := block_lt_of_cell k02
      by_cases hq : colsL A = B.length
      · have z1 : ((colsL A : Int) == (B.length : Int)) = true := by rw [hq]; simp
        have z2 : (colsL A == B.length) = true := by rw [hq]; simp
        have HN := Lib.hid (timesR_yes ⟨qa, qb, hq⟩)
        have HZ := Lib.hid (blank_any w1 A.length (colsL B) (by omega) (by omega))
        have HQ := Lib.hid hq
        have HTa := Lib.hid (right_tab qa)
        have HTb := Lib.hid (right_tab qb)
        obtain ⟨hc1, hc2⟩ := ga.2.1
        obtain ⟨hc3, hc4⟩ := gb.2.1
        have ga1 := ga.1
        have gb1 := gb.1
        have HK02 := Lib.hid k02
        clear ha1 hb1 qa qb ga gb hq hbw1
        go_wp2_with fail
        refine HZ.out.mono ?_
        rintro e w2 ⟨v2, us, rfl, ho2, hb2⟩
        obtain ⟨mb, cap, u0, rfl, hcap, hcap2, _, hG, _, _, _, _⟩ := ho2.at_ (tabM_at (show 0 < A.length by omega) (colsL B) zerF)
        rw [tabM_len] at ho2 hcap
        have HO2 := Lib.hid ho2
        have HB2 := Lib.hid hb2
        rw [tabM_len]
        have hk02 := (below_cells hb2 b2 _ hb2l).trans k02
        clear ho2 hb2 k0 k02 z1 z2
        go_wp2_with fail
        clear hk02
        go_loopw [7, 8, 9] (fun i z1 z2 wr => ∃ k : Nat, k ≤ A.length ∧ i = .int .i64 (k : Int) ∧ OwL wr (fun k => w1.heap.size ≤ k) (.slice (some ⟨mb, 0, none⟩) A.length cap) us (tabM A.length (colsL B) (tpF B.length (ofL A) (ofL B) k 0 0)) ∧ Below w1.heap.size w1 wr) (fun i _ _ _ => A.length - (intOf i).toNat)
        case atStart => exact ⟨0, by omega, rfl, by rw [tpF_zero]; exact HO2.out, HB2.out⟩
        case round =>
          obtain ⟨k, hk, rfl, ho, hb⟩ := hrel
          have HO := Lib.hid ho
          have HBw := Lib.hid hb
          by_cases hlt : k < A.length
          · have d1 : decide ((k : Int) < (A.length : Int)) = true := decide_eq_true (by omega)
            have d2 : decide (k < A.length) = true := decide_eq_true hlt
            clear ho hb
            go_wp2_with fail
            go_loopw [8, 9] (fun i z wi => ∃ j : Nat, j ≤ colsL B ∧ i = .int .i64 (j : Int) ∧ OwL wi (fun k => w1.heap.size ≤ k) (.slice (some ⟨mb, 0, none⟩) A.length cap) us (tabM A.length (colsL B) (tpF B.length (ofL A) (ofL B) k j 0)) ∧ Below w1.heap.size w1 wi) (fun i _ _ => colsL B - (intOf i).toNat)
            case atStart => exact ⟨0, by omega, rfl, HO.out, HBw.out⟩
            case round =>
              obtain ⟨j, hj, rfl, ho, hb⟩ := hrel
              have HO := Lib.hid ho
              have HBw := Lib.hid hb
              have hk02 := (below_cells hb b2 _ hb2l).trans HK02.out
              by_cases hjl : j < colsL B
              · have e3 : decide ((j : Int) < (colsL B : Int)) = true := decide_eq_true (by omega)
                have e4 : decide (j < colsL B) = true := decide_eq_true hjl
                clear ho hb
                go_wp2_with fail
                clear hk02
                go_loopw [9] (fun i wi => ∃ q : Nat, q ≤ B.length ∧ i = .int .i64 (q : Int) ∧ OwL wi (fun k => w1.heap.size ≤ k) (.slice (some ⟨mb, 0, none⟩) A.length cap) us (tabM A.length (colsL B) (tpF B.length (ofL A) (ofL B) k j q)) ∧ Below w1.heap.size w1 wi) (fun i _ => B.length - (intOf i).toNat)
                case atStart => exact ⟨0, by omega, rfl, HO.out, HBw.out⟩
                case round =>
                  obtain ⟨q, hq, rfl, ho, hb⟩ := hrel
                  have HO := Lib.hid ho
                  have HBw := Lib.hid hb
                  by_cases hql : q < B.length
                  · have f1 : decide ((q : Int) < (B.length : Int)) = true := decide_eq_true (by omega)
                    have f2 : decide (q < B.length) = true := decide_eq_true hql
                    have hAk : A[k]? = some (rowM B.length (ofL A k)) := by
                      have h := tabM_at hlt (colsL A) (ofL A)
                      rw [← HTa.out, HQ.out] at h
                      exact h
                    have hBq : B[q]? = some (rowM (colsL B) (ofL B q)) := by
                      have h := tabM_at hql (colsL B) (ofL B)
                      rw [← HTb.out] at h
                      exact h
                    obtain ⟨b1, o1, q1, c1, hp1, hbl, _, k1, r1⟩ := HA1.out.at_ hAk
                    obtain ⟨rfl, rfl⟩ : b0 = b1 ∧ o0 = o1 := by simpa using hp1
                    rw [rowM_len] at k1
                    have k2 := (below_cells hb b0 _ hbl).trans k1
                    obtain ⟨bf, of, rfl, hbf, _, hcf, hcells⟩ := r1.all (by rw [rowM_len]; omega)
                    rw [rowM_len] at hcf hcells
                    have g1 : wr.cell? ⟨bf, of + q, none⟩ = some (.int .u8 ((ofL A k q).toNat : Int)) := by
                      have h := (below_cells hb bf _ hbf).trans (hcells q hql)
                      rw [rowM_nat hql] at h
                      exact h
                    obtain ⟨b3, o3, q3, c3, hp3, hbl3, _, k3, r3⟩ := HB1.out.at_ hBq
                    obtain ⟨rfl, rfl⟩ : b2 = b3 ∧ o2 = o3 := by simpa using hp3
                    rw [rowM_len] at k3
                    have k4 := (below_cells hb b2 _ hbl3).trans k3
                    obtain ⟨bh, oh, rfl, hbh, _, hch, hcells3⟩ := r3.all (by rw [rowM_len]; omega)
                    rw [rowM_len] at hch hcells3
                    have g2 : wr.cell? ⟨bh, oh + j, none⟩ = some (.int .u8 ((ofL B q j).toNat : Int)) := by
                      have h := (below_cells hb bh _ hbh).trans (hcells3 j hjl)
                      rw [rowM_nat hjl] at h
                      exact h
                    obtain ⟨mb', cap', u, hv, _, _, _, _, hu, k5, f5, hou⟩ := ho.at_ (tabM_at hlt (colsL B) _)
                    obtain ⟨rfl, h9, rfl⟩ : mb = mb' ∧ A.length = _ ∧ cap = cap' := by simpa using hv
                    clear h9
                    obtain ⟨g, cp, rfl, hg1, hg2, hg⟩ := own_form hou (by rw [rowM_len]; omega)
                    obtain ⟨g3, f3⟩ := own_cell hou (i := j) (by rw [rowM_len]; exact hjl)
                    rw [rowM_nat hjl, tpF_at] at g3
                    rw [rowM_len] at k5 hg1 hu
                    have HU := Lib.hid hu
                    have HP := Lib.hid (tpF_set A.length (colsL B) B.length (ofL A) (ofL B) k j q (UInt8.ofBitVec (dotN q (ofL A k) (fun q => ofL B q j) ^^^ mulG (ofL A k q) (ofL B q j))) rfl)
                    have HM2 : Hid (Calls Try.prog 20 #[.int .u8 ((ofL A k q).toNat : Int), .int .u8 ((ofL B q j).toNat : Int)] wr.drew fun e w' => e = .returned (.int .u8 ((mulG (ofL A k q) (ofL B q j)).toNat : Int)) ∧ w' = wr.drew) := Lib.hid (q_turn (rmul_any _ _ _))
                    have hx2 := bxor (dotN q (ofL A k) (fun q => ofL B q j)) (mulG (ofL A k q) (ofL B q j))
                    generalize dotN q (ofL A k) (fun q => ofL B q j) ^^^ mulG (ofL A k q) (ofL B q j) = z at *
                    generalize mulG (ofL A k q) (ofL B q j) = y at *
                    generalize dotN q (ofL A k) (fun q => ofL B q j) = x at *
                    generalize ofL A k q = s at *
                    generalize ofL B q j = t at *
                    clear ho hb hAk hBq hp1 k1 r1 hcells hp3 k3 r3 hcells3 hu hou hv
                    go_wp2_with fail
                    refine wp_region_quiet_tail 29 (by kernel_rfl) (by kernel_rfl) ?_
                    simp only [List.take_succ_cons, List.take_zero, List.drop_succ_cons, List.drop_zero]
                    repeat (go_big_quiet_step (exact HM2.out _))
                    refine wpQuiet_nil ?_
                    go_wp2_with fail
                    refine ⟨⟨q + 1, by omega, by go_num, ?_, ?_⟩, by simp [intOf]; omega⟩
                    · have h := (HO.out.below (below_drew (Below.refl _ _))).put (j := j) HU.out (tabM_at hlt (colsL B) _) (UInt8.ofBitVec z)
                      rw [HP.out] at h
                      exact h
                    · exact HBw.out.trans ((below_drew (Below.refl _ _)).trans ((Fr.setCell (fun b => b = g) wr.drew (p := ⟨g, j, none⟩) rfl _).below HBw.out.size fun b hb e => by
                        have := HO.out.blks k _ g HU.out rfl
                        omega))
                  · obtain rfl : q = B.length := by omega
                    have f1 : decide ((B.length : Int) < (B.length : Int)) = false := decide_eq_false (by omega)
                    clear ho hb
                    go_wp2_with fail
                    refine ⟨⟨j + 1, by omega, by go_num, ?_, HBw.out⟩, by simp [intOf]; omega⟩
                    rw [← tpF_col]
                    exact HO.out
              · obtain rfl : j = colsL B := by omega
                clear ho hb
                go_wp2_with fail
                refine ⟨⟨k + 1, by omega, by go_num, ?_, HBw.out⟩, by simp [intOf]; omega⟩
                rw [← tpF_row]
                exact HO.out
          · obtain rfl : k = A.length := by omega
            clear ho hb
            go_wp2_with fail
            refine Go.bodyPost_ret (Go.results_tmp2 rfl _ _ _) rfl ?_
            rw [HN.out, ← HSz.out]
            exact ⟨_, us, rfl, by rw [← tpF_all]; exact HO.out, by have h := HBw1.out; rw [← HSz.out] at h; exact h.trans HBw.out⟩
      · have z1 : ((colsL A : Int) == (B.length : Int)) = false := by simp; omega
        have z2 : (colsL A == B.length) = false := by simp; omega
        have HN := Lib.hid (timesR_no (A := A) (B := B) (fun h => hq h.2.2))
        clear ha1 hb1 qa qb ga gb hq hbw1 k02
        go_wp2_with fail
        refine Go.bodyPost_ret (Go.results_tmp2 rfl _ _ _) rfl ?_
        rw [HN.out]
        exact ⟨_, [], rfl, OwL.nil _ _, HBw1.out⟩
end Go.Proofs.Ytjojimmfjmchcaa
