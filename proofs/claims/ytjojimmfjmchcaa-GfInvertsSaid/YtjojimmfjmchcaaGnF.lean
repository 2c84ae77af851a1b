/-
  The walks over gf.Apply and the reference's Apply.
-/
import Derived.Test.YtjojimmfjmchcaaGnE
namespace Go.Proofs.Ytjojimmfjmchcaa
open Go.RowKit

/-- What Apply tells. -/
def applyR (A : List (List UInt8)) (l : List UInt8) : List UInt8 × Int := if rightL A = true ∧ l.length = colsL A then (rowM A.length (fun i => dotN (colsL A) (ofL A i) (rowF l)), 0) else ([], 1)
theorem applyR_no {A : List (List UInt8)} {l : List UInt8} (h : ¬(rightL A = true ∧ l.length = colsL A)) : applyR A l = ([], 1) := if_neg h
theorem applyR_yes {A : List (List UInt8)} {l : List UInt8} (h : rightL A = true ∧ l.length = colsL A) : applyR A l = (rowM A.length (fun i => dotN (colsL A) (ofL A i) (rowF l)), 0) := if_pos h
/-- The first i elements, and of the next one j summands. -/
def apF (c : Nat) (M : MtF) (x : Nat → G8) (i j : Nat) : Nat → G8 := fun k => if k < i then dotN c (M k) x else if k = i then dotN j (M i) x else 0#8
theorem apF_zero (c : Nat) (M : MtF) (x : Nat → G8) : apF c M x 0 0 = fun _ => 0#8 := by
  funext k
  unfold apF
  rw [if_neg (by omega)]
  split
  · rfl
  · rfl
theorem apF_at (c : Nat) (M : MtF) (x : Nat → G8) (i j : Nat) : apF c M x i j i = dotN j (M i) x := by
  unfold apF
  rw [if_neg (by omega), if_pos rfl]
theorem apF_set (r c : Nat) (M : MtF) (x : Nat → G8) (i j : Nat) (z : UInt8) (hz : z.toBitVec = dotN j (M i) x ^^^ mulG (M i j) (x j)) : (rowM r (apF c M x i j)).set i z = rowM r (apF c M x i (j + 1)) := by
  rw [rowM_set, hz]
  refine rowM_congr fun k hk => ?_
  unfold upF apF
  by_cases h : k = i
  · subst h
    rw [if_pos rfl, if_neg (by omega), if_pos rfl, dotN_succ]
  · rw [if_neg h, if_neg h, if_neg h]
theorem apF_next (r c : Nat) (M : MtF) (x : Nat → G8) (i : Nat) : rowM r (apF c M x i c) = rowM r (apF c M x (i + 1) 0) := rowM_congr fun k hk => by
  unfold apF
  by_cases h : k < i
  · rw [if_pos h, if_pos (by omega)]
  · rw [if_neg h]
    by_cases h2 : k = i
    · subst h2
      rw [if_pos rfl, if_pos (by omega)]
    · rw [if_neg h2, if_neg (by omega)]
      split
      · rfl
      · rfl
theorem apF_all (r c : Nat) (M : MtF) (x : Nat → G8) : rowM r (apF c M x r 0) = rowM r (fun i => dotN c (M i) x) := rowM_congr fun k hk => by
  unfold apF
  rw [if_pos hk]

set_option maxRecDepth 100000 in
set_option maxHeartbeats 2000000 in
theorem apply_m (w : World) (F F' : Nat → Prop) (v u : Value) (A : List (List UInt8)) (l : List UInt8) (ha : Mx w F v A) (hb : By w F' u l) :
    Calls Try.prog 31 #[v, u] w fun e w' => ∃ x, e = .returned (.tuple #[x, .int .i64 (applyR A l).2]) ∧ Own w' w.heap.size x (applyR A l).1 ∧ Below w.heap.size w w' := by
  have HA := Lib.hid ha
  have HB := Lib.hid hb
  have HR1 := Lib.hid (right_any w F v A ha)
  obtain ⟨pa, ca, rfl, hla, _, hca, _⟩ := ha.form
  obtain ⟨pb, cb, rfl, hlb, _, hcb, _⟩ := hb.form
  cases qa : rightL A
  · rw [applyR_no (by rw [qa]; simp)]
    rw [qa] at HR1
    clear ha hb qa
    go_enter Try.func31, Try.ntmps31
    go_wp2_with fail
    refine HR1.out.mono ?_
    rintro e w' ⟨rfl, rfl⟩
    go_wp2_with fail
    refine Go.bodyPost_ret (Go.results_tmp2 rfl _ _ _) rfl ?_
    exact ⟨_, rfl, World.ownsRow_nil _ _ _ _, Below.refl _ _⟩
  · rw [qa] at HR1
    have ga := right_iff.1 qa
    obtain ⟨b0, o0, q0, c0, rfl, k0⟩ := first_at ha (by omega)
    have hcp : (0 : Int) < (A.length : Int) := by omega
    by_cases hq : l.length = colsL A
    · have z1 : ((l.length : Int) == (colsL A : Int)) = true := by rw [hq]; simp
      have z2 : (l.length == colsL A) = true := by rw [hq]; simp
      rw [applyR_yes ⟨qa, hq⟩]
      have hmb := mk_bytes A.length (by omega)
      obtain ⟨X, hX⟩ : ∃ X, w.alloc (.cells (bs (zeroR A.length)).toArray 5) = X := ⟨_, rfl⟩
      have HX : Hid (Own X w.heap.size (.slice (some ⟨w.heap.size, 0, none⟩) A.length A.length) (zeroR A.length)) := Lib.hid (by rw [← hX]; exact own_made w _ (by omega))
      have HXb : Hid (Below w.heap.size w X) := Lib.hid (by rw [← hX]; exact bel_alloc _ _)
      obtain ⟨Z, hZ⟩ : ∃ Z, (bs (zeroR A.length)).toArray = Z := ⟨_, rfl⟩
      rw [hZ] at hmb hX
      obtain ⟨bu, ou, rfl, hbu, _, _, hcell⟩ := hb.all (by omega)
      have HCl := Lib.hid hcell
      have HQ := Lib.hid hq
      have HT := Lib.hid (right_tab qa)
      obtain ⟨hc1, hc2⟩ := ga.2.1
      have ga1 := ga.1
      clear hZ ha hb qa hcell ga hq
      go_enter Try.func31, Try.ntmps31
      go_wp2_with fail
      refine HR1.out.mono ?_
      rintro e w' ⟨rfl, rfl⟩
      go_wp2_with fail
      go_loopw [28] (fun i wr => ∃ k : Nat, k ≤ A.length ∧ i = .int .i64 (k : Int) ∧ Own wr w.heap.size (.slice (some ⟨w.heap.size, 0, none⟩) A.length A.length) (rowM A.length (apF (colsL A) (ofL A) (rowF l) k 0)) ∧ Below w.heap.size w wr) (fun i _ => A.length - (intOf i).toNat)
      case atStart => exact ⟨0, by omega, rfl, by rw [apF_zero]; exact HX.out, HXb.out⟩
      case round =>
        obtain ⟨k, hk, rfl, ho, hb⟩ := hrel
        have HO := Lib.hid ho
        have HBw := Lib.hid hb
        clear hX
        by_cases hlt : k < A.length
        · have d1 : decide ((k : Int) < (A.length : Int)) = true := decide_eq_true (by omega)
          have d2 : decide (k < A.length) = true := decide_eq_true hlt
          have hAk : A[k]? = some (rowM (colsL A) (ofL A k)) := by
            have h := tabM_at hlt (colsL A) (ofL A)
            rw [← HT.out] at h
            exact h
          obtain ⟨b1, o1, q1, c1, hp1, hbl, _, k1, r1⟩ := HA.out.at_ hAk
          obtain ⟨rfl, rfl⟩ : b0 = b1 ∧ o0 = o1 := by simpa using hp1
          rw [rowM_len] at k1
          have k2 := (below_cells hb b0 _ hbl).trans k1
          obtain ⟨bf, of, rfl, hbf, _, hcf, hcells⟩ := r1.all (by rw [rowM_len]; omega)
          rw [rowM_len] at hcf hcells
          have HCs := Lib.hid hcells
          clear ho hb hp1 k1 r1 hcells hAk
          go_wp2_with fail
          go_loopw [35] (fun i wi => ∃ j : Nat, j ≤ colsL A ∧ i = .int .i64 (j : Int) ∧ Own wi w.heap.size (.slice (some ⟨w.heap.size, 0, none⟩) A.length A.length) (rowM A.length (apF (colsL A) (ofL A) (rowF l) k j)) ∧ Below w.heap.size w wi) (fun i _ => colsL A - (intOf i).toNat)
          case atStart => exact ⟨0, by omega, rfl, HO.out, HBw.out⟩
          case round =>
            obtain ⟨j, hj, rfl, ho, hb⟩ := hrel
            have HO := Lib.hid ho
            have HBw := Lib.hid hb
            by_cases hjl : j < colsL A
            · have e3 : decide ((j : Int) < (colsL A : Int)) = true := decide_eq_true (by omega)
              have e4 : decide (j < colsL A) = true := decide_eq_true hjl
              have g1 : wr.cell? ⟨bf, of + j, none⟩ = some (.int .u8 ((ofL A k j).toNat : Int)) := by
                have h := (below_cells hb bf _ hbf).trans (HCs.out j hjl)
                rw [rowM_nat hjl] at h
                exact h
              have g2 : wr.cell? ⟨bu, ou + j, none⟩ = some (.int .u8 ((rowF l j).toNat : Int)) := (below_cells hb bu _ hbu).trans (HCl.out j (by have := HQ.out; omega))
              obtain ⟨g3, f3⟩ := own_cell ho (i := k) (by rw [rowM_len]; exact hlt)
              rw [rowM_nat hlt, apF_at] at g3
              have hjl2 : ((j : Int) < (l.length : Int)) := by have := HQ.out; omega
              have hjl3 : decide (j < l.length) = true := decide_eq_true (by have := HQ.out; omega)
              have HP := Lib.hid (apF_set A.length (colsL A) (ofL A) (rowF l) k j (UInt8.ofBitVec (dotN j (ofL A k) (rowF l) ^^^ mulG (ofL A k j) (rowF l j))) rfl)
              have HM2 : Hid (Calls Try.prog 19 #[.int .u8 ((ofL A k j).toNat : Int), .int .u8 ((rowF l j).toNat : Int)] wr.drew fun e w' => e = .returned (.int .u8 ((mulG (ofL A k j) (rowF l j)).toNat : Int)) ∧ w' = wr.drew) := Lib.hid (q_turn (mul_any _ _ _))
              have HA2 : Hid (Calls Try.prog 18 #[.int .u8 ((dotN j (ofL A k) (rowF l)).toNat : Int), .int .u8 ((mulG (ofL A k j) (rowF l j)).toNat : Int)] wr.drew fun e w' => e = .returned (.int .u8 ((dotN j (ofL A k) (rowF l) ^^^ mulG (ofL A k j) (rowF l j)).toNat : Int)) ∧ w' = wr.drew) := Lib.hid (q_turn (add_any _ _ _))
              generalize dotN j (ofL A k) (rowF l) ^^^ mulG (ofL A k j) (rowF l j) = z at *
              generalize mulG (ofL A k j) (rowF l j) = y at *
              generalize dotN j (ofL A k) (rowF l) = x at *
              generalize ofL A k j = s at *
              generalize rowF l j = t at *
              clear ho hb
              go_wp2_with fail
              refine wp_region_quiet_tail 14 (by kernel_rfl) (by kernel_rfl) ?_
              simp only [List.take_succ_cons, List.take_zero, List.drop_succ_cons, List.drop_zero]
              repeat (go_big_quiet_step (first | exact HM2.out _ | exact HA2.out _))
              refine wpQuiet_nil ?_
              go_wp2_with fail
              refine ⟨⟨j + 1, by omega, by go_num, ?_, ?_⟩, by simp [intOf]; omega⟩
              · have h := own_set (i := k) (HO.out.after (below_drew (Below.refl _ _))) (UInt8.ofBitVec z)
                rw [HP.out] at h
                exact h
              · exact HBw.out.trans ((below_drew (Below.refl _ _)).trans ((Fr.setCell (fun b => b = w.heap.size) wr.drew (p := ⟨w.heap.size, k, none⟩) rfl _).below HBw.out.size fun b hb e => by omega))
            · obtain rfl : j = colsL A := by omega
              clear ho hb
              go_wp2_with fail
              refine ⟨⟨k + 1, by omega, by go_num, ?_, HBw.out⟩, by simp [intOf]; omega⟩
              rw [← apF_next]
              exact HO.out
        · obtain rfl : k = A.length := by omega
          clear ho hb
          go_wp2_with fail
          refine Go.bodyPost_ret (Go.results_tmp2 rfl _ _ _) rfl ?_
          exact ⟨_, rfl, by rw [← apF_all]; exact HO.out, HBw.out⟩
    · have z1 : ((l.length : Int) == (colsL A : Int)) = false := by simp; omega
      have z2 : (l.length == colsL A) = false := by simp; omega
      rw [applyR_no (fun h => hq h.2)]
      clear ha hb qa ga hq
      go_enter Try.func31, Try.ntmps31
      go_wp2_with fail
      refine HR1.out.mono ?_
      rintro e w' ⟨rfl, rfl⟩
      go_wp2_with fail
      refine Go.bodyPost_ret (Go.results_tmp2 rfl _ _ _) rfl ?_
      exact ⟨_, rfl, World.ownsRow_nil _ _ _ _, Below.refl _ _⟩
end Go.Proofs.Ytjojimmfjmchcaa
