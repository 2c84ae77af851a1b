/-
  The walk over the reference's Rows.
-/
import Derived.Test.YtjojimmfjmchcaaGnI
namespace Go.Proofs.Ytjojimmfjmchcaa
open Go.RowKit

theorem own_shape {w : World} {base : Nat} {u : Value} {l : List UInt8} (h : Own w base u l) : ∃ p cap, u = .slice p l.length cap := by
  rcases h.2 with ⟨e, h0⟩ | ⟨g, cap, cur, e, _⟩
  · exact ⟨none, 0, by rw [e, h0]⟩
  · exact ⟨_, _, e⟩
set_option maxRecDepth 100000 in
set_option maxHeartbeats 2000000 in
theorem rrows_m (w : World) (F F' : Nat → Prop) (v u : Value) (A : List (List UInt8)) (ns : List Int) (ha : Mx w F v A) (hn : Cl w F' u ns.length (ns.map (Value.int .i64))) :
    Calls Try.prog 36 #[v, u] w fun e w' => ∃ x us, e = .returned (.tuple #[x, .int .i64 (rowsR A ns).2]) ∧ OwL w' (fun k => w.heap.size ≤ k) x us (rowsR A ns).1 ∧ Below w.heap.size w w' := by
  have HR1 := Lib.hid (rright_any w F v A ha)
  have HA := Lib.hid ha
  have HB := Lib.hid hn
  obtain ⟨pa, ca, rfl, hla, _, hca, _⟩ := ha.form
  obtain ⟨pn, cn, rfl, hln, hln2, hcn, _⟩ := hn.form
  clear ha hn
  go_enter Try.func36, Try.ntmps36
  go_wp2_with fail
  refine HR1.out.mono ?_
  rintro e w1 ⟨rfl, n1, hw1⟩
  have hbw1 : Below w.heap.size w w1 := by rw [hw1]; exact below_drewN (Below.refl _ _) n1
  have HBw1 := Lib.hid hbw1
  have HSz : Hid (w1.heap.size = w.heap.size) := Lib.hid (by rw [hw1]; rfl)
  have HA1 := Lib.hid (HA.out.below hbw1)
  have HB1 := Lib.hid (HB.out.below hbw1)
  clear hw1 hbw1
  cases qa : rightL A
  · have HN := Lib.hid (rowsR_no (A := A) (ns := ns) (by rw [qa]; simp))
    clear qa
    go_wp2_with fail
    refine Go.bodyPost_ret (Go.results_tmp2 rfl _ _ _) rfl ?_
    rw [HN.out]
    exact ⟨_, [], rfl, OwL.nil _ _, HBw1.out⟩
  · have ga := right_iff.1 qa
    by_cases g1 : ns.length < 1
    · have d1 : decide ((ns.length : Int) < 1) = true := decide_eq_true (by omega)
      have d1n : decide (ns.length < 1) = true := decide_eq_true g1
      have HN := Lib.hid (rowsR_no (A := A) (ns := ns) (fun h => by omega))
      clear qa ga g1
      go_wp2_with fail
      refine Go.bodyPost_ret (Go.results_tmp2 rfl _ _ _) rfl ?_
      rw [HN.out]
      exact ⟨_, [], rfl, OwL.nil _ _, HBw1.out⟩
    · have d1 : decide ((ns.length : Int) < 1) = false := decide_eq_false (by omega)
      have d1n : decide (ns.length < 1) = false := decide_eq_false g1
      by_cases g2 : 255 < ns.length
      · have d2 : decide ((255 : Int) < (ns.length : Int)) = true := decide_eq_true (by omega)
        have d2n : decide (255 < ns.length) = true := decide_eq_true g2
        have HN := Lib.hid (rowsR_no (A := A) (ns := ns) (fun h => by omega))
        clear qa ga g1 g2
        go_wp2_with fail
        refine Go.bodyPost_ret (Go.results_tmp2 rfl _ _ _) rfl ?_
        rw [HN.out]
        exact ⟨_, [], rfl, OwL.nil _ _, HBw1.out⟩
      · have d2 : decide ((255 : Int) < (ns.length : Int)) = false := decide_eq_false (by omega)
        have d2n : decide (255 < ns.length) = false := decide_eq_false g2
        have HT := Lib.hid (right_tab qa)
        have HQa := Lib.hid qa
        obtain ⟨hc1, hc2⟩ := ga.2.1
        have ga1 := ga.1
        clear qa ga
        go_wp2_with fail
        clear d1 d1n d2 d2n
        go_loopw [6, 7] (fun x i wr => ∃ (k : Nat) (us : List Value), k ≤ ns.length ∧ i = .int .i64 (k : Int) ∧ OwL wr (fun k => w1.heap.size ≤ k) x us (tabM k (colsL A) (fun i => ofL A (ns.getD i 0).toNat)) ∧ (∀ j z, j < k → ns[j]? = some z → 0 ≤ z ∧ z < (A.length : Int)) ∧ Below w1.heap.size w1 wr) (fun _ i _ => ns.length - (intOf i).toNat)
        case atStart => exact ⟨0, [], by omega, rfl, OwL.nil _ _, fun j z hj => by omega, Below.refl _ _⟩
        case round =>
          obtain ⟨k, us, hk, rfl, ho, hs, hb⟩ := hrel
          obtain ⟨x, hx⟩ : ∃ x, x = u6 := ⟨_, rfl⟩
          subst hx
          have HO := Lib.hid ho
          have HS := Lib.hid hs
          have HBw := Lib.hid hb
          by_cases hlt : k < ns.length
          · have e1 : decide ((k : Int) < (ns.length : Int)) = true := decide_eq_true (by omega)
            have e2 : decide (k < ns.length) = true := decide_eq_true hlt
            obtain ⟨b, off, rfl, hbl, _, k1⟩ := HB1.out.at_ (j := k) (x := .int .i64 ns[k]) (by simp [hlt])
            have k2 := (below_cells hb b _ hbl).trans k1
            have HK : Hid (ns[k]? = some ns[k]) := Lib.hid (List.getElem?_eq_getElem hlt)
            generalize ns[k] = z at *
            clear k1
            by_cases hq : 0 ≤ z ∧ z < (A.length : Int)
            · obtain ⟨q, rfl⟩ := Int.eq_ofNat_of_zero_le hq.1
              have hql : q < A.length := by omega
              have z1 : decide ((q : Int) < 0) = false := decide_eq_false (by omega)
              have z2 : decide ((A.length : Int) ≤ (q : Int)) = false := decide_eq_false (by omega)
              have z3 : decide (A.length ≤ q) = false := decide_eq_false (by omega)
              have hAq : A[q]? = some (rowM (colsL A) (ofL A q)) := by
                have h := tabM_at hql (colsL A) (ofL A)
                rw [← HT.out] at h
                exact h
              obtain ⟨b0, o0, q0, c0, rfl, hb0, _, k3, r3⟩ := HA1.out.at_ hAq
              have k4 := (below_cells hb b0 _ hb0).trans k3
              obtain ⟨X, hX⟩ : ∃ X, wr.alloc (.cells #[] 5) = X := ⟨_, rfl⟩
              have hXb : Below wr.heap.size wr X := by rw [← hX]; exact bel_alloc _ _
              have HL0 : Hid (Own X wr.heap.size (.slice (some ⟨wr.heap.size, 0, none⟩) 0 0) []) := Lib.hid (by rw [← hX]; exact own_lit1 wr)
              have HRd := Lib.hid ((r3.step (Fr.of_below hb) (S := fun k => w1.heap.size ≤ k) (fun k h1 _ => by omega)).below hXb).rd
              have k2x := (below_cells hXb b _ (block_lt_of_cell k2)).trans k2
              have k4x := (below_cells hXb b0 _ (block_lt_of_cell k4)).trans k4
              have HXb := Lib.hid hXb
              have hg : ns.getD k 0 = (q : Int) := by rw [List.getD_eq_getElem?_getD, HK.out]; rfl
              have HSn : Hid (tabM (k + 1) (colsL A) (fun i => ofL A (ns.getD i 0).toNat) = tabM k (colsL A) (fun i => ofL A (ns.getD i 0).toNat) ++ [rowM (colsL A) (ofL A q)]) := Lib.hid (by rw [tabM_snoc, hg]; rfl)
              have hlen : (rowM (colsL A) (ofL A q)).length = colsL A := rowM_len _ _
              have HLen := Lib.hid hlen
              have HT1 : Hid ((tabM k (colsL A) (fun i => ofL A (ns.getD i 0).toNat)).length = k) := Lib.hid (tabM_len _ _ _)
              generalize rowM (colsL A) (ofL A q) = rw_ at *
              generalize tabM k (colsL A) (fun i => ofL A (ns.getD i 0).toNat) = tb at *
              have hl255 : rw_.length ≤ 255 := by omega
              clear ho hb hs hAq k3 r3 hg hlen hXb
              go_wp2_with (first
                | (at_builtin
                   refine wpList_append_rd rfl (.tmp 42) (.tmp 49) rfl wr.heap.size _ _ _ [] rw_ rfl HL0.out rfl HRd.out (by simp; omega) HXb.out.size ?_
                   intro v3 w3 ho3 hb3
                   obtain ⟨p3, c3, rfl⟩ := own_shape ho3
                   have HO3 : Hid (Own w3 wr.heap.size (.slice p3 ([] ++ rw_).length c3) rw_) := Lib.hid (by simpa using ho3)
                   have HB3 := Lib.hid (HXb.out.trans hb3)
                   have HBY := Lib.hid (HB3.out.alloc HB3.out.size (.cells #[.slice p3 ([] ++ rw_).length c3] 48))
                   have HRow := Lib.hid (HO.out.below HBY.out).row
                   have HCl := Lib.hid (one_cl (Y := w3) (.slice p3 ([] ++ rw_).length c3) (fun _ => True) trivial)
                   clear ho3 hb3)
                | (at_builtin
                   refine slMx.wpList_append rfl (.tmp 41) (.tmp 51) rfl 0 rfl rfl HRow.out HCl.out rfl (fun x hx => by rw [List.mem_singleton.1 hx]; rfl) (by have := HT1.out; omega) (Nat.zero_le _) ?_
                   intro v4 w4 ho4 hg4 ha4
                   have HNx := Lib.hid (HO.out.push1 HB3.out HO3.out rfl (fun b hb => Nat.le_trans HBw.out.size hb) ho4 hg4 ha4)
                   have HNb := Lib.hid (below_push (w := w1) HO.out HBw.out HBY.out hg4)
                   clear ho4 hg4 ha4))
              refine ⟨⟨k + 1, _, by omega, by go_num, by rw [HSn.out]; exact HNx.out, fun j z hj hz => ?_, HNb.out⟩, by simp [intOf]; omega⟩
              rcases Nat.lt_or_ge j k with h | h
              · exact HS.out j z h hz
              · obtain rfl : j = k := by omega
                rw [HK.out] at hz
                obtain rfl := Option.some.inj hz
                omega
            · have HN := Lib.hid (rowsR_no (A := A) (ns := ns) (fun h => hq (inR_at h.2.2 HK.out)))
              by_cases h0 : z < 0
              · have z1 : decide (z < 0) = true := decide_eq_true h0
                clear hq h0 ho hb hs
                go_wp2_with fail
                refine Go.bodyPost_ret (Go.results_tmp2 rfl _ _ _) rfl ?_
                rw [HN.out, ← HSz.out]
                exact ⟨_, [], rfl, OwL.nil _ _, by have h := HBw1.out; rw [← HSz.out] at h; exact h.trans HBw.out⟩
              · have z1 : decide (z < 0) = false := decide_eq_false h0
                have z2 : decide ((A.length : Int) ≤ z) = true := decide_eq_true (by omega)
                clear hq h0 ho hb hs
                go_wp2_with fail
                refine Go.bodyPost_ret (Go.results_tmp2 rfl _ _ _) rfl ?_
                rw [HN.out, ← HSz.out]
                exact ⟨_, [], rfl, OwL.nil _ _, by have h := HBw1.out; rw [← HSz.out] at h; exact h.trans HBw.out⟩
          · obtain rfl : k = ns.length := by omega
            have HN := Lib.hid (rowsR_yes (A := A) (ns := ns) ⟨HQa.out, by omega, List.all_eq_true.2 fun z hz => by
              obtain ⟨j, hj⟩ := List.getElem?_of_mem hz
              exact decide_eq_true (hs j z (List.getElem?_eq_some_iff.1 hj).1 hj)⟩)
            clear ho hb hs
            go_wp2_with fail
            refine Go.bodyPost_ret (Go.results_tmp2 rfl _ _ _) rfl ?_
            rw [HN.out, ← HSz.out]
            exact ⟨_, us, rfl, HO.out, by have h := HBw1.out; rw [← HSz.out] at h; exact h.trans HBw.out⟩
end Go.Proofs.Ytjojimmfjmchcaa
