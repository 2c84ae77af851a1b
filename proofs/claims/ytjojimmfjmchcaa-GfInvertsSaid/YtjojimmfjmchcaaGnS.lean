/-
  The walk over GfMatrices.
-/
import Derived.Test.YtjojimmfjmchcaaGnR
import Derived.Test.YtjojimmfjmchcaaGnN
namespace Go.Proofs.Ytjojimmfjmchcaa
open Go.RowKit

/-- Rows that are few and short. -/
def SmlL (rows : List (List UInt8)) : Prop := rows.length ≤ 1048576 ∧ ∀ l ∈ rows, l.length ≤ 1048576
theorem sml_nil : SmlL [] := ⟨by simp, fun l h => by cases h⟩
theorem sml_tab {r c : Nat} (f : MtF) (hr : r ≤ 255) (hc : c ≤ 255) : SmlL (tabM r c f) := ⟨by rw [tabM_len]; omega, fun l hl => by
  obtain ⟨i, _, rfl⟩ := List.mem_map.1 hl
  rw [rowM_len]
  omega⟩
theorem times_sml (A B : List (List UInt8)) : SmlL (timesR A B).1 := by
  by_cases h : rightL A = true ∧ rightL B = true ∧ colsL A = B.length
  · rw [timesR_yes h]
    have h1 := right_iff.1 h.1
    have h2 := right_iff.1 h.2.1
    exact sml_tab _ h1.1.2 h2.2.1.2
  · rw [timesR_no h]
    exact sml_nil
theorem inverse_sml (A : List (List UInt8)) : SmlL (inverseR A).1 := by
  rcases inverseR_ways A with ⟨e, _, h⟩ | ⟨X, hr, _, _, h⟩
  · rw [h]
    exact sml_nil
  · rw [h]
    have h1 := right_iff.1 hr
    exact sml_tab _ h1.1.2 h1.1.2
theorem rows_sml (A : List (List UInt8)) (ns : List Int) : SmlL (rowsR A ns).1 := by
  by_cases h : rightL A = true ∧ (1 ≤ ns.length ∧ ns.length ≤ 255) ∧ inR A.length ns = true
  · rw [rowsR_yes h]
    have h1 := right_iff.1 h.1
    exact sml_tab _ h.2.1.2 h1.2.1.2
  · rw [rowsR_no h]
    exact sml_nil
theorem OwL.see {w : World} {G : Nat → Prop} {x : Value} {us : List Value} {rows : List (List UInt8)} (h : OwL w G x us rows) (hs : SmlL rows) : Mx w (fun _ => True) x rows := (h.mx (by have := hs.1; omega) fun l hl => by have := hs.2 l hl; omega).mono fun _ _ _ => trivial
set_option maxRecDepth 100000 in
set_option maxHeartbeats 4000000 in
theorem matrices_any (w : World) (v u s t : Value) (A B : List (List UInt8)) (l : List UInt8) (ns : List Int) (ha : Mx w (fun k => k < w.heap.size) v A) (hb : Mx w (fun k => k < w.heap.size) u B) (hl : By w (fun k => k < w.heap.size) s l) (hn : Cl w (fun k => k < w.heap.size) t ns.length (ns.map (Value.int .i64)))
    (ha1 : A.length ≤ 1048576) (ha2 : ∀ l ∈ A, l.length ≤ 1048576) (hb1 : B.length ≤ 1048576) (hb2 : ∀ l ∈ B, l.length ≤ 1048576) :
    Calls Try.prog 5 #[v, u, s, t] w fun e w' => e = .returned (.bool true) ∧ Below w.heap.size w w' := by
  have HA := Lib.hid ha
  have HB := Lib.hid hb
  have HL := Lib.hid hl
  have HN := Lib.hid hn
  have HS := Lib.hid (And.intro ha2 hb2)
  obtain ⟨pa, ca, rfl, _, _, _, _⟩ := ha.form
  obtain ⟨pb, cb, rfl, _, _, _, _⟩ := hb.form
  obtain ⟨pl, cl, rfl, _, _, _, _⟩ := hl.form
  obtain ⟨pn, cn, rfl, _, _, _, _⟩ := hn.form
  clear ha hb hl hn ha2 hb2
  go_enter Try.func5, Try.ntmps5
  go_wp2_with fail
  refine (known_any w).mono ?_
  rintro e w1 ⟨rfl, hbw⟩
  have HB1 := Lib.hid hbw
  have HF1 := Lib.hid (few_any w1 _ _ A (HA.out.under hbw) ha1 HS.out.1)
  have HF2 := Lib.hid (few_any w1 _ _ B (HB.out.under hbw) hb1 HS.out.2)
  clear hbw
  cases hf1 : fewM A
  · rw [hf1] at HF1
    clear hf1
    go_wp2_with fail
    refine HF1.out.mono ?_
    rintro e w' ⟨rfl, rfl⟩
    go_wp2_with fail
    go_ret
    exact ⟨rfl, HB1.out⟩
  · rw [hf1] at HF1
    clear hf1
    cases hf2 : fewM B
    · rw [hf2] at HF2
      clear hf2
      go_wp2_with fail
      refine HF1.out.mono ?_
      rintro e w' ⟨rfl, rfl⟩
      go_wp2_with fail
      refine HF2.out.mono ?_
      rintro e w' ⟨rfl, rfl⟩
      go_wp2_with fail
      go_ret
      exact ⟨rfl, HB1.out⟩
    · rw [hf2] at HF2
      clear hf2
      by_cases g1 : 2000 < l.length
      · have d1 : decide ((2000 : Int) < (l.length : Int)) = true := decide_eq_true (by omega)
        have d2 : decide (2000 < l.length) = true := decide_eq_true g1
        clear g1
        go_wp2_with fail
        refine HF1.out.mono ?_
        rintro e w' ⟨rfl, rfl⟩
        go_wp2_with fail
        refine HF2.out.mono ?_
        rintro e w' ⟨rfl, rfl⟩
        go_wp2_with fail
        go_ret
        exact ⟨rfl, HB1.out⟩
      · have d1 : decide ((2000 : Int) < (l.length : Int)) = false := decide_eq_false (by omega)
        have d2 : decide (2000 < l.length) = false := decide_eq_false g1
        by_cases g2 : 300 < ns.length
        · have d3 : decide ((300 : Int) < (ns.length : Int)) = true := decide_eq_true (by omega)
          have d4 : decide (300 < ns.length) = true := decide_eq_true g2
          clear g1 g2
          go_wp2_with fail
          refine HF1.out.mono ?_
          rintro e w' ⟨rfl, rfl⟩
          go_wp2_with fail
          refine HF2.out.mono ?_
          rintro e w' ⟨rfl, rfl⟩
          go_wp2_with fail
          go_ret
          exact ⟨rfl, HB1.out⟩
        · have d3 : decide ((300 : Int) < (ns.length : Int)) = false := decide_eq_false (by omega)
          have d4 : decide (300 < ns.length) = false := decide_eq_false g2
          have HSm := Lib.hid (And.intro (times_sml A B) (And.intro (inverse_sml A) (rows_sml A ns)))
          have HAp : Hid ((applyR A l).1.length ≤ 140737488355328) := Lib.hid (by
            by_cases h : rightL A = true ∧ l.length = colsL A
            · rw [applyR_yes h, rowM_len]
              omega
            · rw [applyR_no h]
              simp)
          clear g1 g2
          have H1 := Lib.hid (times_m w1 _ _ _ _ A B (HA.out.under HB1.out) (HB.out.under HB1.out))
          have H2 : Hid (∀ W : World, Below w.heap.size w W → Calls Try.prog 30 #[.slice pa A.length ca, .slice pb B.length cb] W fun e w' => ∃ x us, e = .returned (.tuple #[x, .int .i64 (timesR A B).2]) ∧ OwL w' (fun k => W.heap.size ≤ k) x us (timesR A B).1 ∧ Below W.heap.size W w') := Lib.hid (fun W h => rtimes_m W _ _ _ _ A B (HA.out.under h) (HB.out.under h))
          have H3 : Hid (∀ W : World, Below w.heap.size w W → Calls Try.prog 31 #[.slice pa A.length ca, .slice pl l.length cl] W fun e w' => ∃ x, e = .returned (.tuple #[x, .int .i64 (applyR A l).2]) ∧ Own w' W.heap.size x (applyR A l).1 ∧ Below W.heap.size W w') := Lib.hid (fun W h => apply_m W _ _ _ _ A l (HA.out.under h) (By.step HL.out (Fr.of_below h) fun k _ h1 h2 => by omega))
          have H4 : Hid (∀ W : World, Below w.heap.size w W → Calls Try.prog 32 #[.slice pa A.length ca, .slice pl l.length cl] W fun e w' => ∃ x, e = .returned (.tuple #[x, .int .i64 (applyR A l).2]) ∧ Own w' W.heap.size x (applyR A l).1 ∧ Below W.heap.size W w') := Lib.hid (fun W h => rapply_m W _ _ _ _ A l (HA.out.under h) (By.step HL.out (Fr.of_below h) fun k _ h1 h2 => by omega))
          have H5 : Hid (∀ W : World, Below w.heap.size w W → Calls Try.prog 33 #[.slice pa A.length ca] W fun e w' => ∃ x us, e = .returned (.tuple #[x, .int .i64 (inverseR A).2]) ∧ OwL w' (fun k => W.heap.size ≤ k) x us (inverseR A).1 ∧ Below W.heap.size W w') := Lib.hid (fun W h => inverse_m W _ _ A (HA.out.under h))
          have H6 : Hid (∀ W : World, Below w.heap.size w W → Calls Try.prog 34 #[.slice pa A.length ca] W fun e w' => ∃ x us, e = .returned (.tuple #[x, .int .i64 (inverseR A).2]) ∧ OwL w' (fun k => W.heap.size ≤ k) x us (inverseR A).1 ∧ Below W.heap.size W w') := Lib.hid (fun W h => rinverse_m W _ _ A (HA.out.under h))
          have H7 : Hid (∀ W : World, Below w.heap.size w W → Calls Try.prog 35 #[.slice pa A.length ca, .slice pn ns.length cn] W fun e w' => ∃ x us, e = .returned (.tuple #[x, .int .i64 (rowsR A ns).2]) ∧ OwL w' (fun k => W.heap.size ≤ k) x us (rowsR A ns).1 ∧ Below W.heap.size W w') := Lib.hid (fun W h => rows_m W _ _ _ _ A ns (HA.out.under h) (HN.out.step (Fr.of_below h) fun k _ h1 h2 => by omega))
          have H8 : Hid (∀ W : World, Below w.heap.size w W → Calls Try.prog 36 #[.slice pa A.length ca, .slice pn ns.length cn] W fun e w' => ∃ x us, e = .returned (.tuple #[x, .int .i64 (rowsR A ns).2]) ∧ OwL w' (fun k => W.heap.size ≤ k) x us (rowsR A ns).1 ∧ Below W.heap.size W w') := Lib.hid (fun W h => rrows_m W _ _ _ _ A ns (HA.out.under h) (HN.out.step (Fr.of_below h) fun k _ h1 h2 => by omega))
          generalize timesR A B = T at *
          generalize applyR A l = P at *
          generalize inverseR A = I at *
          generalize rowsR A ns = R at *
          obtain ⟨T1, T2⟩ := T
          obtain ⟨P1, P2⟩ := P
          obtain ⟨I1, I2⟩ := I
          obtain ⟨R1, R2⟩ := R
          go_wp2_with fail
          refine HF1.out.mono ?_
          rintro e w' ⟨rfl, rfl⟩
          go_wp2_with fail
          refine HF2.out.mono ?_
          rintro e w' ⟨rfl, rfl⟩
          go_wp2_with fail
          refine H1.out.mono ?_
          rintro e w2 ⟨x1, us1, rfl, ho1, hb1⟩
          have HM1 := Lib.hid (ho1.see HSm.out.1)
          have HB2 := Lib.hid (HB1.out.trans (hb1.mono HB1.out.size))
          clear ho1 hb1
          go_wp2_with fail
          refine (H2.out w2 HB2.out).mono ?_
          rintro e w3 ⟨x2, us2, rfl, ho2, hb2⟩
          have HS1 := Lib.hid (same_any w3 _ _ x1 x2 T1 T1 (HM1.out.below hb2) (ho2.see HSm.out.1))
          have HB3 := Lib.hid (HB2.out.trans (hb2.mono HB2.out.size))
          rw [decide_eq_true rfl] at HS1
          clear ho2 hb2
          go_wp2_with fail
          refine HS1.out.mono ?_
          rintro e w4 ⟨rfl, n4, hw4⟩
          have HB4 : Hid (Below w.heap.size w w4) := Lib.hid (by rw [hw4]; exact below_drewN HB3.out n4)
          clear hw4
          go_wp2_with fail
          refine (H3.out w4 HB4.out).mono ?_
          rintro e w5 ⟨x3, rfl, ho3, hb3⟩
          have HB5 := Lib.hid (HB4.out.trans (hb3.mono HB4.out.size))
          have HO3 := Lib.hid ho3
          clear ho3 hb3
          go_wp2_with fail
          refine (H4.out w5 HB5.out).mono ?_
          rintro e w6 ⟨x4, rfl, ho4, hb4⟩
          have ho36 := HO3.out.after hb4
          obtain ⟨p3, c3, rfl⟩ := own_shape ho36
          obtain ⟨p4, c4, rfl⟩ := own_shape ho4
          have t1 := txt_run (ho36.rd HAp.out)
          have t2 := txt_run (ho4.rd HAp.out)
          have HB6 := Lib.hid (HB5.out.trans (hb4.mono HB5.out.size))
          clear ho4 hb4 ho36
          go_wp2_with fail
          refine (H5.out w6 HB6.out).mono ?_
          rintro e w7 ⟨x5, us5, rfl, ho5, hb5⟩
          have HM5 := Lib.hid (ho5.see HSm.out.2.1)
          have HB7 := Lib.hid (HB6.out.trans (hb5.mono HB6.out.size))
          clear ho5 hb5 t1 t2
          go_wp2_with fail
          refine (H6.out w7 HB7.out).mono ?_
          rintro e w8 ⟨x6, us6, rfl, ho6, hb6⟩
          have HS2 := Lib.hid (same_any w8 _ _ x5 x6 I1 I1 (HM5.out.below hb6) (ho6.see HSm.out.2.1))
          have HB8 := Lib.hid (HB7.out.trans (hb6.mono HB7.out.size))
          rw [decide_eq_true rfl] at HS2
          clear ho6 hb6
          go_wp2_with fail
          refine HS2.out.mono ?_
          rintro e w9 ⟨rfl, n9, hw9⟩
          have HB9 : Hid (Below w.heap.size w w9) := Lib.hid (by rw [hw9]; exact below_drewN HB8.out n9)
          clear hw9
          go_wp2_with fail
          refine (H7.out w9 HB9.out).mono ?_
          rintro e w10 ⟨x7, us7, rfl, ho7, hb7⟩
          have HM7 := Lib.hid (ho7.see HSm.out.2.2)
          have HB10 := Lib.hid (HB9.out.trans (hb7.mono HB9.out.size))
          clear ho7 hb7
          go_wp2_with fail
          refine (H8.out w10 HB10.out).mono ?_
          rintro e w11 ⟨x8, us8, rfl, ho8, hb8⟩
          have HS3 := Lib.hid (same_any w11 _ _ x7 x8 R1 R1 (HM7.out.below hb8) (ho8.see HSm.out.2.2))
          have HB11 := Lib.hid (HB10.out.trans (hb8.mono HB10.out.size))
          rw [decide_eq_true rfl] at HS3
          clear ho8 hb8
          go_wp2_with fail
          refine HS3.out.mono ?_
          rintro e w12 ⟨rfl, n12, hw12⟩
          have HB12 : Hid (Below w.heap.size w w12) := Lib.hid (by rw [hw12]; exact below_drewN HB11.out n12)
          clear hw12
          go_wp2_with fail
          go_ret
          exact ⟨by first | rfl | (simp; done), HB12.out⟩
end Go.Proofs.Ytjojimmfjmchcaa
