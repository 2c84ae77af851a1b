/-
  The walk over GfSolves.
-/
import Derived.Test.YtjojimmfjmchcaaGnM
import Derived.Test.YtjojimmfjmchcaaGnF
import Derived.Test.YtjojimmfjmchcaaGmH
namespace Go.Proofs.Ytjojimmfjmchcaa
open Go.RowKit

theorem own_shape0 {w : World} {base : Nat} {u : Value} {l : List UInt8} (h : Own w base u l) : ∃ p cap, u = .slice p l.length cap := by
  rcases h.2 with ⟨e, h0⟩ | ⟨g, cap, cur, e, _⟩
  · exact ⟨none, 0, by rw [e, h0]⟩
  · exact ⟨_, _, e⟩
theorem inverseR_ways (A : List (List UInt8)) : (∃ e : Int, e ≠ 0 ∧ inverseR A = ([], e)) ∨ ∃ X, rightL A = true ∧ A.length = colsL A ∧ InvI A.length (ofL A) X ∧ inverseR A = (tabM A.length A.length X, 0) := by
  by_cases h : rightL A = true ∧ A.length = colsL A
  · by_cases hx : ∃ X, InvI A.length (ofL A) X
    · obtain ⟨X, hX⟩ := hx
      exact .inr ⟨X, h.1, h.2, hX, inverseR_yes h hX⟩
    · refine .inl ⟨17, by decide, ?_⟩
      unfold inverseR
      rw [if_pos h, dif_neg hx]
  · exact .inl ⟨1, by decide, inverseR_no h⟩
theorem solve_back {n : Nat} {M X : MtF} (h : InvI n M X) (l : List UInt8) (hl : l.length = n) : rowM n (fun i => dotN n (ofL (tabM n n X) i) (rowF (rowM n fun k => dotN n (M k) (rowF l)))) = l := by
  have h1 := row_of l
  rw [hl] at h1
  rw [h1]
  refine rowM_congr fun i hi => ?_
  rw [← h1]
  have h2 : dotN n (ofL (tabM n n X) i) (rowF (rowM n fun k => dotN n (M k) (rowF l))) = dotN n (X i) fun k => dotN n (M k) (rowF l) := dot_congr (fun k hk => ofL_tab hi hk X) fun k hk => rowF_rowM hk _
  rw [h2, ← dot_dot n n (X i) M (rowF l)]
  have h3 : dotN n (fun j => dotN n (X i) fun k => M k j) (rowF l) = dotN n (unitF i) (rowF l) := dot_congr (fun j hj => h.1 i hi j hj) fun _ _ => rfl
  rw [h3, dot_unit hi]
set_option maxRecDepth 100000 in
set_option maxHeartbeats 2000000 in
theorem solves_any (w : World) (v u : Value) (A : List (List UInt8)) (l : List UInt8) (ha : Mx w (fun k => k < w.heap.size) v A) (hl1 : A.length ≤ 1048576) (hl2 : ∀ l ∈ A, l.length ≤ 1048576) (hb : By w (fun k => k < w.heap.size) u l) :
    Calls Try.prog 10 #[v, u] w fun e w' => e = .returned (.bool true) ∧ Below w.heap.size w w' := by
  have HA := Lib.hid ha
  have HB := Lib.hid hb
  have HL := Lib.hid hl2
  obtain ⟨pa, ca, rfl, hla, _, hca, _⟩ := ha.form
  obtain ⟨pb, cb, rfl, hlb, hlb2, hcb, _⟩ := hb.form
  clear ha hb hl2
  go_enter Try.func10, Try.ntmps10
  go_wp2_with fail
  refine (known_any w).mono ?_
  rintro e w1 ⟨rfl, hb1⟩
  have HB1 := Lib.hid hb1
  have HA1 := Lib.hid (HA.out.under hb1)
  have HF := Lib.hid (few_any w1 _ _ A (HA.out.under hb1) hl1 HL.out)
  clear hb1
  cases hf : fewM A
  · rw [hf] at HF
    clear hf
    go_wp2_with fail
    refine HF.out.mono ?_
    rintro e w' ⟨rfl, rfl⟩
    go_wp2_with fail
    go_ret
    exact ⟨rfl, HB1.out⟩
  · rw [hf] at HF
    clear hf
    by_cases h20 : 20 < A.length
    · have d1 : decide ((20 : Int) < (A.length : Int)) = true := decide_eq_true (by omega)
      have d2 : decide (20 < A.length) = true := decide_eq_true h20
      clear h20
      go_wp2_with fail
      refine HF.out.mono ?_
      rintro e w' ⟨rfl, rfl⟩
      go_wp2_with fail
      go_ret
      exact ⟨rfl, HB1.out⟩
    · have d1 : decide ((20 : Int) < (A.length : Int)) = false := decide_eq_false (by omega)
      have d2 : decide (20 < A.length) = false := decide_eq_false h20
      have HI := Lib.hid (inverse_m w1 _ _ A HA1.out)
      go_wp2_with fail
      refine HF.out.mono ?_
      rintro e w' ⟨rfl, rfl⟩
      go_wp2_with fail
      refine HI.out.mono ?_
      rintro e w2 ⟨x, us, rfl, ho2, hb2⟩
      have HB2 := Lib.hid (HB1.out.trans (hb2.mono HB1.out.size))
      rcases inverseR_ways A with ⟨en, hen, hinv⟩ | ⟨X, hr, hsq, hX, hinv⟩
      · rw [hinv]
        have q0 : (en == 0) = false := by simpa using hen
        clear ho2 hb2 hinv hen
        go_wp2_with fail
        go_ret
        exact ⟨rfl, HB2.out⟩
      · rw [hinv] at ho2 ⊢
        by_cases hle : l.length = A.length
        · have z1 : ((l.length : Int) == (A.length : Int)) = true := by rw [hle]; simp
          have z2 : (l.length == A.length) = true := by rw [hle]; simp
          have hn1 : 1 ≤ A.length ∧ A.length ≤ 255 := (right_iff.1 hr).1
          have HA2 := Lib.hid (HA.out.under HB2.out)
          have HBy2 := Lib.hid (By.step HB.out (Fr.of_below HB2.out) fun k _ h1 h2 => by omega)
          have hap := apply_m w2 _ _ _ _ A l HA2.out HBy2.out
          have hR1 : applyR A l = (rowM A.length (fun i => dotN A.length (ofL A i) (rowF l)), 0) := by
            rw [applyR_yes ⟨hr, by omega⟩, ← hsq]
          rw [hR1] at hap
          have HAp := Lib.hid hap
          have hmx := ho2.mx (by rw [tabM_len]; omega) (fun l hl => by
            obtain ⟨i, _, rfl⟩ := List.mem_map.1 hl
            rw [rowM_len]
            omega)
          have HMx := Lib.hid hmx
          have HR2 : Hid (applyR (tabM A.length A.length X) (rowM A.length fun i => dotN A.length (ofL A i) (rowF l)) = (l, 0)) := Lib.hid (by
            rw [applyR_yes ⟨tab_right hn1.1 hn1.2 hn1.1 hn1.2 X, by rw [rowM_len, cols_tab hn1.1]⟩, tabM_len, cols_tab hn1.1, solve_back hX l hle])
          have HLe : Hid ((rowM A.length fun i => dotN A.length (ofL A i) (rowF l)).length ≤ 140737488355328) := Lib.hid (by rw [rowM_len]; omega)
          generalize rowM A.length (fun i => dotN A.length (ofL A i) (rowF l)) = bl at *
          generalize tabM A.length A.length X = T at *
          have HBz := Lib.hid hb2
          clear ho2 hb2 hinv hle hX hR1 hap hmx hr hsq
          go_wp2_with fail
          refine HAp.out.mono ?_
          rintro e w3 ⟨x3, rfl, ho3, hb3⟩
          have hmx3 := HMx.out.below hb3
          have hap2 := apply_m w3 _ _ _ _ T bl hmx3 (By.of_own (F := fun _ => True) ho3 HLe.out fun _ _ => trivial)
          rw [HR2.out] at hap2
          have HAp2 := Lib.hid hap2
          have HB3 := Lib.hid (HB2.out.trans (hb3.mono HB2.out.size))
          clear ho3 hb3 hmx3 hap2
          go_wp2_with fail
          refine HAp2.out.mono ?_
          rintro e w4 ⟨x4, rfl, ho4, hb4⟩
          obtain ⟨p4, c4, rfl⟩ := own_shape0 ho4
          have hb4w := HB3.out.trans (hb4.mono HB3.out.size)
          have t1 := txt_run (ho4.rd hlb2)
          have t2 := txt_run (By.step HB.out (Fr.of_below hb4w) fun k _ h1 h2 => by omega).rd
          have HB4 := Lib.hid hb4w
          clear ho4 hb4 hb4w
          go_wp2_with fail
          go_ret
          exact ⟨by first | rfl | (simp; done), HB4.out⟩
        · have z1 : ((l.length : Int) == (A.length : Int)) = false := by simp; omega
          have z2 : (l.length == A.length) = false := by simp; omega
          clear ho2 hb2 hinv hle
          go_wp2_with fail
          go_ret
          exact ⟨rfl, HB2.out⟩
end Go.Proofs.Ytjojimmfjmchcaa
