/-
  The walks over gf.Rows and the reference's Rows.
-/
import Derived.Test.YtjojimmfjmchcaaGnH
namespace Go.Proofs.Ytjojimmfjmchcaa
open Go.RowKit

def inR (r : Nat) (ns : List Int) : Bool := ns.all fun z => decide (0 ≤ z ∧ z < (r : Int))
/-- What Rows tells. -/
def rowsR (A : List (List UInt8)) (ns : List Int) : List (List UInt8) × Int := if rightL A = true ∧ (1 ≤ ns.length ∧ ns.length ≤ 255) ∧ inR A.length ns = true then (tabM ns.length (colsL A) (fun i => ofL A (ns.getD i 0).toNat), 0) else ([], 1)
theorem rowsR_no {A : List (List UInt8)} {ns : List Int} (h : ¬(rightL A = true ∧ (1 ≤ ns.length ∧ ns.length ≤ 255) ∧ inR A.length ns = true)) : rowsR A ns = ([], 1) := if_neg h
theorem rowsR_yes {A : List (List UInt8)} {ns : List Int} (h : rightL A = true ∧ (1 ≤ ns.length ∧ ns.length ≤ 255) ∧ inR A.length ns = true) : rowsR A ns = (tabM ns.length (colsL A) (fun i => ofL A (ns.getD i 0).toNat), 0) := if_pos h
theorem inR_at {r : Nat} {ns : List Int} (h : inR r ns = true) {i : Nat} {z : Int} (hz : ns[i]? = some z) : 0 ≤ z ∧ z < (r : Int) := by
  have h1 := List.all_eq_true.1 h z (List.mem_of_getElem? hz)
  exact of_decide_eq_true h1

set_option maxRecDepth 100000 in
set_option maxHeartbeats 1000000 in
theorem indexN_any (w : World) (F F' : Nat → Prop) (v mv : Value) (A : List (List UInt8)) (ns : List Int) (ha : Mx w F' mv A) (hn : Cl w F v ns.length (ns.map (Value.int .i64))) :
    Calls Try.prog 61 #[v, .func (.func 55) #[mv] #[]] w fun e w' => ∃ z : Int, e = .returned (.int .i64 z) ∧ decide (0 ≤ z) = !(inR A.length ns) ∧ w = w' := by
  obtain ⟨pa, ca, rfl, hla, hla2, hca, _⟩ := ha.form
  obtain ⟨pn, cn, rfl, hln, hln2, hcn, _⟩ := hn.form
  have HN := Lib.hid hn
  clear ha hn
  go_enter Try.func61, Try.ntmps61
  go_wp2_with fail
  go_loop [8] (fun i => ∃ k : Nat, k ≤ ns.length ∧ i = .int .i64 (k : Int) ∧ ∀ j z, j < k → ns[j]? = some z → 0 ≤ z ∧ z < (A.length : Int)) (fun i => ns.length - (intOf i).toNat)
  case atStart => exact ⟨0, by omega, rfl, fun j l hj => by omega⟩
  case round =>
    obtain ⟨k, hk, rfl, hs⟩ := hrel
    have HS := Lib.hid hs
    clear hs
    by_cases hlt : k < ns.length
    · have d1 : decide ((k : Int) < (ns.length : Int)) = true := decide_eq_true (by omega)
      have d2 : decide (k < ns.length) = true := decide_eq_true hlt
      obtain ⟨b, off, rfl, hbl, _, k1⟩ := HN.out.at_ (j := k) (x := .int .i64 ns[k]) (by simp [hlt])
      have HK : Hid (ns[k]? = some ns[k]) := Lib.hid (List.getElem?_eq_getElem hlt)
      generalize ns[k] = z at *
      by_cases hq : 0 ≤ z ∧ z < (A.length : Int)
      · have z1 : decide (z < 0) = false := decide_eq_false (by omega)
        have z2 : decide ((A.length : Int) ≤ z) = false := decide_eq_false (by omega)
        have HQ := Lib.hid hq
        clear hq
        go_wp2
        refine ⟨⟨k + 1, by omega, by go_num, fun j l hj hl => ?_⟩, by simp [intOf]; omega⟩
        rcases Nat.lt_or_ge j k with h | h
        · exact HS.out j l h hl
        · obtain rfl : j = k := by omega
          rw [HK.out] at hl
          obtain rfl := Option.some.inj hl
          exact HQ.out
      · have HR : Hid (decide ((0 : Int) ≤ (k : Int)) = !(inR A.length ns)) := Lib.hid (by
          rw [decide_eq_true (show (0 : Int) ≤ (k : Int) by omega)]
          have : inR A.length ns = false := by
            rcases e : inR A.length ns with _ | _
            · rfl
            · exact absurd (inR_at e HK.out) hq
          rw [this]
          rfl)
        by_cases h0 : z < 0
        · have z1 : decide (z < 0) = true := decide_eq_true h0
          clear hq h0
          go_wp2
          go_ret
          exact ⟨(k : Int), rfl, HR.out, rfl⟩
        · have z1 : decide (z < 0) = false := decide_eq_false h0
          have z2 : decide ((A.length : Int) ≤ z) = true := decide_eq_true (by omega)
          clear hq h0
          go_wp2
          go_ret
          exact ⟨(k : Int), rfl, HR.out, rfl⟩
    · obtain rfl : k = ns.length := by omega
      go_wp2_with fail
      go_ret
      refine ⟨-1, rfl, ?_, rfl⟩
      have : inR A.length ns = true := List.all_eq_true.2 fun z hz => by
        obtain ⟨j, hj⟩ := List.getElem?_of_mem hz
        exact decide_eq_true (HS.out j z (List.getElem?_eq_some_iff.1 hj).1 hj)
      rw [this]
      rfl
theorem containsN_any (w : World) (F F' : Nat → Prop) (v mv : Value) (A : List (List UInt8)) (ns : List Int) (ha : Mx w F' mv A) (hn : Cl w F v ns.length (ns.map (Value.int .i64))) :
    Calls Try.prog 54 #[v, .func (.func 55) #[mv] #[]] w fun e w' => e = .returned (.bool (!(inR A.length ns))) ∧ w = w' := by
  have HI := Lib.hid (indexN_any w F F' v mv A ns ha hn)
  obtain ⟨pa, ca, rfl, hla, hla2, hca, _⟩ := ha.form
  obtain ⟨pn, cn, rfl, hln, hln2, hcn, _⟩ := hn.form
  generalize inR A.length ns = r at *
  clear ha hn
  go_enter Try.func54, Try.ntmps54
  go_wp2_with fail
  refine HI.out.mono ?_
  rintro e w' ⟨z, rfl, hz, rfl⟩
  have HZ := Lib.hid hz
  clear hz
  go_wp2_with fail
  go_ret
  refine ⟨?_, rfl⟩
  rw [← HZ.out]
  first | rfl | (simp; done)

set_option maxRecDepth 100000 in
set_option maxHeartbeats 2000000 in
theorem rows_m (w : World) (F F' : Nat → Prop) (v u : Value) (A : List (List UInt8)) (ns : List Int) (ha : Mx w F v A) (hn : Cl w F' u ns.length (ns.map (Value.int .i64))) :
    Calls Try.prog 35 #[v, u] w fun e w' => ∃ x us, e = .returned (.tuple #[x, .int .i64 (rowsR A ns).2]) ∧ OwL w' (fun k => w.heap.size ≤ k) x us (rowsR A ns).1 ∧ Below w.heap.size w w' := by
  have HR1 := Lib.hid (right_any w F v A ha)
  have HC := Lib.hid (containsN_any w F' F u v A ns ha hn)
  have HW := Lib.hid (within_any w (ns.length : Int))
  rw [inB_nat] at HW
  obtain ⟨pa, ca, rfl, hla, _, hca, _⟩ := ha.form
  obtain ⟨pn, cn, rfl, hln, hln2, hcn, _⟩ := hn.form
  cases qa : rightL A
  · have HN := Lib.hid (rowsR_no (A := A) (ns := ns) (by rw [qa]; simp))
    rw [qa] at HR1
    clear ha hn qa
    go_enter Try.func35, Try.ntmps35
    go_wp2_with fail
    refine HR1.out.mono ?_
    rintro e w' ⟨rfl, rfl⟩
    go_wp2_with fail
    refine Go.bodyPost_ret (Go.results_tmp2 rfl _ _ _) rfl ?_
    rw [HN.out]
    exact ⟨_, [], rfl, OwL.nil _ _, Below.refl _ _⟩
  · rw [qa] at HR1
    by_cases hl : 1 ≤ ns.length ∧ ns.length ≤ 255
    · rw [decide_eq_true hl] at HW
      cases qi : inR A.length ns
      · have HN := Lib.hid (rowsR_no (A := A) (ns := ns) (by rw [qi]; simp))
        rw [qi] at HC
        clear ha hn qa qi hl
        go_enter Try.func35, Try.ntmps35
        go_wp2_with fail
        refine HR1.out.mono ?_
        rintro e w' ⟨rfl, rfl⟩
        go_wp2_with fail
        refine HW.out.mono ?_
        rintro e w' ⟨rfl, rfl⟩
        go_wp2_with fail
        refine HC.out.mono ?_
        rintro e w' ⟨rfl, rfl⟩
        go_wp2_with fail
        refine Go.bodyPost_ret (Go.results_tmp2 rfl _ _ _) rfl ?_
        rw [HN.out]
        exact ⟨_, [], rfl, OwL.nil _ _, Below.refl _ _⟩
      · have HN := Lib.hid (rowsR_yes ⟨qa, hl, qi⟩)
        rw [qi] at HC
        have ga := right_iff.1 qa
        have HA := Lib.hid ha
        have HE := Lib.hid (eachR_any w F' _ (.slice pa A.length ca) ns (colsL A) (fun i => ofL A (ns.getD i 0).toNat) hn (by omega) (fun i z hz W hW => by
          obtain ⟨h1, h2⟩ := inR_at qi hz
          obtain ⟨q, rfl⟩ := Int.eq_ofNat_of_zero_le h1
          have hq : q < A.length := by omega
          have hAq : A[q]? = some (rowM (colsL A) (ofL A q)) := by
            have h := tabM_at hq (colsL A) (ofL A)
            rw [← right_tab qa] at h
            exact h
          have hg : ns.getD i 0 = (q : Int) := by rw [List.getD_eq_getElem?_getD, hz]; rfl
          have h := row_any W F _ A (HA.out.below hW) q _ hAq (by rw [rowM_len]; omega) (by rw [rowM_len]; omega)
          simp only [hg]
          exact h))
        clear ha hn qa qi hl ga
        go_enter Try.func35, Try.ntmps35
        go_wp2_with fail
        refine HR1.out.mono ?_
        rintro e w' ⟨rfl, rfl⟩
        go_wp2_with fail
        refine HW.out.mono ?_
        rintro e w' ⟨rfl, rfl⟩
        go_wp2_with fail
        refine HC.out.mono ?_
        rintro e w' ⟨rfl, rfl⟩
        go_wp2_with fail
        refine HE.out.mono ?_
        rintro e w2 ⟨us, rfl, ho2, hb2⟩
        have HO2 := Lib.hid ho2
        have HB2 := Lib.hid hb2
        clear ho2 hb2
        go_wp2_with fail
        refine Go.bodyPost_ret (Go.results_tmp2 rfl _ _ _) rfl ?_
        rw [HN.out]
        exact ⟨_, us, rfl, HO2.out, HB2.out⟩
    · rw [decide_eq_false hl] at HW
      have HN := Lib.hid (rowsR_no (A := A) (ns := ns) (fun h => hl h.2.1))
      clear ha hn qa hl
      go_enter Try.func35, Try.ntmps35
      go_wp2_with fail
      refine HR1.out.mono ?_
      rintro e w' ⟨rfl, rfl⟩
      go_wp2_with fail
      refine HW.out.mono ?_
      rintro e w' ⟨rfl, rfl⟩
      go_wp2_with fail
      refine Go.bodyPost_ret (Go.results_tmp2 rfl _ _ _) rfl ?_
      rw [HN.out]
      exact ⟨_, [], rfl, OwL.nil _ _, Below.refl _ _⟩
end Go.Proofs.Ytjojimmfjmchcaa
