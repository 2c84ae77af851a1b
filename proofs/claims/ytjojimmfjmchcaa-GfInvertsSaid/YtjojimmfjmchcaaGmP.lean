/-
  Matrices as lists of rows of bytes, told plainly: the matrix of a function's values, what is set in it, when a list of rows is one; sums of rows.
-/
import Derived.Test.YtjojimmfjmchcaaGfJ
import Derived.Test.YtjojimmfjmchcaaGfL
namespace Go.Proofs.Ytjojimmfjmchcaa

def rowM (c : Nat) (g : Nat → G8) : List UInt8 := (List.range c).map fun j => UInt8.ofBitVec (g j)
def tabM (r c : Nat) (f : MtF) : List (List UInt8) := (List.range r).map fun i => rowM c (f i)
def rowF (l : List UInt8) : Nat → G8 := fun j => (l.getD j 0).toBitVec
def ofL (rows : List (List UInt8)) : MtF := fun i => rowF (rows.getD i [])
theorem rowM_len (c : Nat) (g : Nat → G8) : (rowM c g).length = c := by simp [rowM]
theorem tabM_len (r c : Nat) (f : MtF) : (tabM r c f).length = r := by simp [tabM]
theorem rowM_at {c j : Nat} (h : j < c) (g : Nat → G8) : (rowM c g)[j]? = some (UInt8.ofBitVec (g j)) := by simp [rowM, h]
theorem rowM_getD {c j : Nat} (h : j < c) (g : Nat → G8) : (rowM c g).getD j 0 = UInt8.ofBitVec (g j) := by
  rw [List.getD_eq_getElem?_getD, rowM_at h]; rfl
theorem rowM_nat {c j : Nat} (h : j < c) (g : Nat → G8) : ((rowM c g).getD j 0).toNat = (g j).toNat := by rw [rowM_getD h]; rfl
theorem rowF_rowM {c j : Nat} (h : j < c) (g : Nat → G8) : rowF (rowM c g) j = g j := by unfold rowF; rw [rowM_getD h]
theorem tabM_at {r i : Nat} (h : i < r) (c : Nat) (f : MtF) : (tabM r c f)[i]? = some (rowM c (f i)) := by simp [tabM, h]
theorem rowM_congr {c : Nat} {g g' : Nat → G8} (h : ∀ j, j < c → g j = g' j) : rowM c g = rowM c g' := by
  unfold rowM
  refine List.map_congr_left fun j hj => ?_
  rw [h j (List.mem_range.1 hj)]
theorem tabM_congr {r c : Nat} {f f' : MtF} (h : ∀ i, i < r → ∀ j, j < c → f i j = f' i j) : tabM r c f = tabM r c f' := by
  unfold tabM
  refine List.map_congr_left fun i hi => ?_
  exact rowM_congr (h i (List.mem_range.1 hi))
theorem rowM_inj {c : Nat} {g g' : Nat → G8} (h : rowM c g = rowM c g') {j : Nat} (hj : j < c) : g j = g' j := by
  have := congrArg (fun l => l[j]?) h
  simp only [rowM_at hj] at this
  exact congrArg UInt8.toBitVec (Option.some.inj this)
theorem tabM_inj {r c : Nat} {f f' : MtF} (h : tabM r c f = tabM r c f') {i : Nat} (hi : i < r) {j : Nat} (hj : j < c) : f i j = f' i j := by
  have := congrArg (fun l => l[i]?) h
  simp only [tabM_at hi] at this
  exact rowM_inj (Option.some.inj this) hj
theorem ofL_tab {r c i j : Nat} (hi : i < r) (hj : j < c) (f : MtF) : ofL (tabM r c f) i j = f i j := by
  unfold ofL
  rw [List.getD_eq_getElem?_getD, tabM_at hi]
  exact rowF_rowM hj _
/-- One element is set. -/
def upF (g : Nat → G8) (j : Nat) (x : G8) : Nat → G8 := fun k => if k = j then x else g k
theorem rowM_set (c j : Nat) (g : Nat → G8) (x : UInt8) : (rowM c g).set j x = rowM c (upF g j x.toBitVec) := by
  refine List.ext_getElem? fun k => ?_
  by_cases hk : k < c
  · rw [rowM_at hk, List.getElem?_set]
    unfold upF
    by_cases h : j = k
    · subst h
      rw [if_pos rfl, if_pos rfl, rowM_len, if_pos hk]
    · rw [if_neg h, if_neg (fun e => h e.symm), rowM_at hk]
  · rw [List.getElem?_eq_none (by rw [List.length_set, rowM_len]; omega), List.getElem?_eq_none (by rw [rowM_len]; omega)]
def upR (f : MtF) (i : Nat) (g : Nat → G8) : MtF := fun k => if k = i then g else f k
theorem tabM_set (r c i : Nat) (f : MtF) (g : Nat → G8) : (tabM r c f).set i (rowM c g) = tabM r c (upR f i g) := by
  refine List.ext_getElem? fun k => ?_
  by_cases hk : k < r
  · rw [tabM_at hk, List.getElem?_set]
    unfold upR
    by_cases h : i = k
    · subst h
      rw [if_pos rfl, if_pos rfl, tabM_len, if_pos hk]
    · rw [if_neg h, if_neg (fun e => h e.symm), tabM_at hk]
  · rw [List.getElem?_eq_none (by rw [List.length_set, tabM_len]; omega), List.getElem?_eq_none (by rw [tabM_len]; omega)]
theorem row_of (l : List UInt8) : l = rowM l.length (rowF l) := by
  refine List.ext_getElem? fun k => ?_
  by_cases hk : k < l.length
  · rw [rowM_at hk]
    unfold rowF
    simp [hk]
  · rw [List.getElem?_eq_none (by omega), List.getElem?_eq_none (by rw [rowM_len]; omega)]
theorem tab_of {rows : List (List UInt8)} {c : Nat} (h : ∀ l ∈ rows, l.length = c) : rows = tabM rows.length c (ofL rows) := by
  refine List.ext_getElem? fun k => ?_
  by_cases hk : k < rows.length
  · rw [tabM_at hk]
    unfold ofL
    have h1 : rows[k]? = some rows[k] := List.getElem?_eq_getElem hk
    rw [List.getD_eq_getElem?_getD, h1]
    have h2 := h _ (List.getElem_mem hk)
    have h3 := row_of rows[k]
    rw [h2] at h3
    rw [h3]
    simp only [Option.getD_some]
    rw [← h3]
    rw [← h3]
  · rw [List.getElem?_eq_none (by omega), List.getElem?_eq_none (by rw [tabM_len]; omega)]
/-- The rows from the first n on are not there yet. -/
theorem tabM_front (r c n : Nat) (f : MtF) (h : n ≤ r) : (tabM r c f).take n = tabM n c f := by
  refine List.ext_getElem? fun k => ?_
  by_cases hk : k < n
  · rw [tabM_at hk, List.getElem?_take_of_lt hk, tabM_at (by omega)]
  · rw [List.getElem?_eq_none (by rw [List.length_take]; omega), List.getElem?_eq_none (by rw [tabM_len]; omega)]
theorem tabM_snoc (r c : Nat) (f : MtF) : tabM (r + 1) c f = tabM r c f ++ [rowM c (f r)] := by
  unfold tabM
  rw [List.range_succ, List.map_append]
  rfl

/-! ### what a matrix is -/
def rightL (rows : List (List UInt8)) : Bool := decide (1 ≤ rows.length ∧ rows.length ≤ 255) && (decide (1 ≤ (rows.getD 0 []).length ∧ (rows.getD 0 []).length ≤ 255) && rows.all fun l => decide (l.length = (rows.getD 0 []).length))
def colsL (rows : List (List UInt8)) : Nat := (rows.getD 0 []).length
theorem right_iff {rows : List (List UInt8)} : rightL rows = true ↔ (1 ≤ rows.length ∧ rows.length ≤ 255) ∧ (1 ≤ colsL rows ∧ colsL rows ≤ 255) ∧ ∀ l ∈ rows, l.length = colsL rows := by
  unfold rightL colsL
  simp only [Bool.and_eq_true, decide_eq_true_eq, List.all_eq_true]
theorem right_tab {rows : List (List UInt8)} (h : rightL rows = true) : rows = tabM rows.length (colsL rows) (ofL rows) := tab_of (right_iff.1 h).2.2
theorem cols_tab {r c : Nat} (h : 0 < r) (f : MtF) : colsL (tabM r c f) = c := by
  unfold colsL
  rw [List.getD_eq_getElem?_getD, tabM_at h]
  exact rowM_len _ _
theorem tab_right {r c : Nat} (h1 : 1 ≤ r) (h2 : r ≤ 255) (h3 : 1 ≤ c) (h4 : c ≤ 255) (f : MtF) : rightL (tabM r c f) = true := by
  refine right_iff.2 ⟨by rw [tabM_len]; omega, by rw [cols_tab h1]; omega, fun l hl => ?_⟩
  rw [cols_tab h1]
  obtain ⟨i, _, rfl⟩ := List.mem_map.1 hl
  exact rowM_len _ _
def zerF : MtF := fun _ _ => 0#8
def zeroR (n : Nat) : List UInt8 := rowM n fun _ => 0#8
theorem zeroR_rep (n : Nat) : zeroR n = List.replicate n 0 := by
  refine List.ext_getElem? fun k => ?_
  by_cases hk : k < n
  · unfold zeroR
    rw [rowM_at hk, List.getElem?_replicate, if_pos hk]
    rfl
  · rw [List.getElem?_eq_none (by unfold zeroR; rw [rowM_len]; omega), List.getElem?_eq_none (by rw [List.length_replicate]; omega)]
def cauF (c : Nat) : MtF := fun i j => invG (bvG (c + i) ^^^ bvG j)
theorem bv_ne {c i j : Nat} (h : c + i < 256) (hj : j < c) : bvG (c + i) ^^^ bvG j ≠ 0#8 := fun e => by
  have h1 := bv_inj (m := c + i) (n := j) h (by omega) (eq_of_xor e)
  omega
/-- The first k rows are there, the others are nil. -/
def frontM (r c : Nat) (f : MtF) (k : Nat) : List (List UInt8) := tabM k c f ++ List.replicate (r - k) []
theorem frontM_len {r k : Nat} (c : Nat) (f : MtF) (h : k ≤ r) : (frontM r c f k).length = r := by
  unfold frontM
  rw [List.length_append, tabM_len, List.length_replicate]
  omega
theorem frontM_zero (r c : Nat) (f : MtF) : frontM r c f 0 = List.replicate r [] := by
  unfold frontM
  rw [Nat.sub_zero]
  rfl
theorem frontM_all (r c : Nat) (f : MtF) : frontM r c f r = tabM r c f := by
  unfold frontM
  rw [Nat.sub_self]
  simp
theorem frontM_at {r k : Nat} (c : Nat) (f : MtF) (h : k < r) : (frontM r c f k)[k]? = some [] := by
  unfold frontM
  rw [List.getElem?_append_right (by rw [tabM_len]; exact Nat.le_refl _), tabM_len, Nat.sub_self, List.getElem?_replicate, if_pos (by omega)]
theorem frontM_set {r k : Nat} (c : Nat) (f : MtF) (h : k < r) : (frontM r c f k).set k (rowM c (f k)) = frontM r c f (k + 1) := by
  unfold frontM
  rw [List.set_append_right _ _ (by rw [tabM_len]; exact Nat.le_refl _), tabM_len, Nat.sub_self, tabM_snoc, show r - k = (r - (k + 1)) + 1 by omega, List.replicate_succ, List.set_cons_zero, List.append_assoc]
  rfl
end Go.Proofs.Ytjojimmfjmchcaa
