/-
  What GfInverts makes of the rows that are picked: their inverse, and the products.  The search for a free row, round and round.
-/
import Derived.Test.YtjojimmfjmchcaaGnV
namespace Go.Proofs.Ytjojimmfjmchcaa
open Go.RowKit

/-- The numbers as whole numbers. -/
def numZ (R : List Nat) : List Int := R.map fun i : Nat => (i : Int)
theorem numZ_len (R : List Nat) : (numZ R).length = R.length := by simp [numZ]
theorem numV_is (R : List Nat) : numV R = (numZ R).map (Value.int .i64) := by simp [numV, numZ]
theorem inR_nums {K : Nat} {R : List Nat} (h : ∀ a ∈ R, a < K) : inR K (numZ R) = true := by
  unfold inR
  refine List.all_eq_true.2 fun z hz => ?_
  obtain ⟨a, ha, rfl⟩ := List.mem_map.1 hz
  have := h a ha
  exact decide_eq_true ⟨by omega, by omega⟩
theorem rows_pick {k m : Nat} {R : List Nat} (hk : 1 ≤ k) (hK : k + m ≤ 255) (hlen : R.length = k) (hlt : ∀ a ∈ R, a < k + m) : rowsR (tabM (k + m) k (allF k)) (numZ R) = (tabM k k (pickF k R), 0) := by
  rw [rowsR_yes ⟨tab_right (by omega) hK hk (by omega) _, by rw [numZ_len]; omega, by rw [tabM_len]; exact inR_nums hlt⟩]
  rw [numZ_len, hlen, cols_tab (by omega)]
  congr 1
  refine tabM_congr fun i hi j hj => ?_
  obtain ⟨a, ha⟩ : ∃ a, R[i]? = some a := ⟨R[i]'(by omega), List.getElem?_eq_getElem (by omega)⟩
  have h1 : (numZ R).getD i 0 = (a : Int) := by
    rw [List.getD_eq_getElem?_getD]
    simp [numZ, ha]
  have h2 : R.getD i 0 = a := by rw [List.getD_eq_getElem?_getD, ha]; rfl
  have hal := hlt a (List.mem_of_getElem? ha)
  rw [h1]
  unfold pickF
  rw [h2, Int.toNat_natCast, ofL_tab hal hj]
theorem InvI.congr {n : Nat} {M M' X : MtF} (h : InvI n M X) (he : ∀ i, i < n → ∀ j, j < n → M i j = M' i j) : InvI n M' X := by
  refine ⟨fun i hi j hj => ?_, fun i hi j hj => ?_⟩
  · rw [← h.1 i hi j hj]
    exact dot_congr (fun _ _ => rfl) fun l hl => (he l hl j hj).symm
  · rw [← h.2 i hi j hj]
    exact dot_congr (fun l hl => (he i hi l hl).symm) fun _ _ => rfl
theorem inverse_pick {k m : Nat} {R : List Nat} (hk : 1 ≤ k) (hK : k + m ≤ 255) (hlen : R.length = k) (hnd : R.Nodup) (hlt : ∀ a ∈ R, a < k + m) : ∃ X, InvI k (pickF k R) X ∧ inverseR (tabM k k (pickF k R)) = (tabM k k X, 0) := by
  obtain ⟨X, hX⟩ := pick_inv hlen hnd hlt (by omega) (by omega)
  refine ⟨X, hX, ?_⟩
  have h := inverseR_yes (A := tabM k k (pickF k R)) (X := X) ⟨tab_right hk (by omega) hk (by omega) _, by rw [tabM_len, cols_tab hk]⟩ (by
    rw [tabM_len]
    exact hX.congr fun i hi j hj => (ofL_tab hi hj _).symm)
  rw [tabM_len] at h
  exact h
theorem times_inv {k : Nat} {M X : MtF} (hk : 1 ≤ k) (hk2 : k ≤ 255) (h : InvI k M X) : timesR (tabM k k M) (tabM k k X) = (tabM k k unitF, 0) ∧ timesR (tabM k k X) (tabM k k M) = (tabM k k unitF, 0) := by
  have go : ∀ (Y Z : MtF), (∀ i, i < k → ∀ j, j < k → prodF k Y Z i j = unitF i j) → timesR (tabM k k Y) (tabM k k Z) = (tabM k k unitF, 0) := by
    intro Y Z hYZ
    rw [timesR_yes ⟨tab_right hk hk2 hk hk2 _, tab_right hk hk2 hk hk2 _, by rw [cols_tab hk, tabM_len]⟩, tabM_len, tabM_len, cols_tab hk]
    congr 1
    refine tabM_congr fun i hi j hj => ?_
    rw [← hYZ i hi j hj]
    exact dot_congr (fun l hl => ofL_tab hi hl _) fun l hl => ofL_tab hl hj _
  exact ⟨go M X h.2, go X M h.1⟩
/-- How far it is from n on to j, round and round. -/
def distC (K n j : Nat) : Nat := if n ≤ j then j - n else j + K - n
theorem dist_next {K n j : Nat} (hn : n < K) (hj : j < K) (hne : n ≠ j) : distC K ((n + 1) % K) j < distC K n j := by
  have h : (n + 1) % K = if n + 1 = K then 0 else n + 1 := by
    split
    · rename_i h; rw [h, Nat.mod_self]
    · exact Nat.mod_eq_of_lt (by omega)
  rw [h]
  unfold distC
  split <;> split <;> split <;> omega
theorem tmod_next (n k m : Nat) : ((n : Int) + 1).tmod ((k : Int) + (m : Int)) = (((n + 1) % (k + m) : Nat) : Int) := by
  rw [Int.tmod_eq_emod_of_nonneg (by omega)]
  simp
theorem tmod_at {z : Int} (hz : 0 ≤ z) (k m : Nat) : z.tmod ((k : Int) + (m : Int)) = ((z.toNat % (k + m) : Nat) : Int) := by
  rw [Int.tmod_eq_emod_of_nonneg hz]
  simp [Int.toNat_of_nonneg hz]
theorem row_shp {w : World} {base s n : Nat} {e : TypeId} {v : Value} {xs : List Value} (h : w.ownsRow base e s v n xs) : ∃ p cap, v = .slice p n cap ∧ n ≤ cap := by
  rcases h.2 with ⟨rfl, h0⟩ | ⟨g, cap, cur, rfl, _, hg, h1, h2, _⟩
  · exact ⟨none, 0, by rw [h0], by omega⟩
  · exact ⟨_, cap, rfl, h1⟩
theorem IvS.start (w0 : World) (K : Nat) : IvS w0 (w0.alloc (.cells (usedA K []) 4)) K [] (.slice none 0 0) :=
  ⟨heap_alloc_new _ _, World.ownsRow_nil _ _ _ _, (fun b hb => by cases hb), bel_alloc _ _⟩
theorem IvS.cell {w0 wr : World} {K : Nat} {R : List Nat} {v : Value} (h : IvS w0 wr K R v) {n : Nat} (hn : n < K) : wr.cell? ⟨w0.heap.size, n, none⟩ = some (.bool (decide (n ∈ R))) ∧ wr.frozen? ⟨w0.heap.size, n, none⟩ = false :=
  ⟨cell_of h.used (usedA_at hn R), frozen_of h.used⟩
end Go.Proofs.Ytjojimmfjmchcaa
