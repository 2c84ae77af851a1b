/-
  The walk over the reference's Inverse.
-/
import Derived.Test.YtjojimmfjmchcaaGnO
namespace Go.Proofs.Ytjojimmfjmchcaa
open Go.RowKit

theorem rscale_row (w : World) (G : Nat → Prop) (v u : Value) (us : List Value) (n c : Nat) (x : G8) (a : MtF) (h : OwL w G v us (tabM n n a)) (hc : c < n) (hu : us[c]? = some u) (hn : n ≤ 255) :
    Calls Try.prog 52 #[u, .int .u8 (x.toNat : Int)] w fun e w' => e = .returned (.tuple #[]) ∧ OwL w' G v us (tabM n n (scF c x a)) ∧ Fr G w w' := by
  have hou := h.own c u _ hu (tabM_at hc n a)
  obtain ⟨g, cp, rfl, hg1, _, _⟩ := own_form hou (by rw [rowM_len]; omega)
  rw [rowM_len] at hu hou ⊢
  refine (scale_any w g cp n x (a c) hou (by omega)).mono fun e w' ⟨he, ho, hf⟩ => ⟨he, ?_, hf.mono fun k _ e => by rw [e]; exact h.blks c _ g hu rfl⟩
  have h5 := h.rowTo hu rfl hf ho
  rw [tabM_set] at h5
  have e2 : tabM n n (scF c x a) = tabM n n (upR a c fun k => mulG (a c k) x) := tabM_congr fun i hi j hj => by
    unfold scF upR
    by_cases e : i = c
    · subst e
      rw [if_pos rfl, if_pos rfl, mul_comm]
    · rw [if_neg e, if_neg e]
  rw [e2]
  exact h5
theorem rmix_row (w : World) (G : Nat → Prop) (v u u' : Value) (us : List Value) (n i c : Nat) (y : G8) (a : MtF) (h : OwL w G v us (tabM n n a)) (hi : i < n) (hc : c < n) (hne : i ≠ c) (hu : us[i]? = some u) (hu' : us[c]? = some u') (hn : n ≤ 255) :
    Calls Try.prog 53 #[u, u', .int .u8 (y.toNat : Int)] w fun e w' => e = .returned (.tuple #[]) ∧ OwL w' G v us (tabM n n (addR a i c y)) ∧ Fr G w w' := by
  have hou := h.own i u _ hu (tabM_at hi n a)
  have hou' := h.own c u' _ hu' (tabM_at hc n a)
  obtain ⟨g, cp, rfl, hg1, _, _⟩ := own_form hou (by rw [rowM_len]; omega)
  obtain ⟨g', cp', rfl, hg1', _, hlt'⟩ := own_form hou' (by rw [rowM_len]; omega)
  rw [rowM_len] at hu hu' hou hou' hg1 hg1' ⊢
  rw [rowM_len] at *
  refine (mix_any w g cp n g' 0 cp' y (a c) (a i) hou hlt' hg1' (by omega) (fun j hj => by
    have hcc := (own_cell hou' (i := j) (by rw [rowM_len]; exact hj)).1
    rw [rowM_nat hj] at hcc
    rw [Nat.zero_add]
    exact hcc) (fun e => h.apart i c _ _ g hne hu hu' rfl (by rw [← e]; rfl))).mono fun e w' ⟨he, ho, hf⟩ => ⟨he, ?_, hf.mono fun k _ e => by rw [e]; exact h.blks i _ g hu rfl⟩
  have h5 := h.rowTo hu rfl hf ho
  rw [tabM_set] at h5
  have e2 : tabM n n (addR a i c y) = tabM n n (upR a i fun k => a i k ^^^ mulG (a c k) y) := tabM_congr fun q hq j hj => by
    unfold addR upR
    by_cases e : q = i
    · rw [if_pos e, if_pos e, mul_comm]
    · rw [if_neg e, if_neg e]
  rw [e2]
  exact h5
theorem mixF_nil {k c : Nat} (a b : MtF) (h : a k c = 0#8) : mixF (k + 1) c a b = mixF k c a b := by
  funext i j
  unfold mixF
  by_cases h1 : i < k ∧ i ≠ c
  · rw [if_pos h1, if_pos (by omega)]
  · rw [if_neg h1]
    by_cases h2 : i < k + 1 ∧ i ≠ c
    · have : i = k := by omega
      subst this
      rw [if_pos h2, h, zero_mul, BitVec.xor_zero]
    · rw [if_neg h2]
structure RiS (w : World) (GL GR : Nat → Prop) (ml mr n cl cr : Nat) (usl usr : List Value) (a o : MtF) : Prop where
  l : OwL w GL (.slice (some ⟨ml, 0, none⟩) n cl) usl (tabM n n a)
  r : OwL w GR (.slice (some ⟨mr, 0, none⟩) n cr) usr (tabM n n o)
  d : ∀ k, GL k → ¬ GR k
theorem RiS.below {w w' : World} {GL GR : Nat → Prop} {ml mr n cl cr : Nat} {usl usr : List Value} {a o : MtF} (h : RiS w GL GR ml mr n cl cr usl usr a o) (hb : Below w.heap.size w w') : RiS w' GL GR ml mr n cl cr usl usr a o := ⟨h.l.below hb, h.r.below hb, h.d⟩
theorem RiS.left {w w' : World} {GL GR : Nat → Prop} {ml mr n cl cr : Nat} {usl usl' usr : List Value} {a a' o : MtF} (h : RiS w GL GR ml mr n cl cr usl usr a o) (hl : OwL w' GL (.slice (some ⟨ml, 0, none⟩) n cl) usl' (tabM n n a')) (hf : Fr GL w w') : RiS w' GL GR ml mr n cl cr usl' usr a' o :=
  ⟨hl, h.r.step hf fun k _ h1 h2 => h.d k h2 h1, h.d⟩
theorem RiS.right {w w' : World} {GL GR : Nat → Prop} {ml mr n cl cr : Nat} {usl usr usr' : List Value} {a o o' : MtF} (h : RiS w GL GR ml mr n cl cr usl usr a o) (hr : OwL w' GR (.slice (some ⟨mr, 0, none⟩) n cr) usr' (tabM n n o')) (hf : Fr GR w w') : RiS w' GL GR ml mr n cl cr usl usr' a o' :=
  ⟨h.l.step hf fun k _ h1 h2 => h.d k h1 h2, hr, h.d⟩
/-- A row of a matrix of one's own: its slice, its place, one of its bytes. -/
theorem OwL.rowAt {w : World} {G : Nat → Prop} {mb n cap i : Nat} {us : List Value} {a : MtF} (h : OwL w G (.slice (some ⟨mb, 0, none⟩) n cap) us (tabM n n a)) (hi : i < n) (h0 : 0 < n) :
    ∃ g c, us[i]? = some (.slice (some ⟨g, 0, none⟩) n c) ∧ w.cell? ⟨mb, i, none⟩ = some (.slice (some ⟨g, 0, none⟩) n c) ∧ w.frozen? ⟨mb, i, none⟩ = false ∧ ∀ j, j < n → w.cell? ⟨g, j, none⟩ = some (.int .u8 ((a i j).toNat : Int)) := by
  obtain ⟨mb', cap', u, hv, _, _, _, _, hu, k1, f1, hou⟩ := h.at_ (tabM_at hi n a)
  obtain ⟨rfl, _⟩ : mb = mb' ∧ True := by
    simp only [Value.slice.injEq, Option.some.injEq, Addr.mk.injEq] at hv
    exact ⟨hv.1.1, trivial⟩
  obtain ⟨g, cp, rfl, hg1, _, _⟩ := own_form hou (by rw [rowM_len]; omega)
  refine ⟨g, cp, by rw [rowM_len] at hu; exact hu, by rw [rowM_len] at k1; exact k1, f1, fun j hj => ?_⟩
  have hc := (own_cell hou (i := j) (by rw [rowM_len]; exact hj)).1
  rw [rowM_nat hj] at hc
  exact hc
theorem swF_same (c : Nat) (a : MtF) : swF c c a = a := by
  funext i
  unfold swF
  by_cases h : i = c
  · rw [if_pos h, h]
  · rw [if_neg h, if_neg h]
end Go.Proofs.Ytjojimmfjmchcaa
