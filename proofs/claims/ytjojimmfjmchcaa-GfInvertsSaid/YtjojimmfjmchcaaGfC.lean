/-
  The field of 256, told plainly: a square part of a Cauchy matrix takes nothing but noughts to noughts.
-/
import Derived.Test.YtjojimmfjmchcaaGfP
namespace Go.Proofs.Ytjojimmfjmchcaa

def invG (a : G8) : G8 := powG a 254
theorem inv_mul {a : G8} (h : a ≠ 0#8) : mulG a (invG a) = 1#8 := pow_254 h
theorem xor_ne {a b : G8} (h : a ≠ b) : a ^^^ b ≠ 0#8 := fun e => h (by
  have h1 : (a ^^^ b) ^^^ b = b := by rw [e, BitVec.zero_xor]
  rwa [BitVec.xor_assoc, BitVec.xor_self, BitVec.xor_zero] at h1)
theorem eq_of_xor {a b : G8} (h : a ^^^ b = 0#8) : a = b := Classical.byContradiction fun e => xor_ne e h
theorem mul_zero_of {a b : G8} (h : mulG a b = 0#8) (ha : a ≠ 0#8) : b = 0#8 := Classical.byContradiction fun e => mul_ne ha e h
theorem mul_cancel {c a b : G8} (hc : c ≠ 0#8) (h : mulG c a = mulG c b) : a = b := by
  refine eq_of_xor (mul_zero_of (a := c) ?_ hc)
  rw [mul_right, h, BitVec.xor_self]
theorem mul_swap (a b c : G8) : mulG a (mulG b c) = mulG b (mulG a c) := by rw [mul_assoc, mul_comm a b, ← mul_assoc]
theorem cau_id {a a1 b b1 : G8} (h : a ≠ b) (h1 : a1 ≠ b) : mulG (a ^^^ b1) (invG (a ^^^ b)) ^^^ mulG (a1 ^^^ b1) (invG (a1 ^^^ b)) = mulG (a ^^^ a1) (mulG (mulG (b ^^^ b1) (invG (a1 ^^^ b))) (invG (a ^^^ b))) := by
  have hx := xor_ne h
  have hy := xor_ne h1
  have ix := inv_mul hx
  have iy := inv_mul hy
  generalize hX : a ^^^ b = x at *
  generalize hY : a1 ^^^ b = y at *
  refine mul_cancel hx (mul_cancel hy ?_)
  have hl : mulG y (mulG x (mulG (a ^^^ b1) (invG x) ^^^ mulG (a1 ^^^ b1) (invG y))) = mulG (a ^^^ b1) y ^^^ mulG (a1 ^^^ b1) x := by
    rw [mul_right x, mul_right y, mul_swap x (a ^^^ b1), ix, mul_one, mul_comm y, mul_swap x (a1 ^^^ b1), mul_swap y (a1 ^^^ b1), mul_swap y x, iy, mul_one]
  have hr : mulG y (mulG x (mulG (a ^^^ a1) (mulG (mulG (b ^^^ b1) (invG y)) (invG x)))) = mulG (a ^^^ a1) (b ^^^ b1) := by
    rw [mul_swap x (a ^^^ a1), mul_swap x (mulG (b ^^^ b1) (invG y)), ix, mul_one, mul_swap y (a ^^^ a1), mul_swap y (b ^^^ b1), iy, mul_one]
  rw [hl, hr, ← hX, ← hY]
  simp only [mul_left, mul_right]
  rw [mul_comm a1 a, mul_comm b1 a1, mul_comm b1 b, mul_comm b1 a, mul_comm a1 b]
  generalize mulG a a1 = p1
  generalize mulG a b = p2
  generalize mulG a1 b1 = p3
  generalize mulG b b1 = p4
  generalize mulG b a1 = p5
  generalize mulG a b1 = p6
  refine BitVec.eq_of_getLsbD_eq fun i _ => ?_
  simp only [BitVec.getLsbD_xor]
  cases p1.getLsbD i <;> cases p2.getLsbD i <;> cases p3.getLsbD i <;> cases p4.getLsbD i <;> cases p5.getLsbD i <;> cases p6.getLsbD i <;> rfl
/-- A row of a Cauchy matrix (its element a, the columns' elements b) times x. -/
def sumC (a : G8) : List (G8 × G8) → G8
  | [] => 0#8
  | p :: r => mulG p.2 (invG (a ^^^ p.1)) ^^^ sumC a r
def lessC (a1 b1 : G8) (r : List (G8 × G8)) : List (G8 × G8) := r.map fun p => (p.1, mulG p.2 (mulG (p.1 ^^^ b1) (invG (a1 ^^^ p.1))))
theorem sum_less (a a1 b1 : G8) : ∀ r : List (G8 × G8), (∀ p ∈ r, a ≠ p.1) → (∀ p ∈ r, a1 ≠ p.1) →
    mulG (a ^^^ b1) (sumC a r) ^^^ mulG (a1 ^^^ b1) (sumC a1 r) = mulG (a ^^^ a1) (sumC a (lessC a1 b1 r))
  | [], _, _ => by
    show mulG _ 0#8 ^^^ mulG _ 0#8 = mulG _ 0#8
    rw [mul_zero, mul_zero, mul_zero, BitVec.xor_zero]
  | p :: r, h, h1 => by
    have ih := sum_less a a1 b1 r (fun q hq => h q (.tail _ hq)) (fun q hq => h1 q (.tail _ hq))
    have hi := cau_id (b1 := b1) (h p (.head _)) (h1 p (.head _))
    show mulG _ (mulG p.2 _ ^^^ sumC a r) ^^^ mulG _ (mulG p.2 _ ^^^ sumC a1 r) = mulG _ (mulG (mulG p.2 (mulG (p.1 ^^^ b1) (invG (a1 ^^^ p.1)))) (invG (a ^^^ p.1)) ^^^ sumC a (lessC a1 b1 r))
    rw [mul_right, mul_right, mul_right, xor_four, ih, mul_swap (a ^^^ b1), mul_swap (a1 ^^^ b1), ← mul_right, hi, mul_swap p.2, ← mul_assoc p.2]
theorem inv_ne {a : G8} (h : a ≠ 0#8) : invG a ≠ 0#8 := fun e => by
  have h1 := inv_mul h
  rw [e, mul_zero] at h1
  exact absurd h1 (by decide)
theorem sum_none (a : G8) : ∀ r : List (G8 × G8), (∀ q ∈ r, q.2 = 0#8) → sumC a r = 0#8
  | [], _ => rfl
  | p :: r, h => by
    rw [sumC, h p (.head _), zero_mul, sum_none a r fun q hq => h q (.tail _ hq), BitVec.xor_zero]
theorem cauchy_zero : ∀ (n : Nat) (l : List (G8 × G8)) (as : List G8), l.length = n → l.length ≤ as.length → as.Nodup → (l.map Prod.fst).Nodup → (∀ a ∈ as, ∀ p ∈ l, a ≠ p.1) → (∀ a ∈ as, sumC a l = 0#8) → ∀ p ∈ l, p.2 = 0#8
  | 0, l, _, hn, _, _, _, _, _, p, hp => by
    rw [List.eq_nil_of_length_eq_zero hn] at hp
    cases hp
  | n + 1, [], _, hn, _, _, _, _, _, _, _ => by simp at hn
  | n + 1, (b1, x1) :: r, [], _, hl, _, _, _, _, _, _ => by simp at hl
  | n + 1, (b1, x1) :: r, a1 :: as, hn, hl, hd, hb, hne, hz, p, hp => by
    have hd' := List.nodup_cons.1 hd
    have hb' := List.nodup_cons.1 (show (b1 :: r.map Prod.fst).Nodup from hb)
    have hfac : ∀ a ∈ a1 :: as, x1 = mulG (a ^^^ b1) (sumC a r) := fun a ha => by
      have h1 : mulG x1 (invG (a ^^^ b1)) ^^^ sumC a r = 0#8 := hz a ha
      have h2 := xor_ne (hne a ha (b1, x1) (.head _))
      have h3 : mulG x1 (invG (a ^^^ b1)) = sumC a r := eq_of_xor h1
      rw [← h3, mul_swap, inv_mul h2, mul_one]
    have hr : ∀ q ∈ lessC a1 b1 r, q.2 = 0#8 := by
      refine cauchy_zero n (lessC a1 b1 r) as (by simp [lessC] at hn ⊢; omega) (by simp [lessC] at hl ⊢; omega) hd'.2 (by
        have : (lessC a1 b1 r).map Prod.fst = r.map Prod.fst := by unfold lessC; rw [List.map_map]; rfl
        rw [this]; exact hb'.2) (fun a ha q hq => by
        obtain ⟨q', hq', rfl⟩ := List.mem_map.1 hq
        exact hne a (.tail _ ha) q' (.tail _ hq')) (fun a ha => ?_)
      have h1 := sum_less a a1 b1 r (fun q hq => hne a (.tail _ ha) q (.tail _ hq)) (fun q hq => hne a1 (.head _) q (.tail _ hq))
      rw [← hfac a (.tail _ ha), ← hfac a1 (.head _), BitVec.xor_self] at h1
      exact mul_zero_of h1.symm (xor_ne fun e => hd'.1 (by rw [← e]; exact ha))
    have hr2 : ∀ q ∈ r, q.2 = 0#8 := fun q hq => by
      have h1 : mulG q.2 (mulG (q.1 ^^^ b1) (invG (a1 ^^^ q.1))) = 0#8 := hr _ (List.mem_map_of_mem hq)
      have h2 : q.1 ^^^ b1 ≠ 0#8 := xor_ne fun e => hb'.1 (by rw [← e]; exact List.mem_map_of_mem hq)
      have h3 := inv_ne (xor_ne (hne a1 (.head _) q (.tail _ hq)))
      rw [mul_comm] at h1
      exact mul_zero_of h1 (mul_ne h2 h3)
    rcases List.mem_cons.1 hp with rfl | hp
    · show x1 = 0#8
      rw [hfac a1 (.head _), sum_none a1 r hr2, mul_zero]
    · exact hr2 p hp
end Go.Proofs.Ytjojimmfjmchcaa
