/-
  The field of 256, told plainly: doubling, products by doubling and adding, powers of 2, logarithms; its laws.
-/
import Derived.WalkKit
namespace Go.Proofs.Ytjojimmfjmchcaa

abbrev G8 := BitVec 8
/-- Twice. -/
def dblG (a : G8) : G8 := (a <<< 1) ^^^ (if a.msb = true then 0x1D#8 else 0#8)
theorem xor_four (a b c d : G8) : (a ^^^ b) ^^^ (c ^^^ d) = (a ^^^ c) ^^^ (b ^^^ d) := by
  rw [BitVec.xor_assoc, BitVec.xor_assoc, ← BitVec.xor_assoc b c d, BitVec.xor_comm b c, BitVec.xor_assoc c b d]
theorem dbl_xor (a b : G8) : dblG (a ^^^ b) = dblG a ^^^ dblG b := by
  have hf : ∀ p q : Bool, (if (p ^^ q) = true then 0x1D#8 else 0#8) = (if p = true then 0x1D#8 else 0#8) ^^^ (if q = true then 0x1D#8 else 0#8) := by decide
  unfold dblG
  rw [BitVec.shiftLeft_xor_distrib, BitVec.msb_xor, hf, xor_four]
theorem dbl_zero : dblG 0#8 = 0#8 := by decide
/-- The product by the lowest n digits of b. -/
def mulL : Nat → G8 → G8 → G8
  | 0, _, _ => 0#8
  | n + 1, a, b => (if b.getLsbD 0 = true then a else 0#8) ^^^ mulL n (dblG a) (b >>> 1)
def mulG (a b : G8) : G8 := mulL 8 a b
theorem mulL_left : ∀ (n : Nat) (a c b : G8), mulL n (a ^^^ c) b = mulL n a b ^^^ mulL n c b
  | 0, _, _, _ => by simp [mulL]
  | n + 1, a, c, b => by
    rw [mulL, mulL, mulL, dbl_xor, mulL_left n, xor_four]
    congr 1
    split <;> simp
theorem mulL_right : ∀ (n : Nat) (a b c : G8), mulL n a (b ^^^ c) = mulL n a b ^^^ mulL n a c
  | 0, _, _, _ => by simp [mulL]
  | n + 1, a, b, c => by
    rw [mulL, mulL, mulL, BitVec.ushiftRight_xor_distrib, mulL_right n, xor_four]
    congr 1
    rw [BitVec.getLsbD_xor]
    cases b.getLsbD 0 <;> cases c.getLsbD 0 <;> simp
theorem mulL_dbl : ∀ (n : Nat) (a b : G8), mulL n (dblG a) b = dblG (mulL n a b)
  | 0, _, _ => by rw [mulL, mulL, dbl_zero]
  | n + 1, a, b => by
    rw [mulL, mulL, dbl_xor, mulL_dbl n]
    congr 1
    split
    · rfl
    · rw [dbl_zero]
theorem mul_left (a c b : G8) : mulG (a ^^^ c) b = mulG a b ^^^ mulG c b := mulL_left 8 a c b
theorem mul_right (a b c : G8) : mulG a (b ^^^ c) = mulG a b ^^^ mulG a c := mulL_right 8 a b c
theorem mul_dbl (a b : G8) : mulG (dblG a) b = dblG (mulG a b) := mulL_dbl 8 a b
theorem zero_mul (b : G8) : mulG 0#8 b = 0#8 := by
  have h := mul_left 0#8 0#8 b
  rw [BitVec.xor_self, BitVec.xor_self] at h
  exact h
theorem mul_zero (a : G8) : mulG a 0#8 = 0#8 := by
  have h := mul_right a 0#8 0#8
  rw [BitVec.xor_self, BitVec.xor_self] at h
  exact h
theorem all_eight {p : G8 → Prop} (h : ∀ i : Fin 256, p (BitVec.ofFin i)) (a : G8) : p a := h a.toFin
theorem one_mul (b : G8) : mulG 1#8 b = b := by
  refine all_eight (p := fun b => mulG 1#8 b = b) ?_ b
  decide +kernel
/-- Powers of 2. -/
def expG : Nat → G8
  | 0 => 1#8
  | n + 1 => dblG (expG n)
def dblN : Nat → G8 → G8
  | 0, b => b
  | n + 1, b => dblG (dblN n b)
theorem exp_mul : ∀ (n : Nat) (b : G8), mulG (expG n) b = dblN n b
  | 0, b => one_mul b
  | n + 1, b => by rw [expG, mul_dbl, exp_mul n, dblN]
theorem dblN_exp : ∀ (n m : Nat), dblN n (expG m) = expG (n + m)
  | 0, m => by rw [Nat.zero_add]; rfl
  | n + 1, m => by rw [dblN, dblN_exp n m, Nat.add_right_comm, expG]
theorem exp_add (n m : Nat) : mulG (expG n) (expG m) = expG (n + m) := by rw [exp_mul, dblN_exp]
def expL : Nat → G8 → List G8
  | 0, _ => []
  | n + 1, x => x :: expL n (dblG x)
theorem expL_at : ∀ (n m k : Nat), k < n → (expL n (expG m))[k]? = some (expG (m + k))
  | 0, _, _, h => by omega
  | n + 1, m, 0, _ => rfl
  | n + 1, m, k + 1, h => by
    rw [expL, List.getElem?_cons_succ]
    have h1 := expL_at n (m + 1) k (by omega)
    rw [expG] at h1
    rw [h1]
    congr 2
    omega
theorem expL_len : ∀ (n : Nat) (x : G8), (expL n x).length = n
  | 0, _ => rfl
  | n + 1, x => by rw [expL, List.length_cons, expL_len n]
theorem exp_all (a : G8) (h : a ≠ 0#8) : ∃ n, n < 255 ∧ expG n = a := by
  have h1 : ∀ a : G8, a = 0#8 ∨ a ∈ expL 255 1#8 := fun a => by
    refine all_eight (p := fun a => a = 0#8 ∨ a ∈ expL 255 1#8) ?_ a
    decide +kernel
  rcases h1 a with h2 | h2
  · exact absurd h2 h
  · obtain ⟨k, hk, he⟩ := List.getElem_of_mem h2
    rw [expL_len] at hk
    have h3 := expL_at 255 0 k hk
    rw [Nat.zero_add] at h3
    have h4 : (expL 255 1#8)[k]? = some a := by rw [← he]; exact List.getElem?_eq_getElem _
    exact ⟨k, hk, Option.some.inj (h3.symm.trans h4)⟩
theorem exp_nodup : (expL 255 1#8).Nodup := by decide +kernel
theorem exp_nodup0 : (expL 255 (expG 0)).Nodup := by
  have h : expG 0 = 1#8 := rfl
  rw [h]
  exact exp_nodup
theorem exp_round : expG 255 = 1#8 := by decide +kernel
theorem exp_more (n : Nat) : expG (n + 255) = expG n := by
  rw [← exp_add, exp_round, exp_mul]
  have h := dblN_exp n 0
  rw [Nat.add_zero] at h
  exact h
theorem exp_mod : ∀ n, expG n = expG (n % 255) := fun n => by
  induction n using Nat.strongRecOn with
  | ind n ih =>
    by_cases h : n < 255
    · rw [Nat.mod_eq_of_lt h]
    · have h1 := ih (n - 255) (by omega)
      have h2 := exp_more (n - 255)
      rw [show n - 255 + 255 = n by omega] at h2
      rw [h2, h1, show (n - 255) % 255 = n % 255 by omega]
theorem exp_ne (n : Nat) : expG n ≠ 0#8 := by
  rw [exp_mod]
  intro h
  have h1 := expL_at 255 0 (n % 255) (Nat.mod_lt _ (by omega))
  rw [Nat.zero_add, h] at h1
  have h2 : (0#8 : G8) ∉ expL 255 1#8 := by decide +kernel
  exact h2 (List.mem_of_getElem? h1)
theorem exp_inj {m n : Nat} (hm : m < 255) (hn : n < 255) (h : expG m = expG n) : m = n := by
  have h1 := expL_at 255 0 m hm
  have h2 := expL_at 255 0 n hn
  rw [Nat.zero_add] at h1 h2
  rw [h] at h1
  have hl : (expL 255 (expG 0)).length = 255 := expL_len _ _
  have h3 := exp_nodup0
  generalize expL 255 (expG 0) = l at *
  have h4 := List.pairwise_iff_getElem.1 h3
  have e1 := (List.getElem?_eq_some_iff.1 h1).2
  have e2 := (List.getElem?_eq_some_iff.1 h2).2
  rcases Nat.lt_trichotomy m n with hlt | hlt | hlt
  · exact absurd (e1.trans e2.symm) (h4 m n (by omega) (by omega) hlt)
  · exact hlt
  · exact absurd (e2.trans e1.symm) (h4 n m (by omega) (by omega) hlt)
theorem mul_comm (a b : G8) : mulG a b = mulG b a := by
  by_cases ha : a = 0#8
  · rw [ha, zero_mul, mul_zero]
  · by_cases hb : b = 0#8
    · rw [hb, zero_mul, mul_zero]
    · obtain ⟨n, _, rfl⟩ := exp_all a ha
      obtain ⟨m, _, rfl⟩ := exp_all b hb
      rw [exp_add, exp_add, Nat.add_comm]
theorem mul_assoc (a b c : G8) : mulG a (mulG b c) = mulG (mulG a b) c := by
  by_cases ha : a = 0#8
  · rw [ha, zero_mul, zero_mul, zero_mul]
  · by_cases hb : b = 0#8
    · rw [hb, zero_mul, mul_zero, zero_mul]
    · by_cases hc : c = 0#8
      · rw [hc, mul_zero, mul_zero, mul_zero]
      · obtain ⟨n, _, rfl⟩ := exp_all a ha
        obtain ⟨m, _, rfl⟩ := exp_all b hb
        obtain ⟨k, _, rfl⟩ := exp_all c hc
        rw [exp_add, exp_add, exp_add, exp_add, Nat.add_assoc]
theorem mul_one (a : G8) : mulG a 1#8 = a := by rw [mul_comm, one_mul]
theorem mul_ne {a b : G8} (ha : a ≠ 0#8) (hb : b ≠ 0#8) : mulG a b ≠ 0#8 := by
  obtain ⟨n, _, rfl⟩ := exp_all a ha
  obtain ⟨m, _, rfl⟩ := exp_all b hb
  rw [exp_add]
  exact exp_ne _
/-- The one with which it makes 1. -/
theorem inv_all {a : G8} (ha : a ≠ 0#8) : ∃ b, b ≠ 0#8 ∧ mulG a b = 1#8 := by
  obtain ⟨n, hn, rfl⟩ := exp_all a ha
  refine ⟨expG (255 - n), exp_ne _, ?_⟩
  rw [exp_add, show n + (255 - n) = 255 by omega, exp_round]
theorem inv_one {a b c : G8} (h : mulG a b = 1#8) (h2 : mulG a c = 1#8) : b = c := by
  have h3 : mulG b (mulG a c) = mulG (mulG b a) c := mul_assoc b a c
  rw [h2, mul_one, mul_comm b a, h, one_mul] at h3
  exact h3
/-- Powers. -/
def powG (a : G8) : Nat → G8
  | 0 => 1#8
  | n + 1 => mulG (powG a n) a
theorem pow_exp (m : Nat) : ∀ n, powG (expG m) n = expG (m * n)
  | 0 => rfl
  | n + 1 => by rw [powG, pow_exp m n, exp_add, Nat.mul_succ]
theorem pow_add {a : G8} : ∀ (m n : Nat), powG a (m + n) = mulG (powG a m) (powG a n)
  | m, 0 => by rw [Nat.add_zero, powG, mul_one]
  | m, n + 1 => by rw [← Nat.add_assoc, powG, pow_add m n, powG, mul_assoc]
theorem pow_mod {a : G8} (ha : a ≠ 0#8) (n : Nat) : powG a n = powG a (n % 255) := by
  obtain ⟨m, _, rfl⟩ := exp_all a ha
  rw [pow_exp, pow_exp, exp_mod, exp_mod (m * (n % 255)), show (m * n) % 255 = (m * (n % 255)) % 255 by rw [Nat.mul_mod, Nat.mul_mod m (n % 255), Nat.mod_mod]]
theorem pow_254 {a : G8} (ha : a ≠ 0#8) : mulG a (powG a 254) = 1#8 := by
  have h : mulG a (powG a 254) = powG a 255 := by rw [mul_comm]; rfl
  rw [h, pow_mod ha]
  rfl
end Go.Proofs.Ytjojimmfjmchcaa
