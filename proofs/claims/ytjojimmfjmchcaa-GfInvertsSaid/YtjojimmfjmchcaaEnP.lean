/-
  Versions of keys, told plainly: their order, a list in order, what is put, what is newest, what is seen. Lists and numbers alone.
-/
import Derived.WideAt
import Derived.WideShapes
import Derived.Sort.Walk0
namespace Go.Proofs.Ytjojimmfjmchcaa

structure Ent where
  key : List UInt8
  seq : Nat
  gone : Bool
  val : List UInt8
instance : Inhabited Ent := ⟨⟨[], 0, false, []⟩⟩
theorem Ent.ext' {a b : Ent} (h1 : a.key = b.key) (h2 : a.seq = b.seq) (h3 : a.gone = b.gone) (h4 : a.val = b.val) : a = b := by
  cases a; cases b; simp_all

/-! ### bytes compared -/
def lessB (a b : List UInt8) : Bool := Op.bytesLess a b
theorem lessB_before : ∀ (a b : List UInt8), Op.bytesLess a b = bytesBefore a b
  | [], [] => rfl
  | [], _ :: _ => rfl
  | _ :: _, [] => rfl
  | x :: r, y :: s => by
    have ih := lessB_before r s
    simp only [Op.bytesLess, bytesBefore, ih]
theorem lessB_irrefl (a : List UInt8) : Op.bytesLess a a = false := by rw [lessB_before]; exact Go.WideAt.bytes_irrefl a
theorem lessB_total {a b : List UInt8} (h : a ≠ b) : Op.bytesLess a b = true ∨ Op.bytesLess b a = true := by rw [lessB_before, lessB_before]; exact Go.WideAt.bytes_total a b h
theorem lessB_trans {a b c : List UInt8} (h1 : Op.bytesLess a b = true) (h2 : Op.bytesLess b c = true) : Op.bytesLess a c = true := by
  rw [lessB_before] at h1 h2 ⊢; exact Go.WideShapes.bytes_trans _ _ _ h1 h2
theorem lessB_ne {a b : List UInt8} (h : Op.bytesLess a b = true) : a ≠ b := by
  rintro rfl; rw [lessB_irrefl] at h; cases h
theorem lessB_asymm {a b : List UInt8} (h : Op.bytesLess a b = true) : Op.bytesLess b a = false := by
  rcases e : Op.bytesLess b a with _ | _
  · rfl
  · have := lessB_trans h e
    rw [lessB_irrefl] at this; cases this
theorem lessB_eq {a b : List UInt8} (h1 : Op.bytesLess a b = false) (h2 : Op.bytesLess b a = false) : a = b := by
  rcases Classical.em (a = b) with h | h
  · exact h
  · rcases lessB_total h with h | h
    · rw [h] at h1; cases h1
    · rw [h] at h2; cases h2

/-! ### versions compared -/
def lessE (a b : Ent) : Bool := Op.bytesLess a.key b.key || (a.key == b.key && decide (b.seq < a.seq))
/-- One place: the same key, the same number. -/
def atE (a b : Ent) : Bool := a.key == b.key && a.seq == b.seq
def cmpE (a b : Ent) : Int := if lessE a b = true then -1 else if atE a b = true then 0 else 1
theorem lessE_iff {a b : Ent} : lessE a b = true ↔ Op.bytesLess a.key b.key = true ∨ (a.key = b.key ∧ b.seq < a.seq) := by simp [lessE]
theorem atE_iff {a b : Ent} : atE a b = true ↔ a.key = b.key ∧ a.seq = b.seq := by simp [atE]
theorem atE_refl (a : Ent) : atE a a = true := atE_iff.2 ⟨rfl, rfl⟩
theorem atE_symm {a b : Ent} (h : atE a b = true) : atE b a = true := atE_iff.2 ⟨(atE_iff.1 h).1.symm, (atE_iff.1 h).2.symm⟩
theorem atE_trans {a b c : Ent} (h : atE a b = true) (h2 : atE b c = true) : atE a c = true := atE_iff.2 ⟨(atE_iff.1 h).1.trans (atE_iff.1 h2).1, (atE_iff.1 h).2.trans (atE_iff.1 h2).2⟩
theorem lessE_irrefl (a : Ent) : lessE a a = false := by
  rcases e : lessE a a with _ | _
  · rfl
  · rcases lessE_iff.1 e with h | ⟨_, h⟩
    · rw [lessB_irrefl] at h; cases h
    · omega
theorem lessE_trans {a b c : Ent} (h1 : lessE a b = true) (h2 : lessE b c = true) : lessE a c = true := by
  rw [lessE_iff] at h1 h2 ⊢
  rcases h1 with h1 | ⟨h1, g1⟩
  · rcases h2 with h2 | ⟨h2, g2⟩
    · exact .inl (lessB_trans h1 h2)
    · exact .inl (h2 ▸ h1)
  · rcases h2 with h2 | ⟨h2, g2⟩
    · exact .inl (h1 ▸ h2)
    · exact .inr ⟨h1.trans h2, by omega⟩
theorem lessE_total {a b : Ent} (h : lessE a b = false) (h2 : atE a b = false) : lessE b a = true := by
  rw [lessE_iff]
  have h3 : ¬ (Op.bytesLess a.key b.key = true ∨ (a.key = b.key ∧ b.seq < a.seq)) := fun hh => by rw [lessE_iff.2 hh] at h; cases h
  have h4 : ¬ (a.key = b.key ∧ a.seq = b.seq) := fun hh => by rw [atE_iff.2 hh] at h2; cases h2
  rcases Classical.em (a.key = b.key) with e | e
  · exact .inr ⟨e.symm, by
      have : ¬ b.seq < a.seq := fun hh => h3 (.inr ⟨e, hh⟩)
      have : a.seq ≠ b.seq := fun hh => h4 ⟨e, hh⟩
      omega⟩
  · rcases lessB_total e with h | h
    · exact absurd (.inl h) h3
    · exact .inl h
theorem lessE_not_at {a b : Ent} (h : lessE a b = true) : atE a b = false := by
  rcases e : atE a b with _ | _
  · rfl
  · obtain ⟨h1, h2⟩ := atE_iff.1 e
    rcases lessE_iff.1 h with h | ⟨_, h⟩
    · exact absurd h1 (lessB_ne h)
    · omega
theorem lessE_asymm {a b : Ent} (h : lessE a b = true) : lessE b a = false := by
  rcases e : lessE b a with _ | _
  · rfl
  · have := lessE_trans h e
    rw [lessE_irrefl] at this; cases this
theorem lessE_at_left {a b c : Ent} (h : atE a b = true) : lessE a c = lessE b c := by
  obtain ⟨h1, h2⟩ := atE_iff.1 h
  simp only [lessE, h1, h2]
theorem lessE_at_right {a b c : Ent} (h : atE a b = true) : lessE c a = lessE c b := by
  obtain ⟨h1, h2⟩ := atE_iff.1 h
  simp only [lessE, h1, h2]
theorem cmpE_neg {a b : Ent} : cmpE a b < 0 ↔ lessE a b = true := by
  unfold cmpE; split
  · simp_all
  · rename_i h
    split <;> simp_all
theorem cmpE_zero {a b : Ent} : cmpE a b = 0 ↔ atE a b = true := by
  unfold cmpE
  by_cases h : lessE a b = true
  · rw [if_pos h]
    simp [lessE_not_at h]
  · rw [if_neg h]
    split <;> simp_all
theorem cmpE_ge {a b : Ent} : 0 ≤ cmpE a b ↔ lessE a b = false := by
  have := @cmpE_neg a b
  cases h : lessE a b <;> simp_all <;> omega
/-- The five ways of a comparison, as the tests tell them. -/
theorem cmpE_ways (a b : Ent) :
    (Op.bytesLess a.key b.key = true ∧ cmpE a b = -1) ∨
    (Op.bytesLess a.key b.key = false ∧ (a.key == b.key) = false ∧ cmpE a b = 1) ∨
    (Op.bytesLess a.key b.key = false ∧ (a.key == b.key) = true ∧ b.seq < a.seq ∧ cmpE a b = -1) ∨
    (Op.bytesLess a.key b.key = false ∧ (a.key == b.key) = true ∧ ¬ b.seq < a.seq ∧ a.seq < b.seq ∧ cmpE a b = 1) ∨
    (Op.bytesLess a.key b.key = false ∧ (a.key == b.key) = true ∧ ¬ b.seq < a.seq ∧ ¬ a.seq < b.seq ∧ cmpE a b = 0) := by
  rcases h1 : Op.bytesLess a.key b.key with _ | _
  · rcases h2 : (a.key == b.key) with _ | _
    · refine .inr (.inl ⟨rfl, rfl, ?_⟩)
      simp [cmpE, lessE, atE, h1, h2]
    · by_cases h3 : b.seq < a.seq
      · refine .inr (.inr (.inl ⟨rfl, rfl, h3, ?_⟩))
        simp [cmpE, lessE, h1, h2, h3]
      · by_cases h4 : a.seq < b.seq
        · refine .inr (.inr (.inr (.inl ⟨rfl, rfl, h3, h4, ?_⟩)))
          have : a.seq ≠ b.seq := by omega
          simp [cmpE, lessE, atE, h1, h2, h3, this]
        · refine .inr (.inr (.inr (.inr ⟨rfl, rfl, h3, h4, ?_⟩)))
          have : a.seq = b.seq := by omega
          simp [cmpE, lessE, atE, h1, h2, this]
  · exact .inl ⟨rfl, by simp [cmpE, lessE, h1]⟩

/-! ### the same versions -/
def sameE (a b : Ent) : Bool := a.key == b.key && a.seq == b.seq && a.gone == b.gone && a.val == b.val
theorem sameE_iff {a b : Ent} : sameE a b = true ↔ a = b := by
  simp only [sameE, Bool.and_eq_true, beq_iff_eq]
  exact ⟨fun ⟨⟨⟨h1, h2⟩, h3⟩, h4⟩ => Ent.ext' h1 h2 h3 h4, fun h => by subst h; exact ⟨⟨⟨rfl, rfl⟩, rfl⟩, rfl⟩⟩
theorem sameE_refl (a : Ent) : sameE a a = true := sameE_iff.2 rfl
def sameL : List Ent → List Ent → Bool
  | [], [] => true
  | a :: r, b :: s => sameE a b && sameL r s
  | _, _ => false
theorem sameL_iff : ∀ {a b : List Ent}, sameL a b = true ↔ a = b
  | [], [] => by simp [sameL]
  | [], _ :: _ => by simp [sameL]
  | _ :: _, [] => by simp [sameL]
  | a :: r, b :: s => by
    have ih := @sameL_iff r s
    simp only [sameL, Bool.and_eq_true, sameE_iff, ih, List.cons.injEq]

/-! ### what is few -/
def bulkE (l : List Ent) : Nat := (l.map fun e => e.key.length + e.val.length).sum
theorem bulkE_snoc (l : List Ent) (k : Nat) (h : k < l.length) : bulkE (l.take (k + 1)) = bulkE (l.take k) + (l[k].key.length + l[k].val.length) := by
  unfold bulkE
  rw [List.take_add_one, List.getElem?_eq_getElem h, List.map_append, List.sum_append]
  simp
theorem bulkE_take (l : List Ent) (k : Nat) : bulkE (l.take k) ≤ bulkE l := by
  have h : bulkE l = bulkE (l.take k) + bulkE (l.drop k) := by
    unfold bulkE
    rw [← List.sum_append, ← List.map_append, List.take_append_drop]
  omega
def fewE (l : List Ent) (most : Int) : Bool := decide ((l.length : Int) ≤ most) && decide (bulkE l ≤ 131072)

/-- A version's sizes are in reach. -/
structure FitE (e : Ent) : Prop where
  seq : e.seq < 18446744073709551616
  key : e.key.length ≤ 1099511627776
  val : e.val.length ≤ 1099511627776
theorem bulkE_fit : ∀ (l : List Ent), (∀ e ∈ l, FitE e) → bulkE l ≤ l.length * 2199023255552
  | [], _ => by simp [bulkE]
  | e :: r, h => by
    have h1 := bulkE_fit r fun y hy => h y (by simp [hy])
    have h2 := h e (by simp)
    have := h2.key
    have := h2.val
    have e1 : bulkE (e :: r) = e.key.length + e.val.length + bulkE r := by simp [bulkE]
    rw [e1, List.length_cons, Nat.add_mul]
    omega

/-! ### lists in order -/
def SrtE (l : List Ent) : Prop := l.Pairwise fun a b => lessE a b = true
def oneE (e : Ent) : Bool := !(e.gone && decide (0 < e.val.length))
def rightE : List Ent → Bool
  | [] => true
  | [e] => oneE e
  | e :: f :: r => oneE e && lessE e f && rightE (f :: r)
theorem rightE_iff : ∀ {l : List Ent}, rightE l = true ↔ (∀ e ∈ l, oneE e = true) ∧ SrtE l
  | [] => by simp [rightE, SrtE]
  | [e] => by simp [rightE, SrtE]
  | e :: f :: r => by
    have ih := @rightE_iff (f :: r)
    simp only [rightE, Bool.and_eq_true, ih]
    constructor
    · rintro ⟨⟨h1, h2⟩, h3, h4⟩
      refine ⟨fun x hx => (List.mem_cons.1 hx).elim (fun h => h ▸ h1) (h3 x), List.pairwise_cons.2 ⟨fun x hx => ?_, h4⟩⟩
      rcases List.mem_cons.1 hx with rfl | hx
      · exact h2
      · exact lessE_trans h2 ((List.pairwise_cons.1 h4).1 x hx)
    · rintro ⟨h1, h2⟩
      exact ⟨⟨h1 e (by simp), (List.pairwise_cons.1 h2).1 f (by simp)⟩, fun x hx => h1 x (by simp [hx]), (List.pairwise_cons.1 h2).2⟩
/-- In order, told by places. -/
theorem rightE_at {l : List Ent} : rightE l = true ↔ ∀ k, (h : k < l.length) → oneE l[k] = true ∧ (0 < k → lessE (l[k - 1]'(by omega)) l[k] = true) := by
  rw [rightE_iff]
  constructor
  · rintro ⟨h1, h2⟩ k hk
    refine ⟨h1 _ (List.getElem_mem hk), fun h0 => List.pairwise_iff_getElem.1 h2 (k - 1) k (by omega) hk (by omega)⟩
  · intro h
    refine ⟨fun e he => ?_, List.pairwise_iff_getElem.2 ?_⟩
    · obtain ⟨k, hk, rfl⟩ := List.getElem_of_mem he
      exact (h k hk).1
    · intro i j hi hj hij
      induction j with
      | zero => omega
      | succ j ih =>
        have h1 := (h (j + 1) hj).2 (by omega)
        simp only [Nat.add_sub_cancel] at h1
        rcases Nat.lt_or_ge i j with hlt | hge
        · exact lessE_trans (ih (by omega) hlt) h1
        · obtain rfl : i = j := by omega
          exact h1
theorem srt_at {l : List Ent} (h : SrtE l) {i j : Nat} (hj : j < l.length) (hij : i < j) : lessE (l[i]'(by omega)) l[j] = true := List.pairwise_iff_getElem.1 h i j (by omega) hj hij

/-! ### the place of a version, of a key -/
def plcE (e : Ent) (l : List Ent) : Nat := (l.takeWhile fun f => lessE f e).length
def fromE (k : List UInt8) (l : List Ent) : Nat := (l.takeWhile fun f => Op.bytesLess f.key k).length
theorem takeWhile_is {α : Type} (p : α → Bool) : ∀ (l : List α) (k : Nat), k ≤ l.length → (∀ j f, j < k → l[j]? = some f → p f = true) → (∀ f, l[k]? = some f → p f = false) → (l.takeWhile p).length = k
  | [], k, hk, _, _ => by simp at hk; simp [hk]
  | g :: r, 0, _, _, h2 => by
    rw [List.takeWhile_cons, if_neg (by rw [h2 g rfl]; simp)]; rfl
  | g :: r, k + 1, hk, h1, h2 => by
    have := takeWhile_is p r k (by simpa using hk) (fun j f hj hf => h1 (j + 1) f (by omega) (by simpa using hf)) (fun f hf => h2 f (by simpa using hf))
    rw [List.takeWhile_cons, if_pos (h1 0 g (by omega) rfl), List.length_cons, this]
theorem takeWhile_le {α : Type} (p : α → Bool) (l : List α) : (l.takeWhile p).length ≤ l.length := by
  induction l with
  | nil => simp
  | cons g r ih => rw [List.takeWhile_cons]; split <;> simp <;> omega
theorem takeWhile_lo {α : Type} (p : α → Bool) : ∀ (l : List α) (j : Nat) (f : α), j < (l.takeWhile p).length → l[j]? = some f → p f = true
  | [], _, _, h, _ => by simp at h
  | g :: r, j, f, h, hf => by
    rw [List.takeWhile_cons] at h
    by_cases hg : p g = true
    · rw [if_pos hg] at h
      cases j with
      | zero => obtain rfl : g = f := by simpa using hf
                exact hg
      | succ j => exact takeWhile_lo p r j f (by simpa using h) (by simpa using hf)
    · rw [if_neg hg] at h; simp at h
theorem takeWhile_hi {α : Type} (p : α → Bool) : ∀ (l : List α) (f : α), l[(l.takeWhile p).length]? = some f → p f = false
  | [], _, h => by simp at h
  | g :: r, f, h => by
    rw [List.takeWhile_cons] at h
    by_cases hg : p g = true
    · rw [if_pos hg] at h
      exact takeWhile_hi p r f (by simpa using h)
    · rw [if_neg hg] at h
      obtain rfl : g = f := by simpa using h
      simpa using hg
theorem plcE_is (e : Ent) (l : List Ent) (k : Nat) (hk : k ≤ l.length) (h1 : ∀ j f, j < k → l[j]? = some f → lessE f e = true) (h2 : ∀ f, l[k]? = some f → lessE f e = false) : plcE e l = k := takeWhile_is _ l k hk h1 h2
theorem plcE_le (e : Ent) (l : List Ent) : plcE e l ≤ l.length := takeWhile_le _ l
theorem fromE_is (s : List UInt8) (l : List Ent) (k : Nat) (hk : k ≤ l.length) (h1 : ∀ j f, j < k → l[j]? = some f → Op.bytesLess f.key s = true) (h2 : ∀ f, l[k]? = some f → Op.bytesLess f.key s = false) : fromE s l = k := takeWhile_is _ l k hk h1 h2
theorem fromE_le (s : List UInt8) (l : List Ent) : fromE s l ≤ l.length := takeWhile_le _ l

/-! ### the newest up to a number -/
def newestE (l : List Ent) (s : List UInt8) (up : Nat) : Option Ent := l.find? fun e => e.key == s && decide (e.seq ≤ up)
theorem newest_is {l : List Ent} {s : List UInt8} {up : Nat} {k : Nat} {e : Ent} (hk : l[k]? = some e) (h1 : ∀ j f, j < k → l[j]? = some f → (f.key == s && decide (f.seq ≤ up)) = false) (h2 : (e.key == s && decide (e.seq ≤ up)) = true) : newestE l s up = some e := by
  unfold newestE
  induction l generalizing k with
  | nil => simp at hk
  | cons g r ih =>
    cases k with
    | zero =>
      obtain rfl : g = e := by simpa using hk
      rw [List.find?_cons, h2]
    | succ k =>
      rw [List.find?_cons, h1 0 g (by omega) rfl]
      exact ih (k := k) (by simpa using hk) (fun j f hj hf => h1 (j + 1) f (by omega) (by simpa using hf))
theorem newest_none {l : List Ent} {s : List UInt8} {up : Nat} : newestE l s up = none ↔ ∀ e ∈ l, (e.key == s && decide (e.seq ≤ up)) = false := by
  simp [newestE]
def noE : Ent := ⟨[], 0, false, []⟩
end Go.Proofs.Ytjojimmfjmchcaa
