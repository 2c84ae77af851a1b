/-
  The heads of sources as a heap, told plainly: sifting down keeps the heads and puts the least ahead; what is told, passed by and left.
-/
import Derived.Test.YteclnnjijfbfoaaMgP
namespace Go.Proofs.Yteclnnjijfbfoaa

/-- The head of a source: its version (with where its Value lies), the source's box, its number, what the source has behind it. -/
structure Hd where
  e : Ent
  q : Option Addr
  c : Nat
  bl : Nat
  num : Nat
  rest : List Ent
def ahd (a b : Hd) : Bool := lessE a.e b.e || (atE a.e b.e && decide (a.num < b.num))
def leH (a b : Hd) : Prop := ahd b a = false
theorem leH_iff {a b : Hd} : leH a b ↔ lessE a.e b.e = true ∨ (atE a.e b.e = true ∧ a.num ≤ b.num) := by
  unfold leH ahd
  rcases h1 : lessE b.e a.e with _ | _
  · rcases h2 : atE b.e a.e with _ | _
    · simp only [Bool.false_or, Bool.false_and, true_iff]
      exact .inl (lessE_total h1 h2)
    · have h3 := atE_symm h2
      have h4 : lessE a.e b.e = false := by
        rcases h : lessE a.e b.e with _ | _
        · rfl
        · rw [lessE_not_at h] at h3; cases h3
      simp only [Bool.false_or, Bool.true_and, h3, h4, decide_eq_false_iff_not, Bool.false_eq_true, false_or, true_and]
      omega
  · simp only [Bool.true_or, Bool.true_eq_false, false_iff]
    have h3 := lessE_asymm h1
    have h4 := lessE_not_at h1
    rintro (h | ⟨h, _⟩)
    · rw [h3] at h; cases h
    · rw [atE_symm h] at h4; cases h4
theorem leH_refl (a : Hd) : leH a a := leH_iff.2 (.inr ⟨atE_refl _, Nat.le_refl _⟩)
theorem leH_trans {a b c : Hd} (h : leH a b) (k : leH b c) : leH a c := by
  rw [leH_iff] at *
  rcases h with h | ⟨h, h2⟩
  · rcases k with k | ⟨k, _⟩
    · exact .inl (lessE_trans h k)
    · exact .inl ((lessE_at_right k).symm.trans h |> fun e => by rw [← lessE_at_right k]; exact h)
  · rcases k with k | ⟨k, k2⟩
    · exact .inl (by rw [lessE_at_left h]; exact k)
    · exact .inr ⟨atE_trans h k, Nat.le_trans h2 k2⟩
theorem leH_of_ahd {a b : Hd} (h : ahd a b = true) : leH a b := by
  rw [leH_iff]
  unfold ahd at h
  simp only [Bool.or_eq_true, Bool.and_eq_true, decide_eq_true_eq] at h
  rcases h with h | ⟨h, h2⟩
  · exact .inl h
  · exact .inr ⟨h, Nat.le_of_lt h2⟩

/-! ### the heap -/
def HpAt (hs : List Hd) (i : Nat) : Prop := ∀ c a b, c = 2 * i + 1 ∨ c = 2 * i + 2 → hs[i]? = some a → hs[c]? = some b → leH a b
def HpFrom (lo : Nat) (hs : List Hd) : Prop := ∀ i, lo ≤ i → HpAt hs i
theorem hp_half (hs : List Hd) : HpFrom (hs.length / 2) hs := fun i hi c a b hc _ hb => by
  have := (List.getElem?_eq_some_iff.1 hb).1
  omega
theorem hp_least {hs : List Hd} (h : HpFrom 0 hs) {a : Hd} (ha : hs[0]? = some a) : ∀ (n i : Nat) (b : Hd), i ≤ n → hs[i]? = some b → leH a b
  | n, 0, b, _, hb => by
    rw [ha] at hb
    obtain rfl := Option.some.inj hb
    exact leH_refl a
  | 0, i + 1, b, hn, hb => by omega
  | n + 1, i + 1, b, hn, hb => by
    obtain ⟨x, hx⟩ : ∃ x, hs[i / 2]? = some x := by
      have := (List.getElem?_eq_some_iff.1 hb).1
      exact ⟨_, List.getElem?_eq_getElem (show i / 2 < hs.length by omega)⟩
    exact leH_trans (hp_least h ha n (i / 2) x (by omega) hx) (h (i / 2) (Nat.zero_le _) (i + 1) x b (by omega) hx hb)
theorem hp_min {hs : List Hd} (h : HpFrom 0 hs) {a : Hd} (ha : hs[0]? = some a) : ∀ b ∈ hs, leH a b := fun b hb => by
  obtain ⟨i, hi⟩ := List.getElem?_of_mem hb
  exact hp_least h ha i i b (Nat.le_refl _) hi
/-- A heap from lo on, but for the place at. -/
structure SinkI (lo at_ : Nat) (hs cur : List Hd) : Prop where
  perm : cur.Perm hs
  le : lo ≤ at_
  oth : ∀ i, lo ≤ i → i ≠ at_ → HpAt cur i
  up : ∀ p, lo ≤ p → at_ = 2 * p + 1 ∨ at_ = 2 * p + 2 → ∀ c a b, c = 2 * at_ + 1 ∨ c = 2 * at_ + 2 → cur[p]? = some a → cur[c]? = some b → leH a b
theorem SinkI.start {lo : Nat} {hs : List Hd} (h : HpFrom (lo + 1) hs) : SinkI lo lo hs hs :=
  ⟨.refl _, Nat.le_refl _, fun i hi hne => h i (by omega), fun p hp hc => by omega⟩
theorem SinkI.stop {lo at_ : Nat} {hs cur : List Hd} (h : SinkI lo at_ hs cur) (hat : HpAt cur at_) : HpFrom lo cur := fun i hi => by
  by_cases e : i = at_
  · exact e ▸ hat
  · exact h.oth i hi e
/-- The least of the place and its children up to (below) child. -/
structure MinI (cur : List Hd) (at_ child first : Nat) : Prop where
  lo : 2 * at_ + 1 ≤ child
  hi : child ≤ 2 * at_ + 3
  fst : first = at_ ∨ (2 * at_ + 1 ≤ first ∧ first < child)
  len : first = at_ ∨ first < cur.length
  le : ∀ a, cur[first]? = some a → (∀ b, cur[at_]? = some b → leH a b) ∧ ∀ k b, 2 * at_ + 1 ≤ k → k < child → cur[k]? = some b → leH a b
theorem MinI.start (cur : List Hd) (at_ : Nat) : MinI cur at_ (2 * at_ + 1) at_ :=
  ⟨Nat.le_refl _, by omega, .inl rfl, .inl rfl, fun a ha => ⟨fun b hb => by rw [ha] at hb; obtain rfl := Option.some.inj hb; exact leH_refl _, fun k b h1 h2 => by omega⟩⟩
theorem MinI.yes {cur : List Hd} {at_ child first : Nat} (h : MinI cur at_ child first) (hc : child ≤ 2 * at_ + 2) {a b : Hd} (ha : cur[child]? = some a) (hb : cur[first]? = some b) (hah : ahd a b = true) : MinI cur at_ (child + 1) child := by
  refine ⟨by have := h.lo; omega, by omega, .inr ⟨h.lo, by omega⟩, .inr (List.getElem?_eq_some_iff.1 ha).1, fun x hx => ?_⟩
  rw [ha] at hx
  obtain rfl := Option.some.inj hx
  have hle := leH_of_ahd hah
  refine ⟨fun y hy => leH_trans hle ((h.le b hb).1 y hy), fun k y h1 h2 hy => ?_⟩
  by_cases e : k = child
  · subst e
    rw [ha] at hy
    obtain rfl := Option.some.inj hy
    exact leH_refl _
  · exact leH_trans hle ((h.le b hb).2 k y h1 (by omega) hy)
theorem MinI.no {cur : List Hd} {at_ child first : Nat} (h : MinI cur at_ child first) (hc : child ≤ 2 * at_ + 2) {a b : Hd} (ha : cur[child]? = some a) (hb : cur[first]? = some b) (hah : ahd a b = false) : MinI cur at_ (child + 1) first := by
  refine ⟨by have := h.lo; omega, by omega, h.fst.imp id (fun x => ⟨x.1, by omega⟩), h.len, fun x hx => ?_⟩
  rw [hb] at hx
  obtain rfl := Option.some.inj hx
  refine ⟨(h.le b hb).1, fun k y h1 h2 hy => ?_⟩
  by_cases e : k = child
  · subst e
    rw [ha] at hy
    obtain rfl := Option.some.inj hy
    exact hah
  · exact (h.le b hb).2 k y h1 (by omega) hy
def swH (hs : List Hd) (i j : Nat) (a b : Hd) : List Hd := (hs.set i b).set j a
theorem swH_at {hs : List Hd} {i j : Nat} {a b : Hd} (hi : hs[i]? = some a) (hj : hs[j]? = some b) (k : Nat) : (swH hs i j a b)[k]? = if j = k then some a else if i = k then some b else hs[k]? := by
  have h1 := (List.getElem?_eq_some_iff.1 hi).1
  have h2 := (List.getElem?_eq_some_iff.1 hj).1
  unfold swH
  rw [List.getElem?_set]
  split
  · rename_i e
    subst e
    rw [if_pos (by rw [List.length_set]; exact h2)]
  · rw [List.getElem?_set]
    by_cases e : i = k
    · subst e
      simp [h1]
    · rw [if_neg e, if_neg e]
theorem swH_perm {hs : List Hd} {i j : Nat} {a b : Hd} (hi : hs[i]? = some a) (hj : hs[j]? = some b) : (swH hs i j a b).Perm hs := by
  obtain ⟨h1, rfl⟩ := List.getElem?_eq_some_iff.1 hi
  obtain ⟨h2, rfl⟩ := List.getElem?_eq_some_iff.1 hj
  exact List.set_set_perm h1 h2
theorem swH_length (hs : List Hd) (i j : Nat) (a b : Hd) : (swH hs i j a b).length = hs.length := by simp [swH]
/-- One place further down. -/
theorem SinkI.step {lo at_ child first : Nat} {hs cur : List Hd} (h : SinkI lo at_ hs cur) (m : MinI cur at_ child first) (hch : ∀ k, k = 2 * at_ + 1 ∨ k = 2 * at_ + 2 → k < cur.length → k < child) (hne : first ≠ at_) {a b : Hd} (ha : cur[at_]? = some a) (hb : cur[first]? = some b) :
    SinkI lo first hs (swH cur at_ first a b) := by
  have hf : first = 2 * at_ + 1 ∨ first = 2 * at_ + 2 := by
    rcases m.fst with e | ⟨h1, h2⟩
    · exact absurd e hne
    · have := m.hi; omega
  obtain ⟨hba, hbk⟩ := m.le b hb
  have hba := hba a ha
  have hlo := h.le
  refine ⟨(swH_perm ha hb).trans h.perm, by omega, fun i hi hif => ?_, fun p hp hpc => ?_⟩
  · intro c x y hc hx hy
    rw [swH_at ha hb] at hx hy
    rw [if_neg (fun e => hif e.symm)] at hx
    by_cases e : at_ = i
    · subst e
      rw [if_pos rfl] at hx
      obtain rfl := Option.some.inj hx
      by_cases e2 : first = c
      · rw [if_pos e2] at hy
        obtain rfl := Option.some.inj hy
        exact hba
      · rw [if_neg e2, if_neg (by omega)] at hy
        have hcl := (List.getElem?_eq_some_iff.1 hy).1
        exact hbk c y (by omega) (hch c hc hcl) hy
    · rw [if_neg e] at hx
      rw [if_neg (by omega)] at hy
      by_cases e2 : at_ = c
      · subst e2
        rw [if_pos rfl] at hy
        obtain rfl := Option.some.inj hy
        exact h.up i hi hc first x _ hf hx hb
      · rw [if_neg e2] at hy
        exact h.oth i hi (fun e3 => e e3.symm) c x y hc hx hy
  · intro c x y hc hx hy
    have hpa : p = at_ := by omega
    subst hpa
    rw [swH_at ha hb] at hx hy
    rw [if_neg (by omega), if_pos rfl] at hx
    obtain rfl := Option.some.inj hx
    rw [if_neg (by omega), if_neg (by omega)] at hy
    exact h.oth first (by omega) hne c _ y hc hb hy
theorem MinI.stop {cur : List Hd} {at_ child : Nat} (m : MinI cur at_ child at_) (hch : ∀ k, k = 2 * at_ + 1 ∨ k = 2 * at_ + 2 → k < cur.length → k < child) : HpAt cur at_ := fun c a b hc ha hb =>
  (m.le a ha).2 c b (by omega) (hch c hc (List.getElem?_eq_some_iff.1 hb).1) hb
theorem SinkI.set0 {hs : List Hd} (h : HpFrom 0 hs) (x : Hd) : SinkI 0 0 (hs.set 0 x) (hs.set 0 x) := by
  refine ⟨.refl _, Nat.le_refl _, fun i _ hne c a b hc ha hb => ?_, fun p _ hp => by omega⟩
  rw [List.getElem?_set] at ha hb
  rw [if_neg (by omega)] at ha hb
  exact h i (Nat.zero_le _) c a b hc ha hb
theorem SinkI.cut0 {hs : List Hd} (h : HpFrom 0 hs) (x : Hd) (n : Nat) : SinkI 0 0 ((hs.set 0 x).take n) ((hs.set 0 x).take n) := by
  refine ⟨.refl _, Nat.le_refl _, fun i _ hne c a b hc ha hb => ?_, fun p _ hp => by omega⟩
  have h1 := List.getElem?_take_of_lt (l := hs.set 0 x) (i := n) (j := i)
  rw [List.getElem?_take] at ha hb
  split at ha
  · split at hb
    · rw [List.getElem?_set, if_neg (by omega)] at ha hb
      exact h i (Nat.zero_le _) c a b hc ha hb
    · cases hb
  · cases ha
theorem set0_mem {hs : List Hd} {a : Hd} (ha : hs[0]? = some a) (x : Hd) : ∃ t, hs = a :: t ∧ hs.set 0 x = x :: t := by
  cases hs with
  | nil => simp at ha
  | cons b t => obtain rfl := Option.some.inj ha; exact ⟨t, rfl, rfl⟩
theorem cut0_perm {hs : List Hd} {a l : Hd} {t : List Hd} (ht : hs = a :: t) (hl : hs[hs.length - 1]? = some l) : ((hs.set 0 l).take (hs.length - 1)).Perm t := by
  subst ht
  simp only [List.length_cons, Nat.add_sub_cancel, List.set_cons_zero] at hl ⊢
  rcases List.eq_nil_or_concat t with rfl | ⟨u, z, rfl⟩
  · simp
  · simp only [List.concat_eq_append, List.length_append, List.length_singleton] at hl ⊢
    rw [List.getElem?_cons_succ, List.getElem?_append_right (Nat.le_refl _)] at hl
    simp only [Nat.sub_self, List.getElem?_cons_zero] at hl
    obtain rfl := Option.some.inj hl
    rw [List.take_succ_cons, List.take_append_of_le_length (Nat.le_refl _), List.take_length]
    exact (List.perm_append_singleton z u).symm
end Go.Proofs.Yteclnnjijfbfoaa
