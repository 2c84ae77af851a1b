/-
  A list in order, parted into several: merged they are the list. Lists and numbers alone.
-/
import Derived.Test.YtaomneenflkpeaaMhE
namespace Go.Proofs.Ytaomneenflkpeaa

/-- Of the first k those that come to place j. -/
def prtL {α : Type} (f : Nat → Nat) (l : List α) : Nat → Nat → List α
  | 0, _ => []
  | k + 1, j => prtL f l k j ++ (if f k = j then (l[k]?).toList else [])
theorem prtL_at {α : Type} (f : Nat → Nat) (l : List α) (k : Nat) (hk : k < l.length) : prtL f l (k + 1) (f k) = prtL f l k (f k) ++ [l[k]] := by
  simp [prtL, List.getElem?_eq_getElem hk]
theorem prtL_ne {α : Type} (f : Nat → Nat) (l : List α) (k j : Nat) (h : f k ≠ j) : prtL f l (k + 1) j = prtL f l k j := by
  simp [prtL, h]
theorem mem_prtL {α : Type} (f : Nat → Nat) (l : List α) : ∀ (k j : Nat) (x : α), x ∈ prtL f l k j ↔ ∃ i, i < k ∧ f i = j ∧ l[i]? = some x
  | 0, j, x => by simp [prtL]
  | k + 1, j, x => by
    rw [prtL, List.mem_append, mem_prtL f l k j x]
    constructor
    · rintro (⟨i, h1, h2, h3⟩ | h)
      · exact ⟨i, by omega, h2, h3⟩
      · split at h
        · rename_i he
          exact ⟨k, by omega, he, by simpa using h⟩
        · cases h
    · rintro ⟨i, h1, h2, h3⟩
      by_cases hi : i < k
      · exact .inl ⟨i, hi, h2, h3⟩
      · obtain rfl : i = k := by omega
        refine .inr ?_
        rw [if_pos h2]
        simpa using h3
theorem prtL_len {α : Type} (f : Nat → Nat) (l : List α) : ∀ (k j : Nat), (prtL f l k j).length ≤ k
  | 0, j => by simp [prtL]
  | k + 1, j => by
    rw [prtL, List.length_append]
    have := prtL_len f l k j
    split
    · have : (l[k]?.toList).length ≤ 1 := by cases l[k]? <;> simp
      omega
    · simp; omega
theorem prtL_two {α β : Type} (f : Nat → Nat) (l : List α) (us : List β) (h : us.length = l.length) : ∀ (k j : Nat), (prtL f us k j).length = (prtL f l k j).length
  | 0, j => by simp [prtL]
  | k + 1, j => by
    rw [prtL, prtL, List.length_append, List.length_append, prtL_two f l us h k j]
    split
    · rcases Nat.lt_or_ge k l.length with hk | hk
      · rw [List.getElem?_eq_getElem hk, List.getElem?_eq_getElem (by omega)]; rfl
      · rw [List.getElem?_eq_none hk, List.getElem?_eq_none (by omega)]; rfl
    · rfl
theorem prtL_pair {α β : Type} (f : Nat → Nat) (l : List α) (us : List β) (h : us.length = l.length) : ∀ (k j m : Nat) (x : α) (u : β), (prtL f l k j)[m]? = some x → (prtL f us k j)[m]? = some u → ∃ i : Nat, l[i]? = some x ∧ us[i]? = some u
  | 0, j, m, x, u, h1, _ => by simp [prtL] at h1
  | k + 1, j, m, x, u, h1, h2 => by
    have hln := prtL_two f l us h k j
    rw [prtL] at h1 h2
    rcases Nat.lt_or_ge m (prtL f l k j).length with hm | hm
    · rw [List.getElem?_append_left hm] at h1
      rw [List.getElem?_append_left (by omega)] at h2
      exact prtL_pair f l us h k j m x u h1 h2
    · rw [List.getElem?_append_right hm] at h1
      rw [List.getElem?_append_right (by omega), hln] at h2
      split at h1
      · rename_i he
        rw [if_pos he] at h2
        have e1 : l[k]? = some x := by
          rcases e : l[k]? with _ | y
          · rw [e] at h1; simp at h1
          · rw [e] at h1
            have := List.mem_of_getElem? h1
            simp at this
            rw [this]
        have e2 : us[k]? = some u := by
          rcases e : us[k]? with _ | y
          · rw [e] at h2; simp at h2
          · rw [e] at h2
            have := List.mem_of_getElem? h2
            simp at this
            rw [this]
        exact ⟨k, e1, e2⟩
      · simp at h1
theorem prtL_srt (f : Nat → Nat) (l : List Ent) (h : SrtE l) : ∀ (k j : Nat), SrtE (prtL f l k j)
  | 0, j => by simp [prtL, SrtE]
  | k + 1, j => by
    rw [prtL]
    refine List.pairwise_append.2 ⟨prtL_srt f l h k j, ?_, ?_⟩
    · split
      · cases l[k]? <;> simp
      · simp
    · intro a ha b hb
      split at hb
      · obtain ⟨i, h1, _, h3⟩ := (mem_prtL f l k j a).1 ha
        have hb : l[k]? = some b := by simpa using hb
        obtain ⟨hi, rfl⟩ := List.getElem?_eq_some_iff.1 h3
        obtain ⟨hk, rfl⟩ := List.getElem?_eq_some_iff.1 hb
        exact (List.pairwise_iff_getElem.1 h) i k hi hk h1
      · cases hb
theorem prtL_mem (f : Nat → Nat) (l : List Ent) (k j : Nat) (x : Ent) (h : x ∈ prtL f l k j) : x ∈ l := by
  obtain ⟨i, _, _, h3⟩ := (mem_prtL f l k j x).1 h
  exact List.mem_of_getElem? h3
theorem prtL_right (f : Nat → Nat) (l : List Ent) (h : rightE l = true) (k j : Nat) : rightE (prtL f l k j) = true := by
  obtain ⟨h1, h2⟩ := rightE_iff.1 h
  exact rightE_iff.2 ⟨fun e he => h1 e (prtL_mem f l k j e he), prtL_srt f l h2 k j⟩

/-- In a list in order what stands at one place is one. -/
theorem srt_place {l : List Ent} (h : SrtE l) {x y : Ent} (hx : x ∈ l) (hy : y ∈ l) (ha : atE y x = true) : y = x := by
  obtain ⟨i, hi, rfl⟩ := List.getElem_of_mem hx
  obtain ⟨k, hk, rfl⟩ := List.getElem_of_mem hy
  rcases Nat.lt_trichotomy i k with hik | hik | hik
  · have := lessE_not_at ((List.pairwise_iff_getElem.1 h) i k hi hk hik)
    rw [atE_symm ha] at this; cases this
  · subst hik; rfl
  · have := lessE_not_at ((List.pairwise_iff_getElem.1 h) k i hk hi hik)
    rw [ha] at this; cases this
theorem inM_of_parts {l : List Ent} (h : SrtE l) : ∀ (ls : List (List Ent)) (_ : ∀ p ∈ ls, ∀ y ∈ p, y ∈ l) (x : Ent), (∃ p ∈ ls, x ∈ p) → InM ls x
  | [], _, _, hx => by obtain ⟨p, hp, _⟩ := hx; cases hp
  | p :: r, hs, x, hx => by
    by_cases hp : x ∈ p
    · exact .inl hp
    · have hx2 : ∃ q ∈ r, x ∈ q := by
        obtain ⟨q, hq, hxq⟩ := hx
        rcases List.mem_cons.1 hq with rfl | hq
        · exact absurd hxq hp
        · exact ⟨q, hq, hxq⟩
      refine .inr ⟨inM_of_parts h r (fun q hq => hs q (List.mem_cons_of_mem _ hq)) x hx2, fun y hy => ?_⟩
      rcases e : atE y x with _ | _
      · rfl
      · obtain ⟨q, hq, hxq⟩ := hx2
        have := srt_place h (hs q (List.mem_cons_of_mem _ hq) x hxq) (hs p (List.mem_cons_self ..) y hy) e
        exact absurd (this ▸ hy) hp
/-- The seven parts. -/
def svnL (f : Nat → Nat) (l : List Ent) (k : Nat) : List (List Ent) := [prtL f l k 0, prtL f l k 1, prtL f l k 2, prtL f l k 3, prtL f l k 4, prtL f l k 5, prtL f l k 6]
theorem svnL_is (f : Nat → Nat) (l : List Ent) (k : Nat) : svnL f l k = (List.range 7).map (prtL f l k) := rfl
theorem svnL_at (f : Nat → Nat) (l : List Ent) (k j : Nat) (h : j < 7) : (svnL f l k)[j]? = some (prtL f l k j) := by
  rw [svnL_is, List.getElem?_map, List.getElem?_range h]; rfl
theorem svnL_of (f : Nat → Nat) (l : List Ent) (k : Nat) (p : List Ent) (h : p ∈ svnL f l k) : ∃ j, p = prtL f l k j := by
  rw [svnL_is] at h
  obtain ⟨j, _, rfl⟩ := List.mem_map.1 h
  exact ⟨j, rfl⟩
theorem parts_merged (f : Nat → Nat) (hf : ∀ i, f i < 7) (l : List Ent) (h : SrtE l) : mrgL (svnL f l l.length) = l := by
  refine (mrgL_is fun p hp => ?_).uniq ⟨h, fun x => ?_⟩
  · obtain ⟨j, rfl⟩ := svnL_of f l _ p hp
    exact prtL_srt f l h _ _
  · constructor
    · intro hx
      obtain ⟨i, hi, rfl⟩ := List.getElem_of_mem hx
      refine inM_of_parts h _ (fun p hp y hy => ?_) _ ⟨prtL f l l.length (f i), ?_, (mem_prtL ..).2 ⟨i, hi, rfl, List.getElem?_eq_getElem hi⟩⟩
      · obtain ⟨j, rfl⟩ := svnL_of f l _ p hp
        exact prtL_mem f l _ _ y hy
      · rw [svnL_is]
        exact List.mem_map_of_mem (List.mem_range.2 (hf i))
    · intro hx
      obtain ⟨p, hp, hxp⟩ := inM_mem hx
      obtain ⟨j, rfl⟩ := svnL_of f l _ p hp
      exact prtL_mem f l _ _ x hxp
end Go.Proofs.Ytaomneenflkpeaa
