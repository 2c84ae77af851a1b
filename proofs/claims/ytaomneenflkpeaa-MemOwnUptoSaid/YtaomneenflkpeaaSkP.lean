/-
  A skip list, plainly: its nodes in order; what a level of a tower leads to; the last place ahead of a place that has a level; a node laid between. Lists and numbers alone.
-/
import Derived.Test.YtaomneenflkpeaaMeP
namespace Go.Proofs.Ytaomneenflkpeaa

/-- A node: its version, its number, its tower's height, its block, its tower's block. -/
structure Nd where
  ent : Ent
  num : Nat
  h : Nat
  blk : Nat
  tow : Nat
/-- The first of a row that has the level. -/
def nxt (ns : List Nd) (lv : Nat) : Option Nat := (ns.find? fun n => decide (lv < n.h)).map Nd.blk
def hasL (ns : List Nd) (k lv : Nat) : Bool := match ns[k]? with | some n => decide (lv < n.h) | none => false
theorem hasL_iff {ns : List Nd} {k lv : Nat} : hasL ns k lv = true ↔ ∃ nd, ns[k]? = some nd ∧ lv < nd.h := by
  unfold hasL
  cases ns[k]? <;> simp
/-- The last place of the first k that has the level, 1 for the first node; 0: the head. -/
def lst (ns : List Nd) (lv : Nat) : Nat → Nat
  | 0 => 0
  | k + 1 => if hasL ns k lv = true then k + 1 else lst ns lv k

theorem lst_le (ns : List Nd) (lv : Nat) : ∀ k, lst ns lv k ≤ k
  | 0 => Nat.le_refl _
  | k + 1 => by
    have := lst_le ns lv k
    unfold lst
    split <;> omega
theorem lst_has (ns : List Nd) (lv : Nat) : ∀ (k i : Nat), lst ns lv k = i + 1 → ∃ nd, ns[i]? = some nd ∧ lv < nd.h
  | 0, i, h => by simp [lst] at h
  | k + 1, i, h => by
    unfold lst at h
    split at h
    · rename_i hq
      obtain rfl : k = i := by omega
      exact hasL_iff.1 hq
    · exact lst_has ns lv k i h
theorem lst_no (ns : List Nd) (lv : Nat) : ∀ (k i : Nat) (nd : Nd), lst ns lv k ≤ i → i < k → ns[i]? = some nd → ¬ lv < nd.h
  | 0, i, nd, _, h, _ => by omega
  | k + 1, i, nd, h1, h2, h3 => by
    unfold lst at h1
    split at h1
    · omega
    · rename_i hq
      by_cases e : i = k
      · subst e
        exact fun h => hq (hasL_iff.2 ⟨nd, h3, h⟩)
      · exact lst_no ns lv k i nd h1 (by omega) h3
/-- A place below k that has the level lies at or ahead of the last. -/
theorem lst_ge {ns : List Nd} {lv k i : Nat} {nd : Nd} (h1 : i < k) (h2 : ns[i]? = some nd) (h3 : lv < nd.h) : i + 1 ≤ lst ns lv k := by
  rcases Nat.lt_or_ge i (lst ns lv k) with h | h
  · exact h
  · exact absurd h3 (lst_no ns lv k i nd h h1 h2)
theorem lst_mono {ns : List Nd} {lv lv' k : Nat} (h : lv ≤ lv') : lst ns lv' k ≤ lst ns lv k := by
  cases e : lst ns lv' k with
  | zero => omega
  | succ i =>
    obtain ⟨nd, h1, h2⟩ := lst_has ns lv' k i e
    have := lst_le ns lv' k
    exact lst_ge (by omega) h1 (by omega)
theorem lst_zero {ns : List Nd} {lv : Nat} (h : ∀ nd ∈ ns, nd.h ≤ lv) (k : Nat) : lst ns lv k = 0 := by
  cases e : lst ns lv k with
  | zero => rfl
  | succ i =>
    obtain ⟨nd, h1, h2⟩ := lst_has ns lv k i e
    have := h nd (List.mem_of_getElem? h1)
    omega
theorem lst_all {ns : List Nd} (h : ∀ nd ∈ ns, 1 ≤ nd.h) {k : Nat} (hk : k ≤ ns.length) : lst ns 0 k = k := by
  have h0 := lst_le ns 0 k
  cases k with
  | zero => rfl
  | succ k =>
    have h1 : ns[k]? = some ns[k] := List.getElem?_eq_getElem (by omega)
    have := lst_ge (k := k + 1) (by omega) h1 (h _ (List.getElem_mem (by omega)))
    omega

theorem nxt_drop {ns : List Nd} {lv j i : Nat} {nd : Nd} (hj : j ≤ i) (hi : ns[i]? = some nd) (hl : lv < nd.h) (hno : ∀ m x, j ≤ m → m < i → ns[m]? = some x → ¬ lv < x.h) : nxt (ns.drop j) lv = some nd.blk := by
  induction hd : i - j generalizing j with
  | zero =>
    obtain rfl : j = i := by omega
    have hlt := (List.getElem?_eq_some_iff.1 hi).1
    have e1 : ns[j] = nd := (List.getElem?_eq_some_iff.1 hi).2
    rw [List.drop_eq_getElem_cons hlt, e1]
    simp [nxt, hl]
  | succ d ih =>
    have hlt := (List.getElem?_eq_some_iff.1 hi).1
    have hjl : j < ns.length := by omega
    have h1 := hno j ns[j] (Nat.le_refl _) (by omega) (List.getElem?_eq_getElem hjl)
    have h2 := ih (j := j + 1) (by omega) (fun m x hm => hno m x (by omega)) (by omega)
    rw [List.drop_eq_getElem_cons hjl]
    simp only [nxt, List.find?_cons, h1, decide_false]
    exact h2
theorem nxt_none {ns : List Nd} {lv : Nat} (h : ∀ x ∈ ns, ¬ lv < x.h) : nxt ns lv = none := by
  unfold nxt
  rw [List.find?_eq_none.2 (fun x hx => by simpa using h x hx)]
  rfl
/-- What a level leads to: nothing; or a node, and none of those between has the level. -/
theorem nxt_ways (ns : List Nd) (lv : Nat) : ∀ (j : Nat), (nxt (ns.drop j) lv = none ∧ ∀ m x, j ≤ m → ns[m]? = some x → ¬ lv < x.h) ∨
    ∃ i nd, j ≤ i ∧ ns[i]? = some nd ∧ lv < nd.h ∧ (∀ m x, j ≤ m → m < i → ns[m]? = some x → ¬ lv < x.h) ∧ nxt (ns.drop j) lv = some nd.blk := by
  intro j
  cases hf : (ns.drop j).find? (fun n => decide (lv < n.h)) with
  | none =>
    refine .inl ⟨by simp [nxt, hf], fun m x hm hx hl => ?_⟩
    have := List.find?_eq_none.1 hf x (List.mem_of_getElem? (i := m - j) (by rw [List.getElem?_drop, show j + (m - j) = m by omega]; exact hx))
    simp [hl] at this
  | some nd =>
    obtain ⟨hl, us, vs, he, hno⟩ := List.find?_eq_some_iff_append.1 hf
    have hi : ns[j + us.length]? = some nd := by
      rw [← List.getElem?_drop, he]
      simp
    refine .inr ⟨j + us.length, nd, by omega, hi, of_decide_eq_true hl, fun m x h1 h2 hx hlx => ?_, by simp [nxt, hf]⟩
    have h3 : us[m - j]? = some x := by
      have h4 : (ns.drop j)[m - j]? = some x := by rw [List.getElem?_drop, show j + (m - j) = m by omega]; exact hx
      rw [he, List.getElem?_append_left (by omega)] at h4
      exact h4
    have := hno x (List.mem_of_getElem? h3)
    simp [hlx] at this
/-- A step of the search: from a place j, at or ahead of the last place of level lv below P: either j is that place (and what follows is nothing, or lies at P or behind), or what follows is a node below P, at or ahead of it. -/
theorem lst_step {ns : List Nd} {lv P j : Nat} (hj : j ≤ lst ns lv P) :
    (j = lst ns lv P ∧ (nxt (ns.drop j) lv = none ∨ ∃ i nd, P ≤ i ∧ ns[i]? = some nd ∧ lv < nd.h ∧ nxt (ns.drop j) lv = some nd.blk)) ∨
    (∃ i nd, j ≤ i ∧ i < P ∧ ns[i]? = some nd ∧ lv < nd.h ∧ i + 1 ≤ lst ns lv P ∧ nxt (ns.drop j) lv = some nd.blk) := by
  have hle := lst_le ns lv P
  have key : ∀ (h : j < lst ns lv P), ∃ m x, j ≤ m ∧ m < P ∧ ns[m]? = some x ∧ lv < x.h ∧ m + 1 = lst ns lv P := fun h => by
    cases e : lst ns lv P with
    | zero => omega
    | succ m =>
      obtain ⟨nd, h1, h2⟩ := lst_has ns lv P m e
      exact ⟨m, nd, by omega, by omega, h1, h2, rfl⟩
  rcases nxt_ways ns lv j with ⟨h1, h2⟩ | ⟨i, nd, h1, h2, h3, h4, h5⟩
  · refine .inl ⟨?_, .inl h1⟩
    rcases Nat.lt_or_ge j (lst ns lv P) with h | h
    · obtain ⟨m, x, h3, _, h4, h5, _⟩ := key h
      exact absurd h5 (h2 m x h3 h4)
    · omega
  · by_cases hi : i < P
    · exact .inr ⟨i, nd, h1, hi, h2, h3, lst_ge hi h2 h3, h5⟩
    · refine .inl ⟨?_, .inr ⟨i, nd, by omega, h2, h3, h5⟩⟩
      rcases Nat.lt_or_ge j (lst ns lv P) with h | h
      · obtain ⟨m, x, h6, h7, h8, h9, _⟩ := key h
        exact absurd h9 (h4 m x h6 (by omega) h8)
      · omega
theorem nxt_append (a b : List Nd) (lv : Nat) : nxt (a ++ b) lv = (nxt a lv).or (nxt b lv) := by
  unfold nxt
  rw [List.find?_append]
  cases a.find? (fun n => decide (lv < n.h)) <;> simp
theorem nxt_cons (n : Nd) (b : List Nd) (lv : Nat) : nxt (n :: b) lv = if lv < n.h then some n.blk else nxt b lv := by
  unfold nxt
  rw [List.find?_cons]
  by_cases h : lv < n.h <;> simp [h]
/-- From the last place of a level below P on the level leads to the same as from P on. -/
theorem nxt_lst {ns : List Nd} {lv P : Nat} (hP : P ≤ ns.length) : nxt (ns.drop (lst ns lv P)) lv = nxt (ns.drop P) lv := by
  have hle := lst_le ns lv P
  have e : ns.drop (lst ns lv P) = (ns.take P).drop (lst ns lv P) ++ ns.drop P := by
    rw [← List.drop_append_of_le_length (by simp; omega), List.take_append_drop]
  rw [e, nxt_append, nxt_none (fun x hx => ?_)]
  · rfl
  · obtain ⟨m, hm, rfl⟩ := List.getElem_of_mem hx
    rw [List.length_drop, List.length_take] at hm
    have h1 : ns[lst ns lv P + m]? = some ((ns.take P).drop (lst ns lv P))[m] := by
      rw [List.getElem_drop, List.getElem_take, List.getElem?_eq_getElem]
    exact lst_no ns lv P _ _ (by omega) (by omega) h1
/-- What the levels lead to where a node is laid at P: from a place at or ahead of P that has the level. -/
theorem nxt_ins {ns : List Nd} {nd : Nd} {lv P j : Nat} (hP : P ≤ ns.length) (hj : j ≤ P) (hh : j = 0 ∨ ∃ x, ns[j - 1]? = some x ∧ lv < x.h) :
    nxt ((ns.take P ++ nd :: ns.drop P).drop j) lv = if lv < nd.h ∧ j = lst ns lv P then some nd.blk else nxt (ns.drop j) lv := by
  have hle := lst_le ns lv P
  have hjl : j ≤ lst ns lv P := by
    rcases hh with rfl | ⟨x, h1, h2⟩
    · omega
    · rcases Nat.eq_zero_or_pos j with h0 | h0
      · omega
      · have := lst_ge (k := P) (by omega) h1 h2
        omega
  have e1 : (ns.take P ++ nd :: ns.drop P).drop j = (ns.take P).drop j ++ nd :: ns.drop P := List.drop_append_of_le_length (by simp; omega)
  have e2 : ns.drop j = (ns.take P).drop j ++ ns.drop P := by rw [← List.drop_append_of_le_length (by simp; omega), List.take_append_drop]
  rw [e1, nxt_append, nxt_cons]
  by_cases hq : j = lst ns lv P
  · have h0 : nxt ((ns.take P).drop j) lv = none := nxt_none fun x hx => by
      obtain ⟨m, hm, rfl⟩ := List.getElem_of_mem hx
      rw [List.length_drop, List.length_take] at hm
      have h1 : ns[j + m]? = some ((ns.take P).drop j)[m] := by
        rw [List.getElem_drop, List.getElem_take, List.getElem?_eq_getElem]
      exact lst_no ns lv P _ _ (by omega) (by omega) h1
    rw [h0, e2, nxt_append, h0]
    simp only [Option.none_or]
    by_cases hl : lv < nd.h
    · rw [if_pos hl, if_pos (And.intro hl hq)]
    · rw [if_neg hl, if_neg (fun h : lv < nd.h ∧ j = lst ns lv P => hl h.1)]
  · rw [if_neg (c := lv < nd.h ∧ j = lst ns lv P) (fun h => hq h.2), e2, nxt_append]
    cases e : lst ns lv P with
    | zero => omega
    | succ m =>
      obtain ⟨x, h1, h2⟩ := lst_has ns lv P m e
      have : ∃ b, nxt ((ns.take P).drop j) lv = some b := by
        unfold nxt
        have : ((ns.take P).drop j).find? (fun n => decide (lv < n.h)) ≠ none := fun hn => by
          have := List.find?_eq_none.1 hn x (List.mem_of_getElem? (i := m - j) (by
            rw [List.getElem?_drop, show j + (m - j) = m by omega, List.getElem?_take_of_lt (by omega)]
            exact h1))
          simp [h2] at this
        cases hf : ((ns.take P).drop j).find? (fun n => decide (lv < n.h)) with
        | none => exact absurd hf this
        | some y => exact ⟨y.blk, rfl⟩
      obtain ⟨b, hb⟩ := this
      rw [hb]
      rfl
theorem nxt_ins_hi {ns : List Nd} {nd : Nd} {lv P j : Nat} (hP : P ≤ ns.length) (hj : P ≤ j) : nxt ((ns.take P ++ nd :: ns.drop P).drop (j + 1)) lv = nxt (ns.drop j) lv := by
  have : (ns.take P ++ nd :: ns.drop P).drop (j + 1) = ns.drop j := by
    have hl : (ns.take P).length = P := by simp; omega
    rw [show j + 1 = (ns.take P).length + (j - P + 1) by omega, List.drop_append]
    simp only [Nat.add_sub_cancel_left]
    rw [List.drop_of_length_le (by omega), List.nil_append, List.drop_succ_cons, List.drop_drop]
    congr 1
    omega
  rw [this]
end Go.Proofs.Ytaomneenflkpeaa
