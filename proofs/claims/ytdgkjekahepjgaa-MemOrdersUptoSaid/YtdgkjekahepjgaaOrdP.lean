/-
  Plain facts for glacierlaw5.MemOrders: of versions, each place once; a row turned round; what the table tells of either.
-/
import Derived.Test.YtdgkjekahepjgaaMemW
namespace Go.Proofs.Ytdgkjekahepjgaa

def onceS (o : List Ent) (e : Ent) : List Ent := if o.any (fun f => atE f e) = true then o else o ++ [e]
def onceE (l : List Ent) : List Ent := l.foldl onceS []
theorem onceE_snoc (l : List Ent) (e : Ent) : onceE (l ++ [e]) = onceS (onceE l) e := by simp [onceE]
theorem once_fold : ∀ (l o : List Ent), ApartE o → ApartE (l.foldl onceS o) ∧ (l.foldl onceS o).length ≤ o.length + l.length ∧ ∀ x ∈ l.foldl onceS o, x ∈ o ∨ x ∈ l
  | [], o, h => ⟨h, by simp, fun x hx => .inl hx⟩
  | e :: r, o, h => by
    have h1 : ApartE (onceS o e) ∧ (onceS o e).length ≤ o.length + 1 ∧ ∀ x ∈ onceS o e, x ∈ o ∨ x = e := by
      unfold onceS
      split
      · exact ⟨h, by omega, fun x hx => .inl hx⟩
      · rename_i hn
        refine ⟨List.pairwise_append.2 ⟨h, by simp, fun a ha b hb => ?_⟩, by simp, fun x hx => by simpa using hx⟩
        obtain rfl : b = e := by simpa using hb
        rcases hq : atE a b with _ | _
        · rfl
        · exact absurd (List.any_eq_true.2 ⟨a, ha, hq⟩) hn
    obtain ⟨a1, a2, a3⟩ := once_fold r (onceS o e) h1.1
    refine ⟨a1, by simp only [List.foldl_cons, List.length_cons]; omega, fun x hx => ?_⟩
    rcases a3 x hx with h2 | h2
    · rcases h1.2.2 x h2 with h3 | h3
      · exact .inl h3
      · exact .inr (by simp [h3])
    · exact .inr (by simp [h2])
theorem onceE_apart (l : List Ent) : ApartE (onceE l) := (once_fold l [] (by simp [ApartE])).1
theorem onceE_len (l : List Ent) : (onceE l).length ≤ l.length := by
  have := (once_fold l [] (by simp [ApartE])).2.1
  rw [List.length_nil, Nat.zero_add] at this
  exact this
theorem onceE_mem (l : List Ent) : ∀ x ∈ onceE l, x ∈ l := fun x hx => by simpa using (once_fold l [] (by simp [ApartE])).2.2 x hx

def rotE (t : Nat) (o : List Ent) : List Ent := o.drop (t % o.length) ++ o.take (t % o.length)
theorem rotE_perm (t : Nat) (o : List Ent) : (rotE t o).Perm o := by
  refine List.perm_append_comm.trans ?_
  rw [List.take_append_drop]
theorem rotE_len (t : Nat) (o : List Ent) : (rotE t o).length = o.length := (rotE_perm t o).length_eq
theorem rotE_at (t : Nat) (o : List Ent) (i : Nat) (hi : i < o.length) : (rotE t o)[i]? = o[(i + t) % o.length]? := by
  have hm := Nat.mod_lt t (show 0 < o.length by omega)
  have he : (i + t) % o.length = (i + t % o.length) % o.length := by simp
  rw [he]
  unfold rotE
  generalize t % o.length = m at *
  by_cases h : i + m < o.length
  · rw [Nat.mod_eq_of_lt h, List.getElem?_append_left (by rw [List.length_drop]; omega), List.getElem?_drop, Nat.add_comm m i]
  · have h2 : (i + m) % o.length = i + m - o.length := by
      rw [Nat.mod_eq_sub_mod (by omega), Nat.mod_eq_of_lt (by omega)]
    rw [h2, List.getElem?_append_right (by rw [List.length_drop]; omega), List.length_drop, List.getElem?_take_of_lt (by omega)]
    congr 1
    omega
theorem atE_comm (a b : Ent) : atE a b = atE b a := by
  rw [Bool.eq_iff_iff]
  unfold atE
  simp only [Bool.and_eq_true, beq_iff_eq]
  exact ⟨fun ⟨h1, h2⟩ => ⟨h1.symm, h2.symm⟩, fun ⟨h1, h2⟩ => ⟨h1.symm, h2.symm⟩⟩
theorem rotE_apart (t : Nat) {o : List Ent} (h : ApartE o) : ApartE (rotE t o) :=
  ((rotE_perm t o).pairwise_iff (R := fun a b => atE a b = false) (fun {a b} hab => by rw [atE_comm]; exact hab)).2 h
/-- Whatever the draws and wherever the row begins, the table holds the same versions. -/
theorem orders_L (d1 d2 : List Int) (t : Nat) (l : List Ent) : (tabP d1 (onceE l)).L = (tabP d2 (rotE t (onceE l))).L := by
  rw [tabP_L, tabP_L]
  exact puts_order (onceE_apart l) (rotE_apart t (onceE_apart l)) fun x => ((rotE_perm t _).mem_iff).symm
end Go.Proofs.Ytdgkjekahepjgaa
