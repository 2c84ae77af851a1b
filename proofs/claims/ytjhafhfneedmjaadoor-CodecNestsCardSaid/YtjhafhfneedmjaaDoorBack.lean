/-
  Plain facts: a frame that was written is read back, all of it; a byte of its payload that is another one is found; what is read as a frame is written just so.
-/
import Derived.Test.YtjhafhfneedmjaaDoorRead
namespace Go.Proofs.YtjhafhfneedmjaaDoor

theorem made_parts (m rest : List UInt8) (s : Nat) :
    (num m.length ++ (four s ++ (m ++ rest))).drop (num m.length).length = four s ++ (m ++ rest) ∧
    (num m.length ++ (four s ++ (m ++ rest))).drop ((num m.length).length + 4) = m ++ rest := by
  have h1 : (num m.length ++ (four s ++ (m ++ rest))).drop (num m.length).length = four s ++ (m ++ rest) := List.drop_left
  refine ⟨h1, ?_⟩
  rw [← List.drop_drop, h1]
  rfl
theorem made_len (m rest : List UInt8) (s : Nat) (hm : m.length ≤ 67108864) :
    rdLen (num m.length ++ (four s ++ (m ++ rest))) 67108864 4 = ((num m.length).length, m.length, 0) := by
  refine rdLen_ok _ _ _ _ _ (rdNum_num m.length _ (by omega)) (by omega) ?_
  simp only [List.length_append, four_length]
  omega
theorem rdFrame_made (m rest : List UInt8) (s : Nat) (hm : m.length ≤ 67108864) (hs : s < 4294967296) (hc : crc m = s) :
    rdFrame (num m.length ++ (four s ++ (m ++ rest))) = (m, (num m.length).length + 4 + m.length, 0) := by
  obtain ⟨h1, h2⟩ := made_parts m rest s
  have h := rdFrame_ok _ m.length (num m.length).length (made_len m rest s hm) (by rw [h1, h2, List.take_left, unfour_four s _ hs, hc])
  rw [h, h2, List.take_left]
theorem rdFrame_other (m rest : List UInt8) (s : Nat) (hm : m.length ≤ 67108864) (hs : s < 4294967296) (hc : crc m ≠ s) :
    rdFrame (num m.length ++ (four s ++ (m ++ rest))) = ([], 0, 13) := by
  obtain ⟨h1, h2⟩ := made_parts m rest s
  exact rdFrame_sum _ m.length (num m.length).length (made_len m rest s hm) (by rw [h1, h2, List.take_left, unfour_four s _ hs]; exact hc)
theorem frame_eq_length (l : List UInt8) : (frame l).length = (num l.length).length + 4 + l.length := by
  simp only [frame, List.length_append, four_length]
  omega
/-- WHAT IS WRITTEN IS READ, whatever stands behind it. -/
theorem rdFrame_frame (l rest : List UInt8) (hl : l.length ≤ 67108864) : rdFrame (frame l ++ rest) = (l, (frame l).length, 0) := by
  have h := rdFrame_made l rest (crc l) hl (crc_lt l) rfl
  rw [frame_eq_length, ← h]
  simp [frame]
/-- ONE BYTE OF THE PAYLOAD THAT IS ANOTHER ONE IS FOUND. -/
theorem rdFrame_set (l : List UInt8) (j : Nat) (y : UInt8) (hl : l.length ≤ 67108864) (hj : j < l.length) (hy : y ≠ l[j]) :
    rdFrame ((frame l).set ((frame l).length - l.length + j) y) = ([], 0, 13) := by
  have hlen := frame_eq_length l
  have e : (frame l).set ((frame l).length - l.length + j) y = num (l.set j y).length ++ (four (crc l) ++ (l.set j y ++ [])) := by
    rw [hlen, List.append_nil, List.length_set]
    unfold frame
    rw [List.set_append_right _ _ (by omega), List.set_append_right _ _ (by rw [four_length]; omega)]
    congr 3
    rw [four_length]
    omega
  rw [e]
  refine rdFrame_other _ _ _ (by rw [List.length_set]; omega) (crc_lt l) (fun h => ?_)
  have h1 : l = l.take j ++ l[j] :: l.drop (j + 1) := by
    rw [List.getElem_cons_drop]
    exact (List.take_append_drop j l).symm
  have h2 : l.set j y = l.take j ++ y :: l.drop (j + 1) := List.set_eq_take_append_cons_drop.trans (if_pos hj)
  rw [h2] at h
  have h3 : crc l = crc (l.take j ++ l[j] :: l.drop (j + 1)) := congrArg crc h1
  rw [h3] at h
  exact crc_other (l.take j) (l.drop (j + 1)) y l[j] hy h

theorem four_unfour (a b c d : UInt8) (r : List UInt8) : four (unfour (a :: b :: c :: d :: r)) = [a, b, c, d] := by
  have ha := a.toNat_lt
  have hb := b.toNat_lt
  have hc := c.toNat_lt
  have hd := d.toNat_lt
  simp only [four, unfour, List.getD_cons_zero, List.getD_cons_succ]
  congr 1
  · rw [← of_toNat a]
    congr 1
    rw [of_toNat]
    omega
  congr 1
  · rw [← of_toNat b]
    congr 1
    rw [of_toNat]
    omega
  congr 1
  · rw [← of_toNat c]
    congr 1
    rw [of_toNat]
    omega
  congr 1
  · rw [← of_toNat d]
    congr 1
    rw [of_toNat]
    omega
theorem four_take (l : List UInt8) (h : 4 ≤ l.length) : four (unfour l) = l.take 4 := by
  match l, h with
  | a :: b :: c :: d :: r, _ => rw [four_unfour]; rfl
/-- WHAT IS READ IS WRITTEN JUST SO. -/
theorem rdFrame_back (l p : List UInt8) (n : Nat) (h : rdFrame l = (p, n, 0)) : frame p = l.take n := by
  rcases rdLen_form l 67108864 4 with ⟨v, k, hr, hn, hv, hl, h1, h2⟩ | ⟨e, hr, he⟩
  · by_cases hc : crc ((l.drop (k + 4)).take v) = unfour (l.drop k)
    · rw [rdFrame_ok l v k hr hc] at h
      simp only [Prod.mk.injEq] at h
      obtain ⟨rfl, rfl, _⟩ := h
      obtain ⟨hb, _, _, _⟩ := rdNum_back l v k hn
      have hpl : ((l.drop (k + 4)).take v).length = v := by rw [List.length_take, List.length_drop]; omega
      unfold frame
      rw [hpl, hc, hb, four_take _ (by rw [List.length_drop]; omega), ← List.drop_drop, show k + 4 + v = k + (4 + v) from by omega, List.take_add, List.take_add]
    · rw [rdFrame_sum l v k hr hc] at h
      simp at h
  · rw [rdFrame_err l e hr (by omega)] at h
    simp only [Prod.mk.injEq] at h
    omega
end Go.Proofs.YtjhafhfneedmjaaDoor
