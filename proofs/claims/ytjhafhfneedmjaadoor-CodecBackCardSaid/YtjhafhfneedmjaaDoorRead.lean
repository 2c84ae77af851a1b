/-
  Plain facts on what is read: lengths, bytes, frames, frames behind one another; what is written is read back; a front of frames.
-/
import Derived.Test.YtjhafhfneedmjaaDoorFrame
namespace Go.Proofs.YtjhafhfneedmjaaDoor

def rdLen (l : List UInt8) (most extra : Nat) : Nat × Nat × Nat :=
  if (rdNum l).2.2 ≠ 0 then (0, 0, (rdNum l).2.2) else if most < (rdNum l).1 then (0, 0, 3) else if (rdNum l).1 + (rdNum l).2.1 + extra ≤ l.length then ((rdNum l).2.1, (rdNum l).1, 0) else (0, 0, 11)
theorem rdLen_err (l : List UInt8) (most extra e : Nat) (h : rdNum l = (0, 0, e)) (he : e ≠ 0) : rdLen l most extra = (0, 0, e) := by
  unfold rdLen
  rw [h, if_pos he]
theorem rdLen_long (l : List UInt8) (most extra v n : Nat) (h : rdNum l = (v, n, 0)) (hv : most < v) : rdLen l most extra = (0, 0, 3) := by
  unfold rdLen
  rw [h, if_neg (by simp), if_pos hv]
theorem rdLen_ok (l : List UInt8) (most extra v n : Nat) (h : rdNum l = (v, n, 0)) (hv : ¬ most < v) (hl : v + n + extra ≤ l.length) : rdLen l most extra = (n, v, 0) := by
  unfold rdLen
  rw [h, if_neg (by simp), if_neg hv, if_pos hl]
theorem rdLen_short (l : List UInt8) (most extra v n : Nat) (h : rdNum l = (v, n, 0)) (hv : ¬ most < v) (hl : ¬ v + n + extra ≤ l.length) : rdLen l most extra = (0, 0, 11) := by
  unfold rdLen
  rw [h, if_neg (by simp), if_neg hv, if_neg hl]
/-- Either a length within the bytes, or an error and zeros. -/
theorem rdLen_form (l : List UInt8) (most extra : Nat) :
    (∃ v n, rdLen l most extra = (n, v, 0) ∧ rdNum l = (v, n, 0) ∧ v ≤ most ∧ v + n + extra ≤ l.length ∧ 1 ≤ n ∧ n ≤ 10) ∨ ∃ e, rdLen l most extra = (0, 0, e) ∧ (e = 3 ∨ e = 11 ∨ e = 12) := by
  rcases rdNum_form l with ⟨v, n, h, h1, h2, h3, _⟩ | h | h
  · by_cases hv : most < v
    · exact .inr ⟨3, rdLen_long l most extra v n h hv, by omega⟩
    · by_cases hl : v + n + extra ≤ l.length
      · exact .inl ⟨v, n, rdLen_ok l most extra v n h hv hl, h, by omega, hl, h1, h3⟩
      · exact .inr ⟨11, rdLen_short l most extra v n h hv hl, by omega⟩
  · exact .inr ⟨11, rdLen_err l most extra 11 h (by decide), by omega⟩
  · exact .inr ⟨12, rdLen_err l most extra 12 h (by decide), by omega⟩

def rdBytes (l : List UInt8) (most : Nat) : List UInt8 × Nat × Nat :=
  if (rdLen l most 0).2.2 ≠ 0 then ([], 0, (rdLen l most 0).2.2) else ((l.drop (rdLen l most 0).1).take (rdLen l most 0).2.1, (rdLen l most 0).1 + (rdLen l most 0).2.1, 0)
theorem rdBytes_err (l : List UInt8) (most e : Nat) (h : rdLen l most 0 = (0, 0, e)) (he : e ≠ 0) : rdBytes l most = ([], 0, e) := by
  unfold rdBytes
  rw [h, if_pos he]
theorem rdBytes_ok (l : List UInt8) (most v n : Nat) (h : rdLen l most 0 = (n, v, 0)) : rdBytes l most = ((l.drop n).take v, n + v, 0) := by
  unfold rdBytes
  rw [h, if_neg (by simp)]

def rdFrame (l : List UInt8) : List UInt8 × Nat × Nat :=
  if (rdLen l 67108864 4).2.2 ≠ 0 then ([], 0, (rdLen l 67108864 4).2.2) else
  if crc ((l.drop ((rdLen l 67108864 4).1 + 4)).take (rdLen l 67108864 4).2.1) = unfour (l.drop (rdLen l 67108864 4).1) then
    ((l.drop ((rdLen l 67108864 4).1 + 4)).take (rdLen l 67108864 4).2.1, (rdLen l 67108864 4).1 + 4 + (rdLen l 67108864 4).2.1, 0)
  else ([], 0, 13)
theorem rdFrame_err (l : List UInt8) (e : Nat) (h : rdLen l 67108864 4 = (0, 0, e)) (he : e ≠ 0) : rdFrame l = ([], 0, e) := by
  unfold rdFrame
  rw [h, if_pos he]
theorem rdFrame_ok (l : List UInt8) (v n : Nat) (h : rdLen l 67108864 4 = (n, v, 0)) (hc : crc ((l.drop (n + 4)).take v) = unfour (l.drop n)) : rdFrame l = ((l.drop (n + 4)).take v, n + 4 + v, 0) := by
  unfold rdFrame
  rw [h, if_neg (by simp), if_pos hc]
theorem rdFrame_sum (l : List UInt8) (v n : Nat) (h : rdLen l 67108864 4 = (n, v, 0)) (hc : ¬ crc ((l.drop (n + 4)).take v) = unfour (l.drop n)) : rdFrame l = ([], 0, 13) := by
  unfold rdFrame
  rw [h, if_neg (by simp), if_neg hc]
/-- A frame within the bytes, or an error and zeros. -/
theorem rdFrame_form (l : List UInt8) : (∃ p n, rdFrame l = (p, n, 0) ∧ 5 ≤ n ∧ n ≤ l.length ∧ p.length + 5 ≤ n ∧ p.length ≤ 67108864) ∨ ∃ e, rdFrame l = ([], 0, e) ∧ (e = 3 ∨ e = 11 ∨ e = 12 ∨ e = 13) := by
  rcases rdLen_form l 67108864 4 with ⟨v, n, h, _, hv, hl, h1, h2⟩ | ⟨e, h, he⟩
  · by_cases hc : crc ((l.drop (n + 4)).take v) = unfour (l.drop n)
    · refine .inl ⟨_, _, rdFrame_ok l v n h hc, by omega, by omega, ?_, ?_⟩ <;> rw [List.length_take, List.length_drop] <;> omega
    · exact .inr ⟨13, rdFrame_sum l v n h hc, by omega⟩
  · exact .inr ⟨e, rdFrame_err l e h (by omega), by omega⟩

/-- Frames behind one another; 'f' is at least how many there may be. -/
def rdFs : Nat → List UInt8 → List (List UInt8) × Nat × Nat
  | 0, _ => ([], 0, 0)
  | f + 1, l =>
    if l = [] then ([], 0, 0) else
    if (rdFrame l).2.2 ≠ 0 then ([], 0, (rdFrame l).2.2) else
    ((rdFrame l).1 :: (rdFs f (l.drop (rdFrame l).2.1)).1, (rdFrame l).2.1 + (rdFs f (l.drop (rdFrame l).2.1)).2.1, (rdFs f (l.drop (rdFrame l).2.1)).2.2)
def rdFrames (l : List UInt8) : List (List UInt8) × Nat × Nat := rdFs l.length l
theorem rdFs_nil (f : Nat) : rdFs f [] = ([], 0, 0) := by
  cases f with
  | zero => rfl
  | succ f => rw [rdFs, if_pos rfl]
theorem rdFs_err (f : Nat) (l : List UInt8) (e : Nat) (hf : l.length ≤ f) (hl : l ≠ []) (h : rdFrame l = ([], 0, e)) (he : e ≠ 0) : rdFs f l = ([], 0, e) := by
  cases f with
  | zero =>
    have := List.length_pos_iff.2 hl
    omega
  | succ f => rw [rdFs, if_neg hl, h, if_pos he]
/-- More fuel changes nothing. -/
theorem rdFs_fuel : ∀ (f g : Nat) (l : List UInt8), l.length ≤ f → l.length ≤ g → rdFs f l = rdFs g l := by
  intro f
  induction f with
  | zero =>
    intro g l hf _
    have : l = [] := List.eq_nil_of_length_eq_zero (by omega)
    subst this
    rw [rdFs_nil, rdFs_nil]
  | succ f ih =>
    intro g l hf hg
    by_cases hl : l = []
    · subst hl
      rw [rdFs_nil, rdFs_nil]
    · have hpos := List.length_pos_iff.2 hl
      cases g with
      | zero => omega
      | succ g =>
        rw [rdFs, rdFs, if_neg hl, if_neg hl]
        rcases rdFrame_form l with ⟨p, n, h, h1, h2, _⟩ | ⟨e, h, he⟩
        · rw [h]
          have hd : (l.drop n).length ≤ f := by rw [List.length_drop]; omega
          have hd2 : (l.drop n).length ≤ g := by rw [List.length_drop]; omega
          simp only [ih g (l.drop n) hd hd2]
        · rw [h, if_pos (by simp; omega), if_pos (by simp; omega)]
theorem rdFrames_nil : rdFrames [] = ([], 0, 0) := rfl
theorem rdFrames_err (l : List UInt8) (e : Nat) (hl : l ≠ []) (h : rdFrame l = ([], 0, e)) (he : e ≠ 0) : rdFrames l = ([], 0, e) := rdFs_err _ l e (Nat.le_refl _) hl h he
theorem rdFrames_ok (l p : List UInt8) (n : Nat) (hl : l ≠ []) (h : rdFrame l = (p, n, 0)) (hn : 1 ≤ n) : rdFrames l = (p :: (rdFrames (l.drop n)).1, n + (rdFrames (l.drop n)).2.1, (rdFrames (l.drop n)).2.2) := by
  have hpos := List.length_pos_iff.2 hl
  unfold rdFrames
  obtain ⟨f, hf⟩ : ∃ f, l.length = f + 1 := ⟨l.length - 1, by omega⟩
  rw [hf, rdFs, if_neg hl, h, if_neg (by simp)]
  simp only
  rw [rdFs_fuel f (l.drop n).length (l.drop n) (by rw [List.length_drop]; omega) (Nat.le_refl _)]
end Go.Proofs.YtjhafhfneedmjaaDoor
