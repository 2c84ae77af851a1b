/-
  Plain facts on a front of frames: the whole ones are read, and no others; it is too short, if it does not end behind one.
-/
import Derived.Test.YtjhafhfneedmjaaDoorBack
namespace Go.Proofs.YtjhafhfneedmjaaDoor

/-- How many frames are whole within c bytes, and how many bytes they have. -/
def wh : List (List UInt8) → Nat → Nat × Nat
  | [], _ => (0, 0)
  | l :: r, c => if (frame l).length ≤ c then ((wh r (c - (frame l).length)).1 + 1, (frame l).length + (wh r (c - (frame l).length)).2) else (0, 0)

theorem rdFrame_short (l : List UInt8) (c : Nat) (hl : l.length ≤ 67108864) (hc : c < (frame l).length) : rdFrame ((frame l).take c) = ([], 0, 11) := by
  have hfl := frame_eq_length l
  by_cases h : c < (num l.length).length
  · have e : (frame l).take c = (num l.length).take c := by
      unfold frame
      rw [List.take_append_of_le_length (by omega)]
    rw [e]
    exact rdFrame_err _ 11 (rdLen_err _ _ _ 11 (rdNum_front l.length c (by omega) h) (by decide)) (by decide)
  · have e : (frame l).take c = num l.length ++ (four (crc l) ++ l).take (c - (num l.length).length) := by
      unfold frame
      rw [List.take_append, List.take_of_length_le (by omega)]
    rw [e]
    refine rdFrame_err _ 11 (rdLen_short _ _ _ l.length (num l.length).length (rdNum_num l.length _ (by omega)) (by omega) ?_) (by decide)
    rw [List.length_append, List.length_take, List.length_append, four_length]
    omega

theorem rdFrames_front : ∀ (ls : List (List UInt8)) (c : Nat), (∀ l ∈ ls, l.length ≤ 67108864) → c ≤ (frames ls).length →
    rdFrames ((frames ls).take c) = (ls.take (wh ls c).1, (wh ls c).2, if (wh ls c).2 = c then 0 else 11) := by
  intro ls
  induction ls with
  | nil =>
    intro c _ hc
    have : c = 0 := by simpa [frames] using hc
    subst this
    rfl
  | cons l r ih =>
    intro c hall hc
    have hl := hall l (by simp)
    have hpos := (frame_eq_length l)
    rw [frames_cons] at hc ⊢
    by_cases h : (frame l).length ≤ c
    · have e : (frame l ++ frames r).take c = frame l ++ (frames r).take (c - (frame l).length) := by
        rw [List.take_append, List.take_of_length_le (by omega)]
      have hne : frame l ++ (frames r).take (c - (frame l).length) ≠ [] := by
        intro h0
        have := congrArg List.length h0
        rw [List.length_append] at this
        simp only [List.length_nil] at this
        have := num_len_pos l.length
        omega
      rw [e, rdFrames_ok _ l (frame l).length hne (rdFrame_frame l _ hl) (by omega), List.drop_left, ih (c - (frame l).length) (fun m hm => hall m (by simp [hm])) (by rw [List.length_append] at hc; omega)]
      simp only [wh, if_pos h, List.take_succ_cons]
      congr 2
      by_cases h2 : (wh r (c - (frame l).length)).2 = c - (frame l).length
      · rw [if_pos h2, if_pos (by omega)]
      · rw [if_neg h2, if_neg (by omega)]
    · simp only [wh, if_neg h, List.take_zero]
      have e : (frame l ++ frames r).take c = (frame l).take c := List.take_append_of_le_length (by omega)
      rw [e]
      by_cases h0 : c = 0
      · subst h0
        rfl
      · rw [if_neg (by omega)]
        refine rdFrames_err _ 11 (fun h1 => ?_) (rdFrame_short l c hl (by omega)) (by decide)
        have := congrArg List.length h1
        rw [List.length_take] at this
        simp only [List.length_nil] at this
        omega

/-- Step by step. -/
theorem wh_step (ls : List (List UInt8)) (k c a : Nat) (l : List UInt8) (hk : ls[k]? = some l) (ha : a + (frame l).length ≤ c)
    (h : wh ls c = (k + (wh (ls.drop k) (c - a)).1, a + (wh (ls.drop k) (c - a)).2)) :
    wh ls c = (k + 1 + (wh (ls.drop (k + 1)) (c - (a + (frame l).length))).1, a + (frame l).length + (wh (ls.drop (k + 1)) (c - (a + (frame l).length))).2) := by
  obtain ⟨hlt, he⟩ := List.getElem?_eq_some_iff.1 hk
  have hd : ls.drop k = l :: ls.drop (k + 1) := by rw [List.drop_eq_getElem_cons hlt, he]
  rw [h, hd]
  simp only [wh]
  rw [if_pos (by omega), show c - a - (frame l).length = c - (a + (frame l).length) from by omega]
  simp only [Prod.mk.injEq]
  omega
theorem wh_stop (ls : List (List UInt8)) (k c a : Nat) (h : wh ls c = (k + (wh (ls.drop k) (c - a)).1, a + (wh (ls.drop k) (c - a)).2))
    (hs : ls.length ≤ k ∨ ∃ l, ls[k]? = some l ∧ c < a + (frame l).length) : wh ls c = (k, a) := by
  rw [h]
  rcases hs with hs | ⟨l, hk, hlt⟩
  · rw [List.drop_eq_nil_of_le hs]
    rfl
  · obtain ⟨hl, he⟩ := List.getElem?_eq_some_iff.1 hk
    have hd : ls.drop k = l :: ls.drop (k + 1) := by rw [List.drop_eq_getElem_cons hl, he]
    have h1 := frame_eq_length l
    have h2 := num_len_pos l.length
    rw [hd]
    simp only [wh]
    rw [if_neg (by omega)]
    rfl
end Go.Proofs.YtjhafhfneedmjaaDoor
