/-
  The walk over glacierref6.Seen: of versions in order, what is seen up to a number.
-/
import Derived.Test.YtagehnclkneolaaGreatDoorMeP
import Derived.IntWalk
namespace Go.Proofs.YtagehnclkneolaaGreatDoor
open Go.RowKit

/-- What one more entry makes. -/
theorem seenS_step {l : List Ent} {k : Nat} (hk : k < l.length) (up : Nat) (d : Bool)
    (hd : (0 < k ∧ l[k].key ≠ (l[k - 1]'(by omega)).key ∧ d = false) ∨ ((k = 0 ∨ l[k].key = (l[k - 1]'(by omega)).key) ∧ d = (seenS up l k).2)) :
    seenS up l (k + 1) = if d = true ∨ up < l[k].seq then ((seenS up l k).1, d) else (if l[k].gone = true then (seenS up l k).1 else (seenS up l k).1 ++ [l[k]], true) := by
  have he : (if (match l[k - 1]? with | some f => 0 < k && l[k].key != f.key | none => false) = true then false else (seenS up l k).2) = d := by
    rw [List.getElem?_eq_getElem (by omega)]
    rcases hd with ⟨h0, h1, rfl⟩ | ⟨h, rfl⟩
    · rw [if_pos (by simp [h0, h1])]
    · rw [if_neg]
      rcases h with rfl | h
      · simp
      · simp [h]
  rw [← he]
  conv => lhs; unfold seenS
  rw [List.getElem?_eq_getElem hk]
  rfl
theorem seenS_len (up : Nat) (l : List Ent) : ∀ k, (seenS up l k).1.length ≤ k
  | 0 => by simp [seenS]
  | k + 1 => by
    have ih := seenS_len up l k
    unfold seenS
    split
    · omega
    · dsimp only
      generalize (if (match l[k - 1]? with | some f => 0 < k && _ != f.key | none => false) = true then false else (seenS up l k).2) = d
      split
      · exact Nat.le_succ_of_le ih
      · dsimp only
        split
        · exact Nat.le_succ_of_le ih
        · simp; omega

/-- The row of what is seen so far. -/
def SeenW (w1 : World) (F : Nat → Prop) (o : List Ent) (v : Value) (wr : World) : Prop :=
  ∃ us, us.length = o.length ∧ wr.ownsRow w1.heap.size 37 4 v o.length (cellsE o us) ∧ (∀ (j : Nat) (e : Ent) (u : Value), o[j]? = some e → us[j]? = some u → By w1 F u e.val) ∧ Below w1.heap.size w1 wr
theorem SeenW.drewN {w1 wr : World} {F : Nat → Prop} {o : List Ent} {v : Value} (h : SeenW w1 F o v wr) (n : Nat) : SeenW w1 F o v (wr.drewN n) := by
  obtain ⟨us, h1, h2, h3, h4⟩ := h
  exact ⟨us, h1, row_keep h2 fun _ _ => rfl, h3, below_drewN h4 n⟩
theorem SeenW.snoc {w1 w2 : World} {F : Nat → Prop} {o : List Ent} {v' u : Value} {e : Ent} {us : List Value} (h1 : us.length = o.length) (h3 : ∀ (j : Nat) (e : Ent) (u : Value), o[j]? = some e → us[j]? = some u → By w1 F u e.val)
    (hr : w2.ownsRow w1.heap.size 37 4 v' (o.length + 1) (cellsE o us ++ cellsE [e] [u])) (hb : Below w1.heap.size w1 w2) (hu : By w1 F u e.val) : SeenW w1 F (o ++ [e]) v' w2 := by
  refine ⟨us ++ [u], by simp [h1], ?_, fun j x y hx hy => ?_, hb⟩
  · rw [List.length_append, cellsE_append _ _ _ _ h1]
    exact hr
  · by_cases hj : j < o.length
    · rw [List.getElem?_append_left hj] at hx
      rw [List.getElem?_append_left (by omega)] at hy
      exact h3 j x y hx hy
    · rw [List.getElem?_append_right (by omega)] at hx
      rw [List.getElem?_append_right (by omega), h1] at hy
      cases hq : j - o.length with
      | zero =>
        rw [hq] at hx hy
        obtain rfl : e = x := by simpa using hx
        obtain rfl : u = y := by simpa using hy
        exact hu
      | succ n =>
        rw [hq] at hx
        simp at hx

end Go.Proofs.YtagehnclkneolaaGreatDoor
