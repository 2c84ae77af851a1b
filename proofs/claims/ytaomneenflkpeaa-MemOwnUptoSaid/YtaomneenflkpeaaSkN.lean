/-
  The walk over a table's Put.
-/
import Derived.Test.YtaomneenflkpeaaSkL
namespace Go.Proofs.Ytaomneenflkpeaa
open Go.RowKit

theorem highE_max : ∀ (l : List Int) (m : Int), l.foldl (fun m h => if m < h then h else m) m = max m (l.foldl (fun m h => if m < h then h else m) 0) ∨ m < 0
  | [], m => by
    by_cases h : m < 0
    · exact .inr h
    · left
      simp
      omega
  | y :: r, m => by
    by_cases h : m < 0
    · exact .inr h
    · left
      simp only [List.foldl_cons]
      have h1 := highE_max r (if m < y then y else m)
      have h2 := highE_max r (if (0 : Int) < y then y else 0)
      rcases h1 with h1 | h1
      · rcases h2 with h2 | h2
        · rw [h1, h2]
          split <;> split <;> omega
        · exfalso; split at h2 <;> omega
      · exfalso; split at h1 <;> omega
theorem highE_append (a b : List Int) : highE (a ++ b) = max (highE a) (highE b) := by
  have h0 : 0 ≤ highE a := (highE_ge a 0).1
  unfold highE at h0 ⊢
  rw [List.foldl_append]
  rcases highE_max b (a.foldl (fun m h => if m < h then h else m) 0) with h | h
  · exact h
  · omega
theorem highE_cons (t : Int) (l : List Int) (ht : 0 ≤ t) : highE (t :: l) = max t (highE l) := by
  have : t :: l = [t] ++ l := rfl
  rw [this, highE_append]
  congr 1
  unfold highE
  simp
  omega
theorem highE_ins (l : List Int) (P : Nat) (t : Int) (ht : 0 ≤ t) : highE (l.take P ++ t :: l.drop P) = max (highE l) t := by
  have h : highE l = max (highE (l.take P)) (highE (l.drop P)) := by rw [← highE_append, List.take_append_drop]
  rw [highE_append, highE_cons _ _ ht, h]
  omega
theorem sizeE_app (a b : List Ent) : sizeE (a ++ b) = sizeE a + sizeE b := by simp [sizeE]
theorem sizeE_ins (l : List Ent) (P : Nat) (x : Ent) : sizeE (l.take P ++ x :: l.drop P) = sizeE l + (x.key.length + x.val.length + 16) := by
  have h : sizeE l = sizeE (l.take P) + sizeE (l.drop P) := by rw [← sizeE_app, List.take_append_drop]
  have h2 : sizeE (x :: l.drop P) = (x.key.length + x.val.length + 16) + sizeE (l.drop P) := by simp [sizeE]
  rw [sizeE_app, h2, h]
  omega
theorem sizeE_set (l : List Ent) (P : Nat) (x y : Ent) (h : l[P]? = some y) : sizeE (l.set P x) + (y.key.length + y.val.length + 16) = sizeE l + (x.key.length + x.val.length + 16) := by
  have hlt := (List.getElem?_eq_some_iff.1 h).1
  have h1 := sizeE_ins (l.take P ++ l.drop (P + 1)) P x
  have h2 := sizeE_ins (l.take P ++ l.drop (P + 1)) P y
  have hl : (l.take P).length = P := by simp; omega
  have e1 : (l.take P ++ l.drop (P + 1)).take P = l.take P := by rw [List.take_append_of_le_length (by omega), List.take_of_length_le (by omega)]
  have e2 : (l.take P ++ l.drop (P + 1)).drop P = l.drop (P + 1) := by rw [List.drop_append_of_le_length (by omega), List.drop_of_length_le (by omega), List.nil_append]
  rw [e1, e2] at h1 h2
  have e3 : l.set P x = l.take P ++ x :: l.drop (P + 1) := by rw [List.set_eq_take_append_cons_drop, if_pos hlt]
  have e4 : l = l.take P ++ y :: l.drop (P + 1) := by
    have : l.set P y = l := by
      refine List.ext_getElem? fun i => ?_
      rw [List.getElem?_set]
      split
      · rename_i e
        subst e
        exact h.symm
      · rfl
    conv => lhs; rw [← this]
    rw [List.set_eq_take_append_cons_drop, if_pos hlt]
  rw [← e3] at h1
  rw [← e4] at h2
  omega
def oneSz (x : Ent) : Nat := x.key.length + x.val.length + 16
theorem size_put {T : PTb} {x : Ent} : sizeE (putT T x).L + (if foundE x T.L = true then oneSz (wasE T x) else 0) = sizeE T.L + oneSz x := by
  cases hf : foundE x T.L
  · rw [putT_new hf]
    simp only [Bool.false_eq_true, if_false]
    exact (sizeE_ins _ _ _)
  · rw [putT_found hf]
    unfold wasE
    rw [hf]
    simp only [if_true]
    cases hp : T.L[plcE x T.L]? with
    | none =>
      unfold foundE at hf
      rw [hp] at hf
      cases hf
    | some y =>
      have := sizeE_set T.L (plcE x T.L) x y hp
      unfold oneSz
      simp only [List.getD_eq_getElem?_getD, hp, Option.getD_some]
      exact this
theorem high_put {T : PTb} {x : Ent} {hh n : Nat} (h : (hh : Int) = highE T.H) (hn : (n : Int) = tow T) : (((if foundE x T.L = true then hh else max hh n : Nat)) : Int) = highE (putT T x).H := by
  have ht := tow_le T
  cases hf : foundE x T.L
  · rw [putT_new hf]
    simp only [Bool.false_eq_true, if_false]
    rw [highE_ins _ _ _ (by omega), ← h, ← hn]
    omega
  · rw [putT_found hf]
    simpa using h
theorem was_fit {T : PTb} (h : WfT T) {x : Ent} (hf : foundE x T.L = true) : FitE (wasE T x) ∧ oneSz (wasE T x) ≤ sizeE T.L := by
  unfold wasE
  rw [if_pos hf]
  cases hp : T.L[plcE x T.L]? with
  | none =>
    unfold foundE at hf
    rw [hp] at hf
    cases hf
  | some y =>
    simp only [List.getD_eq_getElem?_getD, hp, Option.getD_some]
    refine ⟨h.fit y (List.mem_of_getElem? hp), ?_⟩
    have hlt := (List.getElem?_eq_some_iff.1 hp).1
    have e : T.L[plcE x T.L] = y := (List.getElem?_eq_some_iff.1 hp).2
    have h1 := sizeE_snoc T.L (plcE x T.L) hlt
    have h2 := sizeE_take T.L (plcE x T.L + 1)
    rw [e] at h1
    unfold oneSz
    omega
end Go.Proofs.Ytaomneenflkpeaa
