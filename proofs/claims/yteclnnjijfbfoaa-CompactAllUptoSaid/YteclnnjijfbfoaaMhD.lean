/-
  The walk over glacierlaw6.MergeLists.
-/
import Derived.Test.YteclnnjijfbfoaaMhC
namespace Go.Proofs.Yteclnnjijfbfoaa
open Go.RowKit

theorem fewL_of {ls : List (List Ent)} (h : fewL ls = true) : ls.length ≤ 30 ∧ (∀ l ∈ ls, l.length ≤ 1000) ∧ ls.flatten.length ≤ 3000 := by
  unfold fewL at h
  simp only [Bool.and_eq_true, decide_eq_true_eq] at h
  refine ⟨h.1, fun l hl => ?_, h.2.2⟩
  have := few_lenA (List.all_eq_true.1 h.2.1 l hl)
  omega

end Go.Proofs.Yteclnnjijfbfoaa
