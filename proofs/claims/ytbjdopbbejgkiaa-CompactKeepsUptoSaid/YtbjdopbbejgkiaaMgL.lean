/-
  The walks over glacierlaw6.MergeSees and MergePrunes.
-/
import Derived.Test.YtbjdopbbejgkiaaMgI
import Derived.Test.YtbjdopbbejgkiaaMgJ
import Derived.Test.YtbjdopbbejgkiaaMgK
namespace Go.Proofs.Ytbjdopbbejgkiaa
open Go.RowKit

theorem few_len {es : List Ent} {most : Int} (h : fewE es most = true) : (es.length : Int) ≤ most := by
  unfold fewE at h
  simp only [Bool.and_eq_true, decide_eq_true_eq] at h
  exact h.1

end Go.Proofs.Ytbjdopbbejgkiaa
