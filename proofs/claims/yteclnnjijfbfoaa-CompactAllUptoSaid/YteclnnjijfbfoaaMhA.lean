/-
  The walk over glacierlaw6.few.
-/
import Derived.Test.YteclnnjijfbfoaaMgZ
import Derived.Test.YteclnnjijfbfoaaMgJ
namespace Go.Proofs.Yteclnnjijfbfoaa
open Go.RowKit

theorem few_lenA {es : List Ent} {most : Int} (h : fewE es most = true) : (es.length : Int) ≤ most := by
  unfold fewE at h
  simp only [Bool.and_eq_true, decide_eq_true_eq] at h
  exact h.1

def fewL (ls : List (List Ent)) : Bool := decide (ls.length ≤ 30) && (ls.all (fun l => fewE l 1000) && decide (ls.flatten.length ≤ 3000))

end Go.Proofs.Yteclnnjijfbfoaa
