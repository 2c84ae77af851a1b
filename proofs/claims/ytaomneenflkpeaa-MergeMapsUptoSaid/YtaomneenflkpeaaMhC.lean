/-
  The walk over glacierref6.Merge.
-/
import Derived.Test.YtaomneenflkpeaaMhB
namespace Go.Proofs.Ytaomneenflkpeaa
open Go.RowKit

theorem SeenW.en {w wr : World} {F : Nat → Prop} {o : List Ent} {v : Value} (h : SeenW w F o v wr) (hn : o.length ≤ 1048576) : En wr (fun _ => True) v o := by
  obtain ⟨us, hus, hrow, hvals, hbw⟩ := h
  exact ⟨us, hus, Cl.of_own hrow (by omega) (fun _ _ => trivial) (cellsE_length _ _ hus), fun k e u h1 h2 => ((hvals k e u h1 h2).below hbw).mono fun _ _ _ => trivial⟩

end Go.Proofs.Ytaomneenflkpeaa
