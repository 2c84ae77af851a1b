/-
  The walk over glacierlaw6.known: the chapter's example.
-/
import Derived.Test.YtbjdopbbejgkiaaMgH
import Derived.Lib.SlBytesConst
namespace Go.Proofs.Ytbjdopbbejgkiaa
open Go.RowKit

def ke1 : Ent := ⟨[97], 5, false, [120]⟩
def ke2 : Ent := ⟨[97], 3, false, [121]⟩
def ke3 : Ent := ⟨[97], 1, false, [122]⟩
def ke4 : Ent := ⟨[98], 2, true, []⟩
def keL : List Ent := [ke1, ke2, ke3, ke4]
theorem ke_right : rightE keL = true := by kernel_rfl
theorem ke_seen : seenE keL 4 = [ke2] := by kernel_rfl
theorem ke_prnF : prnE keL 3 false = [ke1, ke2, ke4] := by kernel_rfl
theorem ke_prnT : prnE keL 3 true = [ke1, ke2] := by kernel_rfl
theorem byte_by (w : World) (F : Nat → Prop) (b : UInt8) (hF : F w.heap.size) : By (w.alloc (.cells #[.int .u8 (b.toNat : Int)] 5 (1, 2))) F (.slice (some ⟨w.heap.size, 0, none⟩) 1 1) [b] := by
  refine ⟨_, _, rfl, Nat.le_refl _, by simp, by simp, (fun e => by cases e), fun j x hx => ⟨w.heap.size, 0, rfl, by simp, hF, ?_⟩⟩
  rw [Nat.zero_add]
  exact cell_of (heap_alloc_new w _) (by simpa [bs, bv] using hx)

end Go.Proofs.Ytbjdopbbejgkiaa
