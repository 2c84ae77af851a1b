/-
  From an argument's reading to the words of the walks over the field of 256: one byte.
-/
import Derived.Test.YtjojimmfjmchcaaOpE
import Derived.Test.YtjojimmfjmchcaaGfP
namespace Go.Proofs.Ytjojimmfjmchcaa.Ope
open Go.ChangeShapes Go.WideShapes Go.ChangeAt Go.RowKit Go.Deep Go.Proofs.Ytjojimmfjmchcaa

theorem u8_g8 (x : Int) (h : 0 ≤ x ∧ x ≤ 255) : ∃ a : G8, x = (a.toNat : Int) := by
  obtain ⟨n, rfl⟩ := Int.eq_ofNat_of_zero_le h.1
  refine ⟨BitVec.ofNat 8 n, ?_⟩
  rw [BitVec.toNat_ofNat]
  omega
end Go.Proofs.Ytjojimmfjmchcaa.Ope
