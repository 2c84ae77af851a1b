/-
  What the laws need of the program's table, as one bundle of contracts: 'MemW M': M w S mb T: block mb of w is a table that is told by T (the words of the reference's table), its blocks in S.
-/
import Derived.Test.YtaomneenflkpeaaRngF
import Derived.Test.YtaomneenflkpeaaEnS
namespace Go.Proofs.Ytaomneenflkpeaa
open Go.RowKit

/-- The value of a version that is handed back. -/
def entA (e : Ent) (q : Option Addr) (c : Nat) : Value := .agg #[.string ⟨e.key.toArray⟩, .int .u64 (e.seq : Int), .bool e.gone, .slice q e.val.length c]
section
variable {M : World → (Nat → Prop) → Nat → PTb → Prop} {w w' : World} {S S' : Nat → Prop} {mb : Nat} {T : PTb}
end

/-- What a play has put, and how far. -/
def tabP (draws : List Int) (es : List Ent) : PTb := es.foldl (fun T e => putT T (normE e)) ⟨draws, [], [], 0⟩
theorem tabP_snoc (draws : List Int) (es : List Ent) (e : Ent) : tabP draws (es ++ [e]) = putT (tabP draws es) (normE e) := by simp [tabP]
theorem fold_len : ∀ (es : List Ent) (T : PTb), (es.foldl (fun T e => putT T (normE e)) T).L.length ≤ T.L.length + es.length ∧ (es.foldl (fun T e => putT T (normE e)) T).came ≤ T.came + es.length
  | [], T => by simp
  | e :: r, T => by
    have h := fold_len r (putT T (normE e))
    have := putT_len T (normE e)
    simp only [List.foldl_cons, List.length_cons]
    omega
theorem tabP_len (draws : List Int) (es : List Ent) : (tabP draws es).L.length ≤ es.length ∧ (tabP draws es).came ≤ es.length := by
  have := fold_len es ⟨draws, [], [], 0⟩
  simpa [tabP] using this
theorem fold_L : ∀ (es : List Ent) (T : PTb), (es.foldl (fun T e => putT T (normE e)) T).L = putsL T.L es
  | [], T => rfl
  | e :: r, T => by
    rw [List.foldl_cons, fold_L r, putT_L]
    rfl
theorem tabP_L (draws : List Int) (es : List Ent) : (tabP draws es).L = putsL [] es := fold_L es _
end Go.Proofs.Ytaomneenflkpeaa
