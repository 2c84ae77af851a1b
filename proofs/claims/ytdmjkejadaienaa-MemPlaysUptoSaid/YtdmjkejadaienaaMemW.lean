/-
  What the laws need of the program's table, as one bundle of contracts: 'MemW M': M w S mb T: block mb of w is a table that is told by T (the words of the reference's table), its blocks in S.
-/
import Derived.Test.YtdmjkejadaienaaRngF
import Derived.Test.YtdmjkejadaienaaEnS
namespace Go.Proofs.Ytdmjkejadaienaa
open Go.RowKit

/-- The value of a version that is handed back. -/
def entA (e : Ent) (q : Option Addr) (c : Nat) : Value := .agg #[.string ⟨e.key.toArray⟩, .int .u64 (e.seq : Int), .bool e.gone, .slice q e.val.length c]
structure MemW (M : World → (Nat → Prop) → Nat → PTb → Prop) : Prop where
  wf : ∀ {w S mb T}, M w S mb T → WfT T
  step : ∀ {w w' : World} {S S' R : Nat → Prop} {mb T}, M w S mb T → Fr R w w' → (∀ k, k < w.heap.size → S k → ¬ R k) → (∀ k, k < w.heap.size → S k → S' k) → M w' S' mb T
  new : ∀ (w : World) (F : Nat → Prop) (v : Value) (draws : List Int), Cl w F v draws.length (ints draws) → draws.length ≤ 1048576 → (∀ d ∈ draws, -9223372036854775808 ≤ d ∧ d ≤ 9223372036854775807) →
    Calls Try.prog 16 #[v] w fun r w' => ∃ mb, r = .returned (.pointer (some ⟨mb, 0, none⟩)) ∧ M w' (fun k => w.heap.size ≤ k) mb ⟨draws, [], [], 0⟩ ∧ Below w.heap.size w w'
  put : ∀ (w : World) (S F : Nat → Prop) (mb : Nat) (T : PTb), M w S mb T → T.L.length ≤ 1048575 → T.came ≤ 1048575 → ∀ (e : Ent), FitE e → ∀ (q : Option Addr) (c : Nat), By w F (.slice q e.val.length c) e.val →
    Calls Try.prog 17 #[.pointer (some ⟨mb, 0, none⟩), .agg #[.string ⟨e.key.toArray⟩, .int .u64 (e.seq : Int), .bool e.gone, .slice q e.val.length c]] w
      fun r w' => r = .returned (.tuple #[]) ∧ M w' (More S w.heap.size) mb (putT T (normE e)) ∧ Fr S w w'
  get : ∀ (w : World) (S : Nat → Prop) (mb : Nat) (T : PTb), M w S mb T → T.L.length ≤ 1048576 → ∀ (s : List UInt8) (up : Nat), s.length ≤ 1099511627776 → up < 18446744073709551616 →
    Calls Try.prog 24 #[.pointer (some ⟨mb, 0, none⟩), .string ⟨s.toArray⟩, .int .u64 (up : Int)] w fun r w' => ∃ q c, r = .returned (.tuple #[.agg #[.string ⟨(optE (newestE T.L s up)).key.toArray⟩, .int .u64 ((optE (newestE T.L s up)).seq : Int), .bool (optE (newestE T.L s up)).gone, .slice q (optE (newestE T.L s up)).val.length c], .bool (newestE T.L s up).isSome]) ∧
      OwnS (fun k => w.heap.size ≤ k) w' (.slice q (optE (newestE T.L s up)).val.length c) (optE (newestE T.L s up)).val ∧ Below w.heap.size w w'
  len : ∀ (w : World) (S : Nat → Prop) (mb : Nat) (T : PTb), M w S mb T → T.L.length ≤ 1048576 → Calls Try.prog 21 #[.pointer (some ⟨mb, 0, none⟩)] w fun r w' => r = .returned (.int .i64 (T.L.length : Int)) ∧ Below w.heap.size w w'
  size : ∀ (w : World) (S : Nat → Prop) (mb : Nat) (T : PTb), M w S mb T → T.L.length ≤ 1048576 → Calls Try.prog 22 #[.pointer (some ⟨mb, 0, none⟩)] w fun r w' => r = .returned (.int .i64 (sizeE T.L : Int)) ∧ Below w.heap.size w w'
  height : ∀ (w : World) (S : Nat → Prop) (mb : Nat) (T : PTb), M w S mb T → T.L.length ≤ 1048576 → Calls Try.prog 19 #[.pointer (some ⟨mb, 0, none⟩)] w fun r w' => r = .returned (.int .i64 (highE T.H)) ∧ Below w.heap.size w w'
  all : ∀ (w : World) (S : Nat → Prop) (mb : Nat) (T : PTb), M w S mb T → T.L.length ≤ 1048576 → Calls Try.prog 28 #[.pointer (some ⟨mb, 0, none⟩)] w fun r w' => ∃ v, r = .returned v ∧ En w' (fun k => w.heap.size ≤ k) v T.L ∧ Below w.heap.size w w'
  from_ : ∀ (w : World) (S : Nat → Prop) (mb : Nat) (T : PTb), M w S mb T → T.L.length ≤ 1048576 → ∀ (s : List UInt8), s.length ≤ 1099511627776 → Calls Try.prog 29 #[.pointer (some ⟨mb, 0, none⟩), .string ⟨s.toArray⟩] w fun r w' => ∃ v, r = .returned v ∧ En w' (fun k => w.heap.size ≤ k) v (T.L.drop (fromE s T.L)) ∧ Below w.heap.size w w'
section
variable {M : World → (Nat → Prop) → Nat → PTb → Prop} {w w' : World} {S S' : Nat → Prop} {mb : Nat} {T : PTb}
theorem MemW.after (H : MemW M) (h : M w S mb T) (hb : Below w.heap.size w w') : M w' S mb T := H.step h (Fr.of_new hb (fun _ => False)) (fun _ _ _ hf => hf) (fun _ _ hs => hs)
theorem MemW.mono (H : MemW M) (h : M w S mb T) (hS : ∀ k, k < w.heap.size → S k → S' k) : M w S' mb T := H.step h (Fr.refl (fun _ => False) w) (fun _ _ _ hf => hf) hS
end

/-- What a play has put, and how far. -/
def tabP (draws : List Int) (es : List Ent) : PTb := es.foldl (fun T e => putT T (normE e)) ⟨draws, [], [], 0⟩
theorem tabP_snoc (draws : List Int) (es : List Ent) (e : Ent) : tabP draws (es ++ [e]) = putT (tabP draws es) (normE e) := by simp [tabP]
theorem fold_len : ∀ (es : List Ent) (T : PTb), (es.foldl (fun T e => putT T (normE e)) T).L.length ≤ T.L.length + es.length ∧ (es.foldl (fun T e => putT T (normE e)) T).came ≤ T.came + es.length
  | [], T => by simp
  | e :: r, T => by
    have h := fold_len r (putT T (normE e))
    have := putT_len T (normE e)
    simp only [List.foldl_cons, List.length_cons]
    omega
theorem tabP_len (draws : List Int) (es : List Ent) : (tabP draws es).L.length ≤ es.length ∧ (tabP draws es).came ≤ es.length := by
  have := fold_len es ⟨draws, [], [], 0⟩
  simpa [tabP] using this
theorem fold_L : ∀ (es : List Ent) (T : PTb), (es.foldl (fun T e => putT T (normE e)) T).L = putsL T.L es
  | [], T => rfl
  | e :: r, T => by
    rw [List.foldl_cons, fold_L r, putT_L]
    rfl
theorem tabP_L (draws : List Int) (es : List Ent) : (tabP draws es).L = putsL [] es := fold_L es _
end Go.Proofs.Ytdmjkejadaienaa
