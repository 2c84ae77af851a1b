/-
  What a call has handed back is laid into a box: an entry in a new block, or in one that was there.
-/
import Derived.Test.YteclnnjijfbfoaaRngA
import Derived.Test.YteclnnjijfbfoaaEnD
namespace Go.Proofs.Yteclnnjijfbfoaa
open Go.RowKit

section
variable {w0 w8 : World} {e : Ent} {q : Option Addr} {c : Nat} {S : Nat → Prop}
theorem box_new (hb : Below w0.heap.size w0 w8) (t : TypeId) (ht : t = 33) :
    BoxE' (w8.alloc (.cells #[.string ⟨e.key.toArray⟩, .int .u64 (e.seq : Int), .bool e.gone, .slice q e.val.length c] t)) w8.heap.size (e, (q, c)) ∧ Below w0.heap.size w0 (w8.alloc (.cells #[.string ⟨e.key.toArray⟩, .int .u64 (e.seq : Int), .bool e.gone, .slice q e.val.length c] t)) := by
  subst ht
  exact ⟨heap_alloc_new w8 _, hb.alloc hb.size _⟩
theorem box_set {g : Nat} {a b d f : Value} (hb : Below w0.heap.size w0 w8) (hz : w8.heap[g]? = some (.cells #[a, b, d, f] 33 (0, 0))) (hg : w0.heap.size ≤ g) :
    BoxE' (set4 w8 g (.string ⟨e.key.toArray⟩) (.int .u64 (e.seq : Int)) (.bool e.gone) (.slice q e.val.length c)) g (e, (q, c)) ∧ Below w0.heap.size w0 (set4 w8 g (.string ⟨e.key.toArray⟩) (.int .u64 (e.seq : Int)) (.bool e.gone) (.slice q e.val.length c)) :=
  ⟨set4_heap hz _ _ _ _, hb.trans ((set4_fr w8 g _ _ _ _ (fun k => k = g) rfl).below hb.size (fun k hk e => by omega))⟩
theorem own_new (ho : OwnS S w8 (.slice q e.val.length c) e.val) (o : Obj) : OwnS (fun _ => True) (w8.alloc o) (.slice q e.val.length c) e.val :=
  ho.keep (fun j hj => by
    obtain ⟨cur, hc⟩ := ho.1.heap hj
    exact alloc_old (block_lt hc) _) (fun _ _ _ => trivial)
theorem own_set {g : Nat} {a b d f x y z u : Value} (ho : OwnS S w8 (.slice q e.val.length c) e.val) (hz : w8.heap[g]? = some (.cells #[a, b, d, f] 33 (0, 0))) : OwnS (fun _ => True) (set4 w8 g x y z u) (.slice q e.val.length c) e.val :=
  ho.keep (fun j hj => by
    obtain ⟨cur, hc⟩ := ho.1.heap hj
    exact (set4_fr w8 g x y z u (fun k => k = g) rfl).block j (block_lt hc) (kind_ne hc hz (by decide))) (fun _ _ _ => trivial)
theorem by_set {g : Nat} {x y z u v : Value} {l : List UInt8} {F : Nat → Prop} (h : By w8 F v l) (hg : ∀ k, F k → k ≠ g) : By (set4 w8 g x y z u) F v l :=
  h.step (set4_fr w8 g x y z u (fun k => k = g) rfl) (fun k _ hF e => hg k hF e)
end
end Go.Proofs.Yteclnnjijfbfoaa
