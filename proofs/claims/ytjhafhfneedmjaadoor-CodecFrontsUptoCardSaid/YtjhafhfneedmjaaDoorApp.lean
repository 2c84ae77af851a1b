/-
  append onto a row of bytes of the call's own, from whatever bytes: one law for the walk; what a new block of bytes reads as.
-/
import Derived.Test.YtjhafhfneedmjaaDoorMem
import Derived.Test.YtjhafhfneedmjaaDoorRows
import Derived.Laws.AppendOwnNone
import Derived.Deep.MidRow
import Derived.WalkKit
import Derived.OwnWalk
import Derived.Laws.Rows
import Derived.Laws.IdiomStrings
import Derived.Laws.OwnMore
namespace Go.Proofs.YtjhafhfneedmjaaDoor
open Go.RowKit

theorem infoU8 : (Tryd.prog.info? 5).map (fun i => (i.zero, i.size, i.bytes)) = some (some (.int .u8 0), 1, 1) := by kernel_rfl
theorem bs_oneCell (l : List UInt8) : ∀ u ∈ bs l, u.oneCell' = true := by
  intro u hu
  obtain ⟨x, _, rfl⟩ := List.mem_map.1 hu
  rfl
theorem Own.alloc {w : World} {base : Nat} {v : Value} {l : List UInt8} (h : Own w base v l) (o : Obj) : Own (w.alloc o) base v l := World.ownsRow.alloc h o
theorem Own.block {w : World} {base : Nat} {v : Value} {l : List UInt8} (h : Own w base v l) : ∀ k, v.ownBlock = some k → base ≤ k := fun k hk => (World.ownsRow.lt h k hk).1

theorem wpList_append_rd {w : World} {ops : Array Oper} {rest : List Oper} {o : Oper} {a : Act} {Q : Exit → Act → World → Prop} (hgd : o.guard = none) (s x : Operand)
    (ho : o.op = .call { callee := .builtin .append, args := #[s, x], argTypes := #[28, 28] })
    (base B : Nat) (v u : Value) (l m : List UInt8) (hs : a.eval s = v) (hown : Own w base v l) (hx : a.eval x = u) (hrd : Rd w B u m)
    (hlen : l.length + m.length ≤ 140737488355328) (hbase : base ≤ w.heap.size)
    (h : ∀ v' w', Own w' base v' (l ++ m) → Below base w w' → wpList Tryd.prog ops Q rest (a.put o.dst v') w') : wpList Tryd.prog ops Q (o :: rest) a w := by
  obtain ⟨i0, hi, hz0, hz1, hz2⟩ := info_parts infoU8
  obtain ⟨p, cap, rfl, hlc, ⟨hl47, hcm, hcn⟩, hat⟩ := hrd
  cases p with
  | none =>
    have hm : m = [] := by
      apply List.eq_nil_of_length_eq_zero
      rcases Nat.eq_zero_or_pos m.length with h0 | h0
      · exact h0
      · obtain ⟨b, off, e, _⟩ := hat h0
        cases e
    subst hm
    have hc0 := hcn rfl
    subst hc0
    refine wpList_append_own_none hgd s x _ ho base 5 i0 1 Tryd.underlying28 hi v _ _ hs hown hx ?_
    exact h v w (by simpa using hown) (Below.refl _ _)
  | some ad =>
    have hnews : ∀ j u, (bs m)[j]? = some u → w.cell? (ad.add j) = some u := by
      intro j u hu
      have hj : j < m.length := by
        have := (List.getElem?_eq_some_iff.1 hu).1
        simpa [bs] using this
      obtain ⟨b, off, e, _, hc⟩ := hat (by omega)
      injection e with e
      subst e
      rw [Addr.add_mid, hc j hj, ← bs_at m j hj, hu]
    refine wpList_append_own w hgd s x _ ho base 5 i0 (.int .u8 0) 1 1 Tryd.underlying28 hi hz0 hz1 hz2 rfl (by decide) v _ _ hs hown ad m.length cap (bs m) hx (by simp [bs_length]) hnews (bs_oneCell m) (by unfold maxLen; omega) (by omega) hbase ?_
    intro v' w' hown' hg _
    exact h v' w' (Own.of hown' (by simp) (by rw [bs_append])) ((Below.refl _ _).grown hg hbase hown.block)

/-- A new block of bytes. -/
theorem Rd.new (w : World) (l : List UInt8) (t : TypeId) (cs : Array Value) (hcs : cs = (bs l).toArray) (hl : l.length ≤ 140737488355328) :
    Rd (w.alloc (.cells cs t)) (w.heap.size + 1) (.slice (some ⟨w.heap.size, 0, none⟩) l.length l.length) l := by
  subst hcs
  refine ⟨_, _, rfl, Nat.le_refl _, ⟨hl, by omega, fun h => by cases h⟩, fun h0 => ⟨_, _, rfl, by omega, fun i hi => ?_⟩⟩
  rw [Nat.zero_add, cell_of_row _ _ _ _ _ _ (heap_alloc_new w (.cells (bs l).toArray t)), ← bs_at l i hi]
  simp
theorem Rd.newm (w : World) (l : List UInt8) (t : TypeId) (cs : Array Value) (fr : Nat × Nat) (hcs : cs = (bs l).toArray) (hl : l.length ≤ 140737488355328) :
    Rd (w.alloc (.cells cs t fr)) (w.heap.size + 1) (.slice (some ⟨w.heap.size, 0, none⟩) l.length l.length) l := by
  subst hcs
  refine ⟨_, _, rfl, Nat.le_refl _, ⟨hl, by omega, fun h => by cases h⟩, fun h0 => ⟨_, _, rfl, by omega, fun i hi => ?_⟩⟩
  rw [Nat.zero_add, World.cell?_alloc_mark, ← bs_at l i hi]
  simp
end Go.Proofs.YtjhafhfneedmjaaDoor
