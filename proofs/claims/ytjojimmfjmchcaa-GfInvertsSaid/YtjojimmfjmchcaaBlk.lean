/-
  Blocks of memory, what changes them; a slice of one-cell values in blocks outside a set; a slice of slices of bytes.
-/
import Derived.Test.YtjojimmfjmchcaaRow
namespace Go.Proofs.Ytjojimmfjmchcaa
open Go.RowKit Go.Maps

/-! ### blocks -/
theorem setCell_same {w : World} {b off : Nat} {c : Array Value} {e : TypeId} {fz : Nat × Nat} (h : w.heap[b]? = some (.cells c e fz)) (u : Value) :
    (w.setCell ⟨b, off, none⟩ u).heap[b]? = some (.cells (c.setIfInBounds off u) e fz) := by
  simp [World.setCell, Array.getElem?_modify, h]
theorem setCell_other {w : World} {b off k : Nat} (h : k ≠ b) (u : Value) : (w.setCell ⟨b, off, none⟩ u).heap[k]? = w.heap[k]? := Below.heap_setCell _ _ _ _ h
theorem alloc_old {w : World} {k : Nat} (h : k < w.heap.size) (o : Obj) : (w.alloc o).heap[k]? = w.heap[k]? := Below.heap_alloc w o k h
theorem block_lt {w : World} {b : Nat} {o : Obj} (h : w.heap[b]? = some o) : b < w.heap.size := (Array.getElem?_eq_some_iff.1 h).1
theorem kind_ne {w : World} {a b : Nat} {c c' : Array Value} {t t' : TypeId} {z z' : Nat × Nat} (h : w.heap[a]? = some (.cells c t z)) (h' : w.heap[b]? = some (.cells c' t' z')) (hne : t ≠ t') : a ≠ b := by
  rintro rfl
  rw [h] at h'
  injection h' with h'
  injection h' with _ h' _
  exact hne h'
theorem cell_of {w : World} {b : Nat} {c : Array Value} {t : TypeId} {z : Nat × Nat} (h : w.heap[b]? = some (.cells c t z)) {i : Nat} {u : Value} (hu : c[i]? = some u) : w.cell? ⟨b, i, none⟩ = some u := by
  simp [World.cell?, h, hu]
theorem frozen_of {w : World} {b i : Nat} {c : Array Value} {t : TypeId} (h : w.heap[b]? = some (.cells c t (0, 0))) : w.frozen? ⟨b, i, none⟩ = false := by
  simp [World.frozen?, h]
theorem Fr.keep {S : Nat → Prop} {w w' : World} (h : Fr S w w') {b : Nat} {o : Obj} (hb : w.heap[b]? = some o) (hn : ¬ S b) : w'.heap[b]? = some o := (h.block b (block_lt hb) hn).trans hb
theorem Fr.alloc {S : Nat → Prop} {w w' : World} (h : Fr S w w') (o : Obj) : Fr S w (w'.alloc o) :=
  ⟨h.os, h.tape, h.output, Nat.le_trans h.size (by simp), fun k hk hn => (alloc_old (Nat.lt_of_lt_of_le hk h.size) o).trans (h.block k hk hn)⟩
theorem Own.heap {w : World} {base : Nat} {v : Value} {l : List UInt8} (h : Own w base v l) {k : Nat} (hk : v.ownBlock = some k) : ∃ cur, w.heap[k]? = some (.cells cur 5 (0, 0)) := by
  rcases h.2 with ⟨rfl, _⟩ | ⟨g, cap, cur, rfl, _, hg, _⟩
  · cases hk
  · obtain rfl : g = k := by simpa [Value.ownBlock] using hk
    exact ⟨cur, hg⟩
theorem Own.keep {w w' : World} {base : Nat} {v : Value} {l : List UInt8} (h : Own w base v l) (hk : ∀ k, v.ownBlock = some k → w'.heap[k]? = w.heap[k]?) : Own w' base v l := by
  refine ⟨h.1, ?_⟩
  rcases h.2 with hn | ⟨g, cap, cur, rfl, h1, h2, h3⟩
  · exact .inl hn
  · exact .inr ⟨g, cap, cur, rfl, h1, (hk g (by simp [Value.ownBlock])).trans h2, h3⟩
theorem Own.low {w : World} {base : Nat} {v : Value} {l : List UInt8} (h : Own w base v l) : Own w 0 v l := h.more (Nat.zero_le _)

/-! ### a slice of one-cell values, in blocks outside S -/
def RdV (w : World) (S : Nat → Prop) (v : Value) (xs : List Value) : Prop :=
  ∃ p cap, v = .slice p xs.length cap ∧ xs.length ≤ cap ∧ xs.length ≤ 140737488355328 ∧ cap ≤ 9223372036854775807 ∧ (p = none → cap = 0) ∧
    ∀ k x, xs[k]? = some x → ∃ b off, p = some ⟨b, off, none⟩ ∧ b < w.heap.size ∧ ¬ S b ∧ w.cell? ⟨b, off + k, none⟩ = some x
theorem RdV.step {w w' : World} {S T : Nat → Prop} {v : Value} {xs : List Value} (h : RdV w S v xs) (hf : Fr S w w') (hT : ∀ k, k < w.heap.size → T k → S k) : RdV w' T v xs := by
  obtain ⟨p, cap, e, h1, h2, h3, h4, h5⟩ := h
  refine ⟨p, cap, e, h1, h2, h3, h4, fun k x hx => ?_⟩
  obtain ⟨b, off, e2, hb, hs, hc⟩ := h5 k x hx
  exact ⟨b, off, e2, Nat.lt_of_lt_of_le hb hf.size, fun ht => hs (hT b hb ht), (World.cell?_of_block (hf.block b hb hs)).trans hc⟩
theorem RdV.more {w w' : World} {S : Nat → Prop} {v : Value} {xs : List Value} (h : RdV w S v xs) (hf : Fr S w w') : RdV w' (More S w.heap.size) v xs :=
  h.step hf fun _ hk hm => hm.resolve_right (by omega)
theorem RdV.same {w w' : World} {S : Nat → Prop} {v : Value} {xs : List Value} (h : RdV w S v xs) (hf : Fr S w w') : RdV w' S v xs := h.step hf fun _ _ hm => hm
theorem RdV.nil (w : World) (S : Nat → Prop) : RdV w S (.slice none 0 0) [] := ⟨none, 0, rfl, Nat.le_refl _, by simp, by omega, fun _ => rfl, fun k x h => by simp at h⟩
theorem RdV.rd {w : World} {S : Nat → Prop} {v : Value} {l : List UInt8} (h : RdV w S v (bs l)) : Rd w w.heap.size v l := by
  obtain ⟨p, cap, e, h1, h2, h3, h4, h5⟩ := h
  rw [bs_length] at e h1 h2
  refine ⟨p, cap, e, h1, ⟨h2, h3, h4⟩, fun h0 => ?_⟩
  obtain ⟨b, off, e2, hb, _, _⟩ := h5 0 _ (bs_at l 0 h0)
  refine ⟨b, off, e2, hb, fun i hi => ?_⟩
  obtain ⟨b', off', e3, _, _, hc⟩ := h5 i _ (bs_at l i hi)
  obtain ⟨rfl, rfl⟩ : b = b' ∧ off = off' := by rw [e2] at e3; simpa using e3
  exact hc
theorem RdV.out {w : World} {S : Nat → Prop} {v : Value} {l : List UInt8} (h : RdV w S v (bs l)) : 0 < l.length → ∀ k, v.ownBlock = some k → ¬ S k := by
  obtain ⟨p, cap, e, h1, h2, h3, h4, h5⟩ := h
  intro h0 k hk
  obtain ⟨b, off, e2, hb, hs, _⟩ := h5 0 _ (bs_at l 0 h0)
  rw [e, e2] at hk
  obtain rfl : b = k := by simpa [Value.ownBlock] using hk
  exact hs
/-- Bytes below a block, where the set begins behind it. -/
theorem RdV.of_rd {w : World} {S : Nat → Prop} {B : Nat} {v : Value} {l : List UInt8} (h : Rd w B v l) (hB : B ≤ w.heap.size) (hS : ∀ k, k < B → ¬ S k) : RdV w S v (bs l) := by
  obtain ⟨p, cap, e, h1, ⟨h2, h3, h4⟩, h5⟩ := h
  refine ⟨p, cap, by rw [bs_length]; exact e, by rw [bs_length]; exact h1, by rw [bs_length]; exact h2, h3, h4, fun k x hx => ?_⟩
  have hk : k < l.length := by
    have := (List.getElem?_eq_some_iff.1 hx).1
    simpa [bs] using this
  obtain ⟨b, off, e2, hb, hc⟩ := h5 (by omega)
  rw [bs_at l k hk] at hx
  exact ⟨b, off, e2, by omega, hS b hb, by rw [hc k hk]; exact hx⟩

/-- A slice of slices of bytes, in blocks outside S. -/
def RdW (w : World) (S : Nat → Prop) (v : Value) (ls : List (List UInt8)) : Prop :=
  ∃ us, us.length = ls.length ∧ RdV w S v us ∧ ∀ (k : Nat) (u : Value) (l : List UInt8), us[k]? = some u → ls[k]? = some l → RdV w S u (bs l)
theorem RdW.step {w w' : World} {S T : Nat → Prop} {v : Value} {ls : List (List UInt8)} (h : RdW w S v ls) (hf : Fr S w w') (hT : ∀ k, k < w.heap.size → T k → S k) : RdW w' T v ls := by
  obtain ⟨us, h1, h2, h3⟩ := h
  exact ⟨us, h1, h2.step hf hT, fun k u l hu hl => (h3 k u l hu hl).step hf hT⟩

theorem RdW.at_ {w : World} {S : Nat → Prop} {p : Option Addr} {n cap : Nat} {ls : List (List UInt8)} (h : RdW w S (.slice p n cap) ls) {k : Nat} (hk : k < ls.length) :
    ∃ b off u, p = some ⟨b, off, none⟩ ∧ b < w.heap.size ∧ ¬ S b ∧ w.cell? ⟨b, off + k, none⟩ = some u ∧ RdV w S u (bs ls[k]) := by
  obtain ⟨us, h1, ⟨p', cap', e, _, _, _, _, h5⟩, h3⟩ := h
  injection e with e1 e2 e3
  have hku : k < us.length := by omega
  obtain ⟨b, off, e4, hb, hs, hc⟩ := h5 k us[k] (List.getElem?_eq_getElem hku)
  exact ⟨b, off, us[k], e1.trans e4, hb, hs, hc, h3 k _ _ (List.getElem?_eq_getElem hku) (List.getElem?_eq_getElem hk)⟩
end Go.Proofs.Ytjojimmfjmchcaa
