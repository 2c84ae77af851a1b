/-
  Acts of a play of a log, in memory.
-/
import Derived.Test.YtlbfgkocpjlamaaGreatDoorWlH
namespace Go.Proofs.YtlbfgkocpjlamaaGreatDoor
open Go.RowKit

structure WAct where
  op : Int
  n : Int
  l : List (List UInt8)
  np : Nat
instance : Inhabited WAct := ⟨⟨0, 0, [], 0⟩⟩
def cntA (x : WAct) : Nat := x.l.length + x.np + fln x.l
def cntX (xs : List WAct) : Nat := (xs.map cntA).sum
theorem cntX_snoc (xs : List WAct) (k : Nat) (h : k < xs.length) : cntX (xs.take (k + 1)) = cntX (xs.take k) + cntA xs[k] := by
  unfold cntX
  rw [take_snoc xs k _ (List.getElem?_eq_getElem h), List.map_append, List.sum_append]
  simp
theorem cntX_take (xs : List WAct) (k : Nat) : cntX (xs.take k) ≤ cntX xs := by
  have h : cntX xs = cntX (xs.take k) + cntX (xs.drop k) := by
    unfold cntX
    rw [← List.sum_append, ← List.map_append, List.take_append_drop]
  omega
structure FitK (x : WAct) : Prop where
  op : -9223372036854775808 ≤ x.op ∧ x.op ≤ 9223372036854775807
  len : x.l.length ≤ 1048576
  fl : fln x.l ≤ 1048576
  np : x.np ≤ 1048576
theorem cntX_le (xs : List WAct) (h : ∀ x ∈ xs, FitK x) : cntX xs ≤ xs.length * 3145728 := by
  induction xs with
  | nil => simp [cntX]
  | cons x r ih =>
    have h1 := ih fun y hy => h y (by simp [hy])
    have h2 := h x (by simp)
    have := h2.len
    have := h2.fl
    have := h2.np
    have e : cntX (x :: r) = cntA x + cntX r := by simp [cntX]
    have e2 : cntA x = x.l.length + x.np + fln x.l := rfl
    rw [e, List.length_cons, Nat.add_mul]
    omega
/-- A slice of acts, in blocks outside S. -/
def RdK (w : World) (S : Nat → Prop) (v : Value) (xs : List WAct) : Prop :=
  ∃ p cap, v = .slice p xs.length cap ∧ xs.length ≤ cap ∧ xs.length ≤ 140737488355328 ∧ cap ≤ 9223372036854775807 ∧
    ∀ k x, xs[k]? = some x → ∃ b off lv pp pc, p = some ⟨b, off, none⟩ ∧ b < w.heap.size ∧ ¬ S b ∧ RdW w S lv x.l ∧
      w.cell? ⟨b, off + k * 4, none⟩ = some (.int .i64 x.op) ∧ w.cell? ⟨b, off + k * 4 + 1, none⟩ = some (.int .i64 x.n) ∧ w.cell? ⟨b, off + k * 4 + 2, none⟩ = some lv ∧ w.cell? ⟨b, off + k * 4 + 3, none⟩ = some (.slice pp x.np pc)
section
variable {w w' : World} {S T : Nat → Prop} {v : Value} {xs : List WAct}
theorem RdK.step (h : RdK w S v xs) (hf : Fr S w w') (hT : ∀ k, k < w.heap.size → T k → S k) : RdK w' T v xs := by
  obtain ⟨p, cap, e, h1, h2, h3, h5⟩ := h
  refine ⟨p, cap, e, h1, h2, h3, fun k x hx => ?_⟩
  obtain ⟨b, off, lv, pp, pc, e2, hb, hs, hl, d0, d1, d2, d3⟩ := h5 k x hx
  have hk := hf.block b hb hs
  exact ⟨b, off, lv, pp, pc, e2, Nat.lt_of_lt_of_le hb hf.size, fun ht => hs (hT b hb ht), hl.step hf hT, (World.cell?_of_block hk).trans d0, (World.cell?_of_block hk).trans d1, (World.cell?_of_block hk).trans d2, (World.cell?_of_block hk).trans d3⟩
theorem RdK.lift {W : World} (h : RdK W (fun _ => False) v xs) (hb : Below W.heap.size W w') : RdK w' (fun k => W.heap.size ≤ k) v xs :=
  h.step (Fr.of_new hb _) fun k hk hi => by omega
theorem RdK.form (h : RdK w S v xs) : ∃ p cap, v = .slice p xs.length cap ∧ xs.length ≤ cap ∧ xs.length ≤ 140737488355328 ∧ cap ≤ 9223372036854775807 := by
  obtain ⟨p, cap, e, h1, h2, h3, _⟩ := h
  exact ⟨p, cap, e, h1, h2, h3⟩
theorem RdK.at_ {p : Option Addr} {n cap : Nat} (h : RdK w S (.slice p n cap) xs) {k : Nat} {x : WAct} (hk : xs[k]? = some x) :
    ∃ b off lv pp pc, p = some ⟨b, off, none⟩ ∧ b < w.heap.size ∧ ¬ S b ∧ RdW w S lv x.l ∧
      w.cell? ⟨b, off + k * 4, none⟩ = some (.int .i64 x.op) ∧ w.cell? ⟨b, off + k * 4 + 1, none⟩ = some (.int .i64 x.n) ∧ w.cell? ⟨b, off + k * 4 + 2, none⟩ = some lv ∧ w.cell? ⟨b, off + k * 4 + 3, none⟩ = some (.slice pp x.np pc) := by
  obtain ⟨p', cap', e, _, _, _, h5⟩ := h
  injection e with e1 e2 e3
  subst e1
  exact h5 k x hk
theorem RdW.shape {ls : List (List UInt8)} (h : RdW w S v ls) : ∃ p cap, v = .slice p ls.length cap ∧ ls.length ≤ cap ∧ ls.length ≤ 140737488355328 ∧ cap ≤ 9223372036854775807 := by
  obtain ⟨us, hl, ⟨p, cap, e, h1, h2, h3, _⟩, _⟩ := h
  rw [← hl]
  exact ⟨p, cap, e, h1, h2, h3⟩
theorem RdW.rdl {ls : List (List UInt8)} (h : RdW w S v ls) : RdL w w.heap.size v ls := by
  obtain ⟨us, hlen, ⟨p, cap, e, h1, h2, h3, _, h5⟩, he⟩ := h
  refine ⟨p, cap, by rw [← hlen]; exact e, by rw [← hlen]; exact h1, by rw [← hlen]; exact h2, h3, fun k l hk => ?_⟩
  have hkl : k < us.length := by
    rw [hlen]
    exact (List.getElem?_eq_some_iff.1 hk).1
  obtain ⟨b, off, e2, hb, _, hc⟩ := h5 k _ (List.getElem?_eq_getElem hkl)
  exact ⟨b, off, us[k], e2, hb, hc, (he k _ l (List.getElem?_eq_getElem hkl) hk).rd⟩
end
end Go.Proofs.YtlbfgkocpjlamaaGreatDoor
