/-
  Acts in memory; two disks side by side, one of each kind.
-/
import Derived.Test.YtlekffhacmdnnaaActP
namespace Go.Proofs.Ytlekffhacmdnnaa
open Go.RowKit

/-- The three slices of an act. -/
structure ActC (w : World) (S : Nat → Prop) (nv bv pv : Value) (x : PAct) : Prop where
  names : RdV w S nv (x.names.map encStr)
  bytes : RdV w S bv (bs x.bytes)
  picks : RdV w S pv (x.picks.map (Value.int .i64))
/-- Its numbers and texts are small enough. -/
structure FitA (x : PAct) : Prop where
  op : -9223372036854775808 ≤ x.op ∧ x.op ≤ 9223372036854775807
  name : x.name.length ≤ 1048576
  dest : x.dest.length ≤ 1048576
  names : ∀ s ∈ x.names, s.length ≤ 1048576
  bytes : x.bytes.length ≤ 1048576
  picks : ∀ p ∈ x.picks, -9223372036854775808 ≤ p ∧ p ≤ 9223372036854775807
theorem ActC.step {w w' : World} {S T : Nat → Prop} {nv bv pv : Value} {x : PAct} (h : ActC w S nv bv pv x) (hf : Fr S w w') (hT : ∀ k, k < w.heap.size → T k → S k) : ActC w' T nv bv pv x :=
  ⟨h.names.step hf hT, h.bytes.step hf hT, h.picks.step hf hT⟩
/-- An act as a value. -/
def actV (x : PAct) (nv bv pv : Value) : Value := .agg #[.int .i64 x.op, .string ⟨x.name.toArray⟩, .string ⟨x.dest.toArray⟩, nv, bv, pv]
/-- A slice of acts, in blocks outside S. -/
def RdA (w : World) (S : Nat → Prop) (v : Value) (xs : List PAct) : Prop :=
  ∃ p cap, v = .slice p xs.length cap ∧ xs.length ≤ cap ∧ xs.length ≤ 140737488355328 ∧ cap ≤ 9223372036854775807 ∧
    ∀ k x, xs[k]? = some x → ∃ b off nv bv pv, p = some ⟨b, off, none⟩ ∧ b < w.heap.size ∧ ¬ S b ∧ ActC w S nv bv pv x ∧
      w.cell? ⟨b, off + k * 6, none⟩ = some (.int .i64 x.op) ∧ w.cell? ⟨b, off + k * 6 + 1, none⟩ = some (.string ⟨x.name.toArray⟩) ∧ w.cell? ⟨b, off + k * 6 + 2, none⟩ = some (.string ⟨x.dest.toArray⟩) ∧
      w.cell? ⟨b, off + k * 6 + 3, none⟩ = some nv ∧ w.cell? ⟨b, off + k * 6 + 4, none⟩ = some bv ∧ w.cell? ⟨b, off + k * 6 + 5, none⟩ = some pv
theorem RdA.step {w w' : World} {S T : Nat → Prop} {v : Value} {xs : List PAct} (h : RdA w S v xs) (hf : Fr S w w') (hT : ∀ k, k < w.heap.size → T k → S k) : RdA w' T v xs := by
  obtain ⟨p, cap, e, h1, h2, h3, h5⟩ := h
  refine ⟨p, cap, e, h1, h2, h3, fun k x hx => ?_⟩
  obtain ⟨b, off, nv, bv, pv, e2, hb, hs, hA, d0, d1, d2, d3, d4, d5⟩ := h5 k x hx
  have hk := hf.block b hb hs
  exact ⟨b, off, nv, bv, pv, e2, Nat.lt_of_lt_of_le hb hf.size, fun ht => hs (hT b hb ht), hA.step hf hT, (World.cell?_of_block hk).trans d0, (World.cell?_of_block hk).trans d1, (World.cell?_of_block hk).trans d2, (World.cell?_of_block hk).trans d3, (World.cell?_of_block hk).trans d4, (World.cell?_of_block hk).trans d5⟩
theorem RdA.same {w w' : World} {S : Nat → Prop} {v : Value} {xs : List PAct} (h : RdA w S v xs) (hf : Fr S w w') : RdA w' S v xs := h.step hf fun _ _ hm => hm
theorem RdA.form {w : World} {S : Nat → Prop} {v : Value} {xs : List PAct} (h : RdA w S v xs) : ∃ p cap, v = .slice p xs.length cap ∧ xs.length ≤ cap ∧ xs.length ≤ 140737488355328 ∧ cap ≤ 9223372036854775807 := by
  obtain ⟨p, cap, e, h1, h2, h3, _⟩ := h
  exact ⟨p, cap, e, h1, h2, h3⟩
theorem RdA.at_ {w : World} {S : Nat → Prop} {p : Option Addr} {n cap : Nat} {xs : List PAct} (h : RdA w S (.slice p n cap) xs) {k : Nat} {x : PAct} (hk : xs[k]? = some x) :
    ∃ b off nv bv pv, p = some ⟨b, off, none⟩ ∧ b < w.heap.size ∧ ¬ S b ∧ ActC w S nv bv pv x ∧
      w.cell? ⟨b, off + k * 6, none⟩ = some (.int .i64 x.op) ∧ w.cell? ⟨b, off + k * 6 + 1, none⟩ = some (.string ⟨x.name.toArray⟩) ∧ w.cell? ⟨b, off + k * 6 + 2, none⟩ = some (.string ⟨x.dest.toArray⟩) ∧
      w.cell? ⟨b, off + k * 6 + 3, none⟩ = some nv ∧ w.cell? ⟨b, off + k * 6 + 4, none⟩ = some bv ∧ w.cell? ⟨b, off + k * 6 + 5, none⟩ = some pv := by
  obtain ⟨p', cap', e, _, _, _, h5⟩ := h
  injection e with e1 e2 e3
  subst e1
  exact h5 k x hk

/-- A disk of the program at db that is told by D, one of the reference at rb that is told by E, with no block together; all in S. -/
def Pair (S : Nat → Prop) (w : World) (db rb : Nat) (D E : Dsk) : Prop :=
  ∃ S1 S2 : Nat → Prop, Dk w S1 db D ∧ Rf w S2 rb E ∧ (∀ k, S1 k → S k ∧ ¬ S2 k) ∧ (∀ k, S2 k → S k)
section
variable {S T : Nat → Prop} {w w' : World} {db rb : Nat} {D E : Dsk}
theorem Pair.mono (h : Pair S w db rb D E) (hS : ∀ k, k < w.heap.size → S k → T k) : Pair T w db rb D E := by
  obtain ⟨S1, S2, h1, h2, h3, h4⟩ := h
  exact ⟨fun k => S1 k ∧ k < w.heap.size, fun k => S2 k ∧ k < w.heap.size, h1.mono fun k hk hs => ⟨hs, hk⟩, h2.mono fun k hk hs => ⟨hs, hk⟩, fun k hk => ⟨hS k hk.2 (h3 k hk.1).1, fun hm => (h3 k hk.1).2 hm.1⟩, fun k hk => hS k hk.2 (h4 k hk.1)⟩
theorem Pair.below (h : Pair S w db rb D E) (hb : Below w.heap.size w w') : Pair S w' db rb D E := by
  obtain ⟨S1, S2, h1, h2, h3, h4⟩ := h
  exact ⟨S1, S2, h1.after hb, h2.after hb, h3, h4⟩
theorem Pair.one (h : Pair S w db rb D E) : Dk w S db D := by
  obtain ⟨S1, S2, h1, h2, h3, h4⟩ := h
  exact h1.mono fun k _ hk => (h3 k hk).1
theorem Pair.two (h : Pair S w db rb D E) : Rf w S rb E := by
  obtain ⟨S1, S2, h1, h2, h3, h4⟩ := h
  exact h2.mono fun k _ hk => h4 k hk
/-- A call on the program's disk. -/
theorem Pair.first (h : Pair S w db rb D E) : ∃ S1 : Nat → Prop, Dk w S1 db D ∧ (∀ k, S1 k → S k) ∧ ∀ w1 D', Dk w1 (More S1 w.heap.size) db D' → Fr S1 w w1 → Pair (More S w.heap.size) w1 db rb D' E := by
  obtain ⟨S1, S2, h1, h2, h3, h4⟩ := h
  refine ⟨S1, h1, fun k hk => (h3 k hk).1, fun w1 D' hd hf => ?_⟩
  have h5 : Rf w1 (fun k => S2 k ∧ k < w.heap.size) rb E := h2.step hf (fun k _ hk2 hk1 => (h3 k hk1).2 hk2) (fun k hk hs => ⟨hs, hk⟩)
  exact ⟨More S1 w.heap.size, _, hd, h5, fun k hk => ⟨hk.imp (fun h => (h3 k h).1) id, fun hm => hk.elim (fun h => (h3 k h).2 hm.1) (fun hle => by have := hm.2; omega)⟩, fun k hk => .inl (h4 k hk.1)⟩
/-- A call on the reference's disk. -/
theorem Pair.second (h : Pair S w db rb D E) : ∃ S2 : Nat → Prop, Rf w S2 rb E ∧ (∀ k, S2 k → S k) ∧ ∀ w1 E', Rf w1 (More S2 w.heap.size) rb E' → Fr S2 w w1 → Pair (More S w.heap.size) w1 db rb D E' := by
  obtain ⟨S1, S2, h1, h2, h3, h4⟩ := h
  refine ⟨S2, h2, h4, fun w1 E' hd hf => ?_⟩
  have h5 : Dk w1 (fun k => S1 k ∧ k < w.heap.size) db D := h1.step hf (fun k _ hk1 hk2 => (h3 k hk1).2 hk2) (fun k hk hs => ⟨hs, hk⟩)
  exact ⟨_, More S2 w.heap.size, h5, hd, fun k hk => ⟨.inl (h3 k hk.1).1, fun hm => hm.elim (h3 k hk.1).2 (fun hle => by have := hk.2; omega)⟩, fun k hk => hk.imp (h4 k) id⟩
end
theorem RdV.narrow {w : World} {S T : Nat → Prop} {v : Value} {xs : List Value} (h : RdV w S v xs) (hT : ∀ k, T k → S k) : RdV w T v xs := h.step (Fr.refl _ _) fun k _ hk => hT k hk
theorem RdW.narrow {w : World} {S T : Nat → Prop} {v : Value} {ls : List (List UInt8)} (h : RdW w S v ls) (hT : ∀ k, T k → S k) : RdW w T v ls := h.step (Fr.refl _ _) fun k _ hk => hT k hk
end Go.Proofs.Ytlekffhacmdnnaa
