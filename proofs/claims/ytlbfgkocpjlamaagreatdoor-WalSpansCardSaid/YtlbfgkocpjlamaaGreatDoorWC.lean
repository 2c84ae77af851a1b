import Derived.Test.YtlbfgkocpjlamaaGreatDoorCB
import Derived.Test.YtlbfgkocpjlamaaGreatDoorDk
import Derived.Test.YtlbfgkocpjlamaaGreatDoorWA
import Derived.Lib.LaidTab
import Derived.Lib.ItoaNum

/-
  The tables of package codec outlast what changes other blocks; bytes of the call's own, as the disk's calls take them.
-/
namespace Go.Proofs.YtlbfgkocpjlamaaGreatDoor
open Go.RowKit

theorem Tabs.fr {S : Nat → Prop} {w w' : World} (h : Tabs w) (hf : Fr S w w') (hS : ∀ k, k < 2 → ¬ S k) : Tabs w' :=
  h.keep fun b _ hb => World.cell?_of_block (hf.block b (Nat.lt_of_lt_of_le hb h.two) (hS b hb))
/-- Bytes that lie in no block of S. -/
theorem RdV.of_out {S : Nat → Prop} {w : World} {v : Value} {l : List UInt8} (h : Rd w w.heap.size v l) (hS : 0 < l.length → ∀ k, v.ownBlock = some k → ¬ S k) : RdV w S v (bs l) := by
  obtain ⟨p, cap, e, h1, ⟨h2, h3, h4⟩, h5⟩ := h
  refine ⟨p, cap, by rw [bs_length]; exact e, by rw [bs_length]; exact h1, by rw [bs_length]; exact h2, h3, h4, fun k x hx => ?_⟩
  have hk : k < l.length := by
    have := (List.getElem?_eq_some_iff.1 hx).1
    simpa [bs] using this
  obtain ⟨b, off, e2, hb, hc⟩ := h5 (by omega)
  rw [bs_at l k hk] at hx
  exact ⟨b, off, e2, hb, hS (by omega) b (by rw [e, e2]; rfl), by rw [hc k hk]; exact hx⟩
/-- A row of the call's own, in blocks outside S. -/
theorem Own.rdv {S : Nat → Prop} {w : World} {base : Nat} {v : Value} {l : List UInt8} (h : Own w base v l) (hl : l.length ≤ 140737488355328) (hS : ∀ k, base ≤ k → ¬ S k) : RdV w S v (bs l) :=
  RdV.of_out (h.rd hl) fun _ k hk => hS k (h.block k hk)
end Go.Proofs.YtlbfgkocpjlamaaGreatDoor

/-
  A log in memory, and the disk below it: the tables, the disk in a bounded set of blocks, the log's own block.
-/
namespace Go.Proofs.YtlbfgkocpjlamaaGreatDoor
open Go.RowKit

/-! ### the tables -/
def Pow (w : World) : Prop := Lib.TabIs Tryz.prog w "internal/strconv.uint64pow10" .u64 Lib.pow10Tab
theorem pow_at : Tryz.prog.globalNamed "internal/strconv.uint64pow10" = some 2 := by kernel_rfl
theorem Pow.lt {w : World} (h : Pow w) : 2 < w.heap.size := by
  unfold Pow Lib.TabIs World.var? at h
  rw [pow_at] at h
  simp only [Option.bind_some] at h
  rcases Nat.lt_or_ge 2 w.heap.size with hlt | hge
  · exact hlt
  · rw [Array.getElem?_eq_none hge] at h
    simp at h
theorem Pow.keep {w w' : World} (h : Pow w) (hk : w'.heap[2]? = w.heap[2]?) : Pow w' := by
  unfold Pow Lib.TabIs World.var? at h ⊢
  rw [pow_at] at h ⊢
  simp only [Option.bind_some] at h ⊢
  rw [hk]
  exact h
/-- All tables are laid. -/
structure Tb (w : World) : Prop where
  tabs : Tabs w
  pow : Pow w
theorem Tb.fr {S : Nat → Prop} {w w' : World} (h : Tb w) (hf : Fr S w w') (hS : ∀ k, S k → 3 ≤ k) : Tb w' :=
  ⟨h.tabs.fr hf fun k hk hs => by have := hS k hs; omega, h.pow.keep (hf.block _ h.pow.lt fun hs => by have := hS _ hs; omega)⟩
theorem Tb.below {w w' : World} (h : Tb w) (hb : Below w.heap.size w w') : Tb w' := h.fr (Fr.of_new hb fun _ => False) fun _ hs => hs.elim
theorem Tb.drewN {w : World} (h : Tb w) (n : Nat) : Tb (w.drewN n) := h.fr ((Fr.refl (fun _ => False) w).drewN n) fun _ hs => hs.elim
theorem Tb.size {w : World} (h : Tb w) : 3 ≤ w.heap.size := h.pow.lt

/-! ### the disk in a bounded set of blocks -/
structure Dn (w : World) (S : Nat → Prop) (db : Nat) (D : Dsk) : Prop where
  dk : Dk w S db D
  lo : ∀ k, S k → 3 ≤ k
  hi : ∀ k, S k → k < w.heap.size
/-- What S has become: no block but new ones has come to it. -/
def Nx (S S' : Nat → Prop) (w : World) : Prop := ∀ k, S' k → S k ∨ w.heap.size ≤ k
section
variable {w w' a b c : World} {S S' S2 : Nat → Prop} {db : Nat} {D D' : Dsk}
theorem Nx.refl (S : Nat → Prop) (w : World) : Nx S S w := fun _ h => .inl h
theorem Nx.trans (h : Nx S S' a) (k : Nx S' S2 b) (hs : a.heap.size ≤ b.heap.size) : Nx S S2 a := fun i hi => (k i hi).elim (h i) fun hle => .inr (Nat.le_trans hs hle)
theorem Nx.old (h : Nx S S' w) {k : Nat} (hk : k < w.heap.size) (hn : ¬ S k) : ¬ S' k := fun hs => (h k hs).elim hn fun hle => by omega
/-- Two steps one behind the other. -/
theorem Fr.next (h : Fr S a b) (hx : Nx S S' a) (k : Fr S' b c) : Fr S a c := h.trans (k.mono fun i _ hs => hx i hs)
theorem Dn.next (h : Dn w S db D) (h1 : Dk w' (More S w.heap.size) db D') : ∃ S', Dn w' S' db D' ∧ Nx S S' w := by
  have h3 : 3 ≤ w.heap.size := by
    obtain ⟨mv, loc, dat, hd⟩ := h.dk
    have := h.lo _ hd.inS
    have := hd.lt
    omega
  refine ⟨fun k => More S w.heap.size k ∧ k < w'.heap.size, ⟨h1.mono fun k hk hs => ⟨hs, hk⟩, fun k hk => ?_, fun k hk => hk.2⟩, fun k hk => hk.1⟩
  rcases hk.1 with hs | hs
  · exact h.lo k hs
  · omega
theorem Dn.same (h : Dn w S db D) (hf : Fr S2 w w') (hd : ∀ k, k < w.heap.size → S k → ¬ S2 k) : Dn w' S db D :=
  ⟨h.dk.step hf hd fun _ _ hs => hs, h.lo, fun k hk => Nat.lt_of_lt_of_le (h.hi k hk) hf.size⟩
theorem Dn.below (h : Dn w S db D) (hb : Below w.heap.size w w') : Dn w' S db D := h.same (Fr.of_new hb fun _ => False) fun _ _ _ hf => hf
theorem Dn.drewN (h : Dn w S db D) (n : Nat) : Dn (w.drewN n) S db D := h.same ((Fr.refl (fun _ => False) w).drewN n) fun _ _ _ hf => hf
theorem Dn.out (h : Dn w S db D) {k : Nat} (hk : w.heap.size ≤ k) : ¬ S k := fun hs => by have := h.hi k hs; omega
end

/-! ### the log's own block -/
def LogAt (w : World) (lb db : Nat) (nm : List UInt8) (n : Nat) : Prop :=
  w.heap[lb]? = some (.cells #[.pointer (some ⟨db, 0, none⟩), .string ⟨nm.toArray⟩, .int .i64 (n : Int)] 57 (0, 0))
section
variable {w w' : World} {lb db n : Nat} {nm : List UInt8}
theorem LogAt.c0 (h : LogAt w lb db nm n) : w.cell? ⟨lb, 0, none⟩ = some (.pointer (some ⟨db, 0, none⟩)) := cell_of h rfl
theorem LogAt.c1 (h : LogAt w lb db nm n) : w.cell? ⟨lb, 1, none⟩ = some (.string ⟨nm.toArray⟩) := cell_of h rfl
theorem LogAt.c2 (h : LogAt w lb db nm n) : w.cell? ⟨lb, 2, none⟩ = some (.int .i64 (n : Int)) := cell_of h rfl
theorem LogAt.fz (h : LogAt w lb db nm n) (i : Nat) : w.frozen? ⟨lb, i, none⟩ = false := frozen_of h
theorem LogAt.lt (h : LogAt w lb db nm n) : lb < w.heap.size := block_lt h
theorem LogAt.fr {S : Nat → Prop} (h : LogAt w lb db nm n) (hf : Fr S w w') (hn : ¬ S lb) : LogAt w' lb db nm n := hf.keep h hn
theorem LogAt.below (h : LogAt w lb db nm n) (hb : Below w.heap.size w w') : LogAt w' lb db nm n := h.fr (Fr.of_new hb fun _ => False) fun hf => hf
theorem LogAt.drewN (h : LogAt w lb db nm n) (k : Nat) : LogAt (w.drewN k) lb db nm n := h
theorem LogAt.set (h : LogAt w lb db nm n) (m : Nat) : LogAt (w.setCell ⟨lb, 2, none⟩ (.int .i64 (m : Int))) lb db nm m := by
  unfold LogAt at h ⊢
  rw [setCell_same h]
  rfl
end
end Go.Proofs.YtlbfgkocpjlamaaGreatDoor
