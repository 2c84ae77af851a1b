/-
  One disk alone: its blocks lie from n0 on and ahead of m; what is laid for a call lies behind.
-/
import Derived.Test.YtlekffhacmdnnaaAppW
import Derived.Test.YtlekffhacmdnnaaRenW
import Derived.Test.YtlekffhacmdnnaaNewW
import Derived.Test.YtlekffhacmdnnaaCrW
import Derived.Lib.SlBytesConst
namespace Go.Proofs.Ytlekffhacmdnnaa
open Go.RowKit

def Iv (n m : Nat) : Nat → Prop := fun k => n ≤ k ∧ k < m
section
variable {w w' : World} {n m b db : Nat} {D : Dsk}
theorem Dk.iv {S : Nat → Prop} (h : Dk w' (More S b) db D) (hS : ∀ k, S k → n ≤ k) (hb : n ≤ b) : Dk w' (Iv n w'.heap.size) db D :=
  h.mono fun k hk hm => ⟨hm.elim (hS k) (fun hle => Nat.le_trans hb hle), hk⟩
theorem Dk.iv0 {S : Nat → Prop} (h : Dk w' S db D) (hS : ∀ k, S k → n ≤ k) : Dk w' (Iv n w'.heap.size) db D := h.mono fun k hk hm => ⟨hS k hm, hk⟩
theorem Fr.iv {S : Nat → Prop} (h : Fr S w w') (hn : n ≤ w.heap.size) (hS : ∀ k, S k → n ≤ k) : Below n w w' := h.below hn fun k hk hs => by
  have := hS k hs
  omega
theorem Iv.low (n m : Nat) : ∀ k, Iv n m k → n ≤ k := fun _ h => h.1
theorem Iv.out (n m : Nat) {k : Nat} (h : m ≤ k) : ¬ Iv n m k := fun hk => by
  have := hk.2
  omega
theorem Iv.out0 (n m : Nat) {k : Nat} (h : k < n) : ¬ Iv n m k := fun hk => by
  have := hk.1
  omega
end

section
variable {w w' : World} {S : Nat → Prop}
/-- A new block of one-cell values. -/
theorem RdV.new (w : World) (S : Nat → Prop) (xs : List Value) (t : TypeId) (fz : Nat × Nat) (hl : xs.length ≤ 140737488355328) (hS : ¬ S w.heap.size) :
    RdV (w.alloc (.cells xs.toArray t fz)) S (.slice (some ⟨w.heap.size, 0, none⟩) xs.length xs.length) xs :=
  ⟨_, _, rfl, Nat.le_refl _, hl, by omega, (fun e => by cases e), fun k x hx => ⟨w.heap.size, 0, rfl, by simp, hS, by
    rw [Nat.zero_add]
    exact cell_of (heap_alloc_new w _) (by simpa using hx)⟩⟩
theorem RdV.after {v : Value} {xs : List Value} (h : RdV w S v xs) (o : Obj) : RdV (w.alloc o) S v xs := h.same ((Fr.refl S w).alloc o)
theorem RdV.below {v : Value} {xs : List Value} (h : RdV w S v xs) (hb : Below w.heap.size w w') : RdV w' S v xs := h.same (Fr.of_new hb S)
theorem RdW.one {u : Value} {l : List UInt8} (h : RdV w S u (bs l)) (t : TypeId) (hS : ¬ S w.heap.size) :
    RdW (w.alloc (.cells #[u] t)) S (.slice (some ⟨w.heap.size, 0, none⟩) 1 1) [l] :=
  ⟨[u], rfl, RdV.new w S [u] t (0, 0) (by simp) hS, fun k u' l' hu hl => by
    cases k with
    | zero =>
      obtain rfl : u = u' := by simpa using hu
      obtain rfl : l = l' := by simpa using hl
      exact h.after _
    | succ k => simp at hu⟩
end
theorem flen_one (l : List UInt8) : flen [l] = l.length := by simp [flen]
theorem flat_one (l : List UInt8) : [l].flatten = l := by simp

/-- One part, of a constant text. -/
theorem parts1 (w : World) (S : Nat → Prop) (l : List UInt8) (t1 t2 : TypeId) (fz : Nat × Nat) (cs : Array Value) (n : Nat) (hcs : cs = (bs l).toArray) (hn : n = l.length) (hl : l.length ≤ 140737488355328) (hS : ∀ k, w.heap.size ≤ k → ¬ S k) :
    RdW ((w.alloc (.cells cs t1 fz)).alloc (.cells #[.slice (some ⟨w.heap.size, 0, none⟩) n n] t2)) S (.slice (some ⟨w.heap.size + 1, 0, none⟩) 1 1) [l] := by
  subst hcs hn
  have h := RdV.new w S (bs l) t1 fz (by rw [bs_length]; exact hl) (hS _ (Nat.le_refl _))
  rw [bs_length] at h
  have h2 := RdW.one h t2 (hS _ (by simp))
  rw [show (w.alloc (.cells (bs l).toArray t1 fz)).heap.size = w.heap.size + 1 by simp] at h2
  exact h2
/-- One part, of bytes that lie there. -/
theorem parts0 {w : World} {S : Nat → Prop} {u : Value} {l : List UInt8} (h : RdV w S u (bs l)) (t : TypeId) (hS : ∀ k, w.heap.size ≤ k → ¬ S k) :
    RdW (w.alloc (.cells #[u] t)) S (.slice (some ⟨w.heap.size, 0, none⟩) 1 1) [l] := RdW.one h t (hS _ (Nat.le_refl _))
theorem name1 (w : World) (S : Nat → Prop) (s : List UInt8) (t : TypeId) (hS : ∀ k, w.heap.size ≤ k → ¬ S k) :
    RdV (w.alloc (.cells #[.string ⟨s.toArray⟩] t)) S (.slice (some ⟨w.heap.size, 0, none⟩) 1 1) ([s].map encStr) := RdV.new w S [.string ⟨s.toArray⟩] t (0, 0) (by simp) (hS _ (Nat.le_refl _))
theorem Iv.new (n m : Nat) : ∀ k, m ≤ k → ¬ Iv n m k := fun _ h => Iv.out n m h
/-- A text of bytes. -/
theorem str_run {w : World} {B : Nat} {v : Value} {l : List UInt8} (h : Rd w B v l) : (convert 33 9 v).run Try.prog w = .ok (.string ⟨l.toArray⟩) w := by
  obtain ⟨p, cap, rfl, h1, ⟨h2, h3, h4⟩, h5⟩ := h
  rcases Nat.eq_zero_or_pos l.length with h0 | h0
  · have : l = [] := List.eq_nil_of_length_eq_zero h0
    subst this
    rw [run_convert_bytes_string w _ _ 5 p _ _ Try.underlying33 Try.underlying5 Try.underlying9]
    cases p <;> simp [Conv.bytesToString, loadCells]
    all_goals rfl
  · obtain ⟨b, off, rfl, hb, hc⟩ := h5 h0
    refine run_convert_bytes_back w _ _ 5 ⟨b, off, none⟩ cap l Try.underlying33 Try.underlying5 Try.underlying9 fun j hj => ?_
    rw [Addr.add_mid, hc j hj]
    simp [hj]

theorem Below.two {n : Nat} {w w1 w2 : World} {S : Nat → Prop} {o1 o2 : Obj} (h : Below n w w1) (hn : n ≤ w1.heap.size) (hf : Fr S ((w1.alloc o1).alloc o2) w2) (hS : ∀ k, S k → n ≤ k) : Below n w w2 ∧ n ≤ w2.heap.size := by
  have h2 : Below n w ((w1.alloc o1).alloc o2) := (h.alloc hn _).alloc (by simp; omega) _
  have hs := hf.size
  simp at hs
  exact ⟨h2.trans (hf.iv (by simp; omega) hS), by omega⟩
theorem Below.one {n : Nat} {w w1 w2 : World} {S : Nat → Prop} {o1 : Obj} (h : Below n w w1) (hn : n ≤ w1.heap.size) (hf : Fr S (w1.alloc o1) w2) (hS : ∀ k, S k → n ≤ k) : Below n w w2 ∧ n ≤ w2.heap.size := by
  have h2 : Below n w (w1.alloc o1) := h.alloc hn _
  have hs := hf.size
  simp at hs
  exact ⟨h2.trans (hf.iv (by simp; omega) hS), by omega⟩

theorem short1 {s : List UInt8} (h : s.length ≤ 64) : ∀ t ∈ [s], t.length ≤ maxLen := by
  intro t ht
  obtain rfl : t = s := by simpa using ht
  unfold maxLen
  omega
theorem ints1 {q : Int} (h : -9223372036854775808 ≤ q ∧ q ≤ 9223372036854775807) {n : Nat} : ∀ p ∈ List.replicate n q, -9223372036854775808 ≤ p ∧ p ≤ 9223372036854775807 := fun p hp => by
  rw [List.eq_of_mem_replicate hp]
  exact h
/-! ### the chapter's first example -/
def kd1 : Dsk := app ⟨100, [], 0⟩ [97] [120, 121]
def kd2 : Dsk := syncs kd1 [[97]]
def kd3 : Dsk := app kd2 [97] [122, 119]
def kd4 : Dsk := app kd3 [98] [113]
def kd5 : Dsk := crash kd4 [1]
theorem kd5_a : look [97] kd5.files = some ⟨[97], [120, 121, 122], 3⟩ := by rfl
theorem kd5_b : look [98] kd5.files = some ⟨[98], [], 0⟩ := by rfl
theorem kd5_l : kd5.files.length = 2 := by rfl

end Go.Proofs.Ytlekffhacmdnnaa
