/-
  A slice of bytes, told by a list of bytes: 'Rd w B v l': the value v is a slice of the bytes l whose cells lie below block B of the world w; a slice of slices, told by a list of lists: 'RdL'. What both survive.
-/
import Derived.Test.YtjhafhfneedmjaaDoorNum
import Derived.Below
import Derived.Laws.AppendOwn
import Derived.Laws.OwnMore
import Derived.Deep.Draws
namespace Go.Proofs.YtjhafhfneedmjaaDoor
open Go.RowKit

theorem ret_int {k : IntKind} {a b : Int} (h : a = b) : Ending.returned (.int k a) = .returned (.int k b) := by rw [h]
theorem ret_nat {k : IntKind} {a b : Nat} (h : a = b) : Ending.returned (.int k (a : Int)) = .returned (.int k (b : Int)) := by rw [h]

theorem ret_bool {a b : Bool} (h : a = b) : Ending.returned (.bool a) = .returned (.bool b) := by rw [h]
theorem take_snoc {α : Type} (l : List α) (k : Nat) (x : α) (h : l[k]? = some x) : l.take (k + 1) = l.take k ++ [x] := by
  rw [List.take_add_one, h]
  rfl

def bv (x : UInt8) : Value := .int .u8 (x.toNat : Int)
def bs (l : List UInt8) : List Value := l.map bv
theorem bs_length (l : List UInt8) : (bs l).length = l.length := by simp [bs]
theorem bs_append (a b : List UInt8) : bs (a ++ b) = bs a ++ bs b := by simp [bs]

def Rd (w : World) (B : Nat) (v : Value) (l : List UInt8) : Prop :=
  ∃ p cap, v = .slice p l.length cap ∧ l.length ≤ cap ∧ (l.length ≤ 140737488355328 ∧ cap ≤ 9223372036854775807 ∧ (p = none → cap = 0)) ∧ (0 < l.length → ∃ b off, p = some ⟨b, off, none⟩ ∧ b < B ∧ ∀ i, i < l.length → w.cell? ⟨b, off + i, none⟩ = some (.int .u8 ((l.getD i 0).toNat : Int)))

section
variable {w w' : World} {B B' : Nat} {v : Value} {l : List UInt8}
theorem Rd.len (h : Rd w B v l) : l.length ≤ 140737488355328 := by
  obtain ⟨p, cap, _, h1, h2, _⟩ := h
  exact h2.1
/-- Its shape, and in a round the cell that is read, as a byte of its own name. -/
theorem Rd.form (h : Rd w B v l) : ∃ p cap, v = .slice p l.length cap ∧ l.length ≤ cap ∧ l.length ≤ 140737488355328 ∧ cap ≤ 9223372036854775807 ∧
    (∀ k, k < l.length → ∃ b off x, p = some ⟨b, off, none⟩ ∧ b < B ∧ l[k]? = some x ∧ w.cell? ⟨b, off + k, none⟩ = some (.int .u8 (x.toNat : Int))) := by
  obtain ⟨p, cap, e, h1, h2, h3⟩ := h
  refine ⟨p, cap, e, h1, h2.1, h2.2.1, fun k hk => ?_⟩
  obtain ⟨b, off, e2, hb, hc⟩ := h3 (by omega)
  refine ⟨b, off, l.getD k 0, e2, hb, ?_, hc k hk⟩
  simp [hk]
theorem Rd.keep (h : Rd w B v l) (hk : ∀ b off, b < B → w'.cell? ⟨b, off, none⟩ = w.cell? ⟨b, off, none⟩) : Rd w' B v l := by
  obtain ⟨p, cap, e, h1, h2, h3⟩ := h
  refine ⟨p, cap, e, h1, h2, fun hl => ?_⟩
  obtain ⟨b, off, e2, hb, hc⟩ := h3 hl
  exact ⟨b, off, e2, hb, fun i hi => (hk b _ hb).trans (hc i hi)⟩
theorem Rd.more (h : Rd w B v l) (hB : B ≤ B') : Rd w B' v l := by
  obtain ⟨p, cap, e, h1, h2, h3⟩ := h
  refine ⟨p, cap, e, h1, h2, fun hl => ?_⟩
  obtain ⟨b, off, e2, hb, hc⟩ := h3 hl
  exact ⟨b, off, e2, by omega, hc⟩
/-- Its first n bytes. -/
theorem Rd.take {p : Option Addr} {cap n : Nat} (h : Rd w B (.slice p l.length cap) l) (hn : n ≤ l.length) : Rd w B (.slice p n cap) (l.take n) := by
  obtain ⟨p', cap', e, h1, h2, h3⟩ := h
  injection e with e1 _ e2
  subst e1 e2
  have hl : (l.take n).length = n := by rw [List.length_take]; omega
  refine ⟨p, cap, by rw [hl], by omega, ⟨by omega, h2.2⟩, fun h0 => ?_⟩
  obtain ⟨b, off, ep, hb, hc⟩ := h3 (by omega)
  refine ⟨b, off, ep, hb, fun i hi => ?_⟩
  rw [hc i (by omega)]
  have : (l.take n).getD i 0 = l.getD i 0 := by
    simp only [List.getD_eq_getElem?_getD]
    rw [List.getElem?_take, if_pos (by omega)]
  rw [this]
theorem below_cells (hb : Below B w w') : ∀ b off, b < B → w'.cell? ⟨b, off, none⟩ = w.cell? ⟨b, off, none⟩ :=
  fun b off h => hb.cell (p := ⟨b, off, none⟩) h
theorem Rd.below (h : Rd w B v l) (hb : Below B w w') : Rd w' B v l := h.keep (below_cells hb)
theorem Rd.under (h : Rd w B v l) (hb : Below B' w w') (hB : B ≤ B') : Rd w' B v l := h.keep fun b off hlt => below_cells hb b off (Nat.lt_of_lt_of_le hlt hB)
theorem Rd.drewN (h : Rd w B v l) (k : Nat) : Rd (w.drewN k) B v l := h
theorem Rd.drew (h : Rd w B v l) : Rd w.drew B v l := h
theorem Rd.none_ (w : World) (B : Nat) : Rd w B (.slice none 0 0) [] := ⟨none, 0, rfl, Nat.le_refl _, ⟨by simp, by omega, fun _ => rfl⟩, fun h => absurd h (by simp)⟩
theorem below_drewN {B : Nat} {a w : World} (h : Below B a w) (n : Nat) : Below B a (w.drewN n) := ⟨h.os, h.tape, h.output, h.size, h.block⟩
theorem below_drew {B : Nat} {a w : World} (h : Below B a w) : Below B a w.drew := ⟨h.os, h.tape, h.output, h.size, h.block⟩

theorem bs_at (l : List UInt8) (i : Nat) (h : i < l.length) : (bs l)[i]? = some (.int .u8 ((l.getD i 0).toNat : Int)) := by
  simp [bs, bv, h]
/-- An owned row of bytes reads as its bytes. -/
theorem Rd.of_own {base : Nat} {e : TypeId} (h : w.ownsRow base e 1 v l.length (bs l)) (hl : l.length ≤ 140737488355328) : Rd w w.heap.size v l := by
  rcases h.2 with ⟨rfl, h0⟩ | ⟨g, cap, cur, rfl, hb, hg, hn, hc, hsz, ht⟩
  · have : l = [] := List.eq_nil_of_length_eq_zero h0
    subst this
    exact Rd.none_ _ _
  · have hlt : g < w.heap.size := by
      rcases Nat.lt_or_ge g w.heap.size with hlt | hge
      · exact hlt
      · rw [Array.getElem?_eq_none hge] at hg; cases hg
    refine ⟨_, _, rfl, hn, ⟨hl, hc, fun h => by cases h⟩, fun hl => ⟨g, 0, rfl, hlt, fun i hi => ?_⟩⟩
    have h1 : cur[i]? = some (.int .u8 ((l.getD i 0).toNat : Int)) := by
      rw [← bs_at l i hi, ← ht, List.getElem?_take, if_pos (by omega)]
      simp
    rw [Nat.zero_add]
    simp [World.cell?, hg, h1]
end

/-- A row of bytes of the call's own, from block 'base' on. -/
def Own (w : World) (base : Nat) (v : Value) (l : List UInt8) : Prop := w.ownsRow base 5 1 v l.length (bs l)
section
variable {w w' : World} {base : Nat} {v : Value} {l m : List UInt8}
theorem Own.of {n : Nat} {xs : List Value} (h : w.ownsRow base 5 1 v n xs) (hn : n = l.length) (hx : xs = bs l) : Own w base v l := by
  subst hn hx
  exact h
theorem Own.rd (h : Own w base v l) (hl : l.length ≤ 140737488355328) : Rd w w.heap.size v l := Rd.of_own h hl
theorem Own.more {base' : Nat} (h : Own w base v l) (hb : base' ≤ base) : Own w base' v l := by
  refine ⟨h.1, ?_⟩
  rcases h.2 with hn | ⟨g, cap, cur, e, h1, h2⟩
  · exact .inl hn
  · exact .inr ⟨g, cap, cur, e, by omega, h2⟩
/-- What is made behind the world leaves the row alone. -/
theorem Own.after (h : Own w base v l) (hb : Below w.heap.size w w') : Own w' base v l := by
  refine ⟨h.1, ?_⟩
  rcases h.2 with hn | ⟨g, cap, cur, e, h1, h2, h3⟩
  · exact .inl hn
  · have hlt : g < w.heap.size := by
      rcases Nat.lt_or_ge g w.heap.size with hlt | hge
      · exact hlt
      · rw [Array.getElem?_eq_none hge] at h2; cases h2
    exact .inr ⟨g, cap, cur, e, h1, (hb.block g hlt).trans h2, h3⟩
end

/-- A slice of slices of bytes. -/
def RdL (w : World) (B : Nat) (v : Value) (ls : List (List UInt8)) : Prop :=
  ∃ p cap, v = .slice p ls.length cap ∧ ls.length ≤ cap ∧ ls.length ≤ 140737488355328 ∧ cap ≤ 9223372036854775807 ∧
    ∀ k l, ls[k]? = some l → ∃ b off u, p = some ⟨b, off, none⟩ ∧ b < B ∧ w.cell? ⟨b, off + k, none⟩ = some u ∧ Rd w B u l
section
variable {w w' : World} {B B' : Nat} {v : Value} {ls : List (List UInt8)}
theorem RdL.keep (h : RdL w B v ls) (hk : ∀ b off, b < B → w'.cell? ⟨b, off, none⟩ = w.cell? ⟨b, off, none⟩) : RdL w' B v ls := by
  obtain ⟨p, cap, e, h1, h2, h3, h4⟩ := h
  refine ⟨p, cap, e, h1, h2, h3, fun k l hl => ?_⟩
  obtain ⟨b, off, u, e2, hb, hc, hr⟩ := h4 k l hl
  exact ⟨b, off, u, e2, hb, (hk b _ hb).trans hc, hr.keep hk⟩
theorem RdL.more (h : RdL w B v ls) (hB : B ≤ B') : RdL w B' v ls := by
  obtain ⟨p, cap, e, h1, h2, h3, h4⟩ := h
  refine ⟨p, cap, e, h1, h2, h3, fun k l hl => ?_⟩
  obtain ⟨b, off, u, e2, hb, hc, hr⟩ := h4 k l hl
  exact ⟨b, off, u, e2, by omega, hc, hr.more hB⟩
theorem RdL.under (h : RdL w B v ls) (hb : Below B' w w') (hB : B ≤ B') : RdL w' B v ls := h.keep fun b off hlt => below_cells hb b off (Nat.lt_of_lt_of_le hlt hB)
theorem RdL.below (h : RdL w B v ls) (hb : Below B w w') : RdL w' B v ls := h.under hb (Nat.le_refl _)
theorem RdL.drewN (h : RdL w B v ls) (k : Nat) : RdL (w.drewN k) B v ls := h.keep fun _ _ _ => rfl
theorem RdL.none_ (w : World) (B : Nat) : RdL w B (.slice none 0 0) [] := ⟨none, 0, rfl, Nat.le_refl _, by simp, by omega, fun k l h => by simp at h⟩
end

/-- The two tables lie in the first two blocks. -/
def Tabs (w : World) : Prop :=
  (∀ i, i < 16 → w.cell? ⟨0, i, none⟩ = some (.int .u32 ((lowT.getD i 0 : Nat) : Int))) ∧ ∀ i, i < 16 → w.cell? ⟨1, i, none⟩ = some (.int .u32 ((highT.getD i 0 : Nat) : Int))
theorem Tabs.keep {w w' : World} (h : Tabs w) (hk : ∀ b off, b < 2 → w'.cell? ⟨b, off, none⟩ = w.cell? ⟨b, off, none⟩) : Tabs w' :=
  ⟨fun i hi => (hk 0 i (by omega)).trans (h.1 i hi), fun i hi => (hk 1 i (by omega)).trans (h.2 i hi)⟩
theorem Tabs.under {w w' : World} {B : Nat} (h : Tabs w) (hb : Below B w w') (hB : 2 ≤ B) : Tabs w' := h.keep fun b off hlt => below_cells hb b off (Nat.lt_of_lt_of_le hlt hB)
theorem Tabs.drewN {w : World} (h : Tabs w) (n : Nat) : Tabs (w.drewN n) := h
theorem cell_lt {w : World} {b off : Nat} {u : Value} (h : w.cell? ⟨b, off, none⟩ = some u) : b < w.heap.size := by
  rcases Nat.lt_or_ge b w.heap.size with hlt | hge
  · exact hlt
  · simp [World.cell?, Array.getElem?_eq_none hge] at h
theorem Tabs.two {w : World} (h : Tabs w) : 2 ≤ w.heap.size := cell_lt (h.2 0 (by omega))
end Go.Proofs.YtjhafhfneedmjaaDoor
