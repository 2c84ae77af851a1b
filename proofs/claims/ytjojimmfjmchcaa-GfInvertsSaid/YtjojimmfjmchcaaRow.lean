/-
  Rows of bytes in memory: 'Rd w B v l': the value v is a slice of the bytes l whose cells lie below block B of the world w; 'RdL': a slice of such; 'Own': a row of the call's own; append onto such a row; 'Fr S': of what was there only blocks of the set S may have changed; 'RdV': a slice of one-cell values in blocks outside a set.
-/
import Derived.Test.YtjojimmfjmchcaaRows
import Derived.Below
import Derived.Laws.AppendOwn
import Derived.Laws.OwnMore
import Derived.Deep.Draws
import Derived.Laws.AppendOwnNone
import Derived.Deep.MidRow
import Derived.WalkKit
import Derived.OwnWalk
import Derived.Laws.Rows
import Derived.Laws.IdiomStrings
import Derived.Maps.AppendAt
import Derived.Lib.Hide
import Derived.WalkLawsBesides
namespace Go.Proofs.Ytjojimmfjmchcaa
open Go.RowKit

theorem ret_int {k : IntKind} {a b : Int} (h : a = b) : Ending.returned (.int k a) = .returned (.int k b) := by rw [h]
theorem ret_nat {k : IntKind} {a b : Nat} (h : a = b) : Ending.returned (.int k (a : Int)) = .returned (.int k (b : Int)) := by rw [h]

theorem ret_bool {a b : Bool} (h : a = b) : Ending.returned (.bool a) = .returned (.bool b) := by rw [h]
theorem take_snoc {α : Type} (l : List α) (k : Nat) (x : α) (h : l[k]? = some x) : l.take (k + 1) = l.take k ++ [x] := by
  rw [List.take_add_one, h]
  rfl

def bv (x : UInt8) : Value := .int .u8 (x.toNat : Int)
def bs (l : List UInt8) : List Value := l.map bv
theorem bs_length (l : List UInt8) : (bs l).length = l.length := by simp [bs]
theorem bs_append (a b : List UInt8) : bs (a ++ b) = bs a ++ bs b := by simp [bs]

def Rd (w : World) (B : Nat) (v : Value) (l : List UInt8) : Prop :=
  ∃ p cap, v = .slice p l.length cap ∧ l.length ≤ cap ∧ (l.length ≤ 140737488355328 ∧ cap ≤ 9223372036854775807 ∧ (p = none → cap = 0)) ∧ (0 < l.length → ∃ b off, p = some ⟨b, off, none⟩ ∧ b < B ∧ ∀ i, i < l.length → w.cell? ⟨b, off + i, none⟩ = some (.int .u8 ((l.getD i 0).toNat : Int)))

section
variable {w w' : World} {B B' : Nat} {v : Value} {l : List UInt8}
theorem Rd.len (h : Rd w B v l) : l.length ≤ 140737488355328 := by
  obtain ⟨p, cap, _, h1, h2, _⟩ := h
  exact h2.1
/-- Its shape, and in a round the cell that is read, as a byte of its own name. -/
theorem Rd.form (h : Rd w B v l) : ∃ p cap, v = .slice p l.length cap ∧ l.length ≤ cap ∧ l.length ≤ 140737488355328 ∧ cap ≤ 9223372036854775807 ∧
    (∀ k, k < l.length → ∃ b off x, p = some ⟨b, off, none⟩ ∧ b < B ∧ l[k]? = some x ∧ w.cell? ⟨b, off + k, none⟩ = some (.int .u8 (x.toNat : Int))) := by
  obtain ⟨p, cap, e, h1, h2, h3⟩ := h
  refine ⟨p, cap, e, h1, h2.1, h2.2.1, fun k hk => ?_⟩
  obtain ⟨b, off, e2, hb, hc⟩ := h3 (by omega)
  refine ⟨b, off, l.getD k 0, e2, hb, ?_, hc k hk⟩
  simp [hk]
theorem Rd.keep (h : Rd w B v l) (hk : ∀ b off, b < B → w'.cell? ⟨b, off, none⟩ = w.cell? ⟨b, off, none⟩) : Rd w' B v l := by
  obtain ⟨p, cap, e, h1, h2, h3⟩ := h
  refine ⟨p, cap, e, h1, h2, fun hl => ?_⟩
  obtain ⟨b, off, e2, hb, hc⟩ := h3 hl
  exact ⟨b, off, e2, hb, fun i hi => (hk b _ hb).trans (hc i hi)⟩
theorem Rd.more (h : Rd w B v l) (hB : B ≤ B') : Rd w B' v l := by
  obtain ⟨p, cap, e, h1, h2, h3⟩ := h
  refine ⟨p, cap, e, h1, h2, fun hl => ?_⟩
  obtain ⟨b, off, e2, hb, hc⟩ := h3 hl
  exact ⟨b, off, e2, by omega, hc⟩
/-- Its first n bytes. -/
theorem Rd.take {p : Option Addr} {cap n : Nat} (h : Rd w B (.slice p l.length cap) l) (hn : n ≤ l.length) : Rd w B (.slice p n cap) (l.take n) := by
  obtain ⟨p', cap', e, h1, h2, h3⟩ := h
  injection e with e1 _ e2
  subst e1 e2
  have hl : (l.take n).length = n := by rw [List.length_take]; omega
  refine ⟨p, cap, by rw [hl], by omega, ⟨by omega, h2.2⟩, fun h0 => ?_⟩
  obtain ⟨b, off, ep, hb, hc⟩ := h3 (by omega)
  refine ⟨b, off, ep, hb, fun i hi => ?_⟩
  rw [hc i (by omega)]
  have : (l.take n).getD i 0 = l.getD i 0 := by
    simp only [List.getD_eq_getElem?_getD]
    rw [List.getElem?_take, if_pos (by omega)]
  rw [this]
theorem below_cells (hb : Below B w w') : ∀ b off, b < B → w'.cell? ⟨b, off, none⟩ = w.cell? ⟨b, off, none⟩ :=
  fun b off h => hb.cell (p := ⟨b, off, none⟩) h
theorem Rd.below (h : Rd w B v l) (hb : Below B w w') : Rd w' B v l := h.keep (below_cells hb)
theorem Rd.under (h : Rd w B v l) (hb : Below B' w w') (hB : B ≤ B') : Rd w' B v l := h.keep fun b off hlt => below_cells hb b off (Nat.lt_of_lt_of_le hlt hB)
theorem Rd.drewN (h : Rd w B v l) (k : Nat) : Rd (w.drewN k) B v l := h
theorem Rd.drew (h : Rd w B v l) : Rd w.drew B v l := h
theorem Rd.none_ (w : World) (B : Nat) : Rd w B (.slice none 0 0) [] := ⟨none, 0, rfl, Nat.le_refl _, ⟨by simp, by omega, fun _ => rfl⟩, fun h => absurd h (by simp)⟩
theorem below_drewN {B : Nat} {a w : World} (h : Below B a w) (n : Nat) : Below B a (w.drewN n) := ⟨h.os, h.tape, h.output, h.size, h.block⟩
theorem below_drew {B : Nat} {a w : World} (h : Below B a w) : Below B a w.drew := ⟨h.os, h.tape, h.output, h.size, h.block⟩

theorem bs_at (l : List UInt8) (i : Nat) (h : i < l.length) : (bs l)[i]? = some (.int .u8 ((l.getD i 0).toNat : Int)) := by
  simp [bs, bv, h]
/-- An owned row of bytes reads as its bytes. -/
theorem Rd.of_own {base : Nat} {e : TypeId} (h : w.ownsRow base e 1 v l.length (bs l)) (hl : l.length ≤ 140737488355328) : Rd w w.heap.size v l := by
  rcases h.2 with ⟨rfl, h0⟩ | ⟨g, cap, cur, rfl, hb, hg, hn, hc, hsz, ht⟩
  · have : l = [] := List.eq_nil_of_length_eq_zero h0
    subst this
    exact Rd.none_ _ _
  · have hlt : g < w.heap.size := by
      rcases Nat.lt_or_ge g w.heap.size with hlt | hge
      · exact hlt
      · rw [Array.getElem?_eq_none hge] at hg; cases hg
    refine ⟨_, _, rfl, hn, ⟨hl, hc, fun h => by cases h⟩, fun hl => ⟨g, 0, rfl, hlt, fun i hi => ?_⟩⟩
    have h1 : cur[i]? = some (.int .u8 ((l.getD i 0).toNat : Int)) := by
      rw [← bs_at l i hi, ← ht, List.getElem?_take, if_pos (by omega)]
      simp
    rw [Nat.zero_add]
    simp [World.cell?, hg, h1]
end

/-- A row of bytes of the call's own, from block 'base' on. -/
def Own (w : World) (base : Nat) (v : Value) (l : List UInt8) : Prop := w.ownsRow base 5 1 v l.length (bs l)
section
variable {w w' : World} {base : Nat} {v : Value} {l m : List UInt8}
theorem Own.of {n : Nat} {xs : List Value} (h : w.ownsRow base 5 1 v n xs) (hn : n = l.length) (hx : xs = bs l) : Own w base v l := by
  subst hn hx
  exact h
theorem Own.rd (h : Own w base v l) (hl : l.length ≤ 140737488355328) : Rd w w.heap.size v l := Rd.of_own h hl
theorem Own.more {base' : Nat} (h : Own w base v l) (hb : base' ≤ base) : Own w base' v l := by
  refine ⟨h.1, ?_⟩
  rcases h.2 with hn | ⟨g, cap, cur, e, h1, h2⟩
  · exact .inl hn
  · exact .inr ⟨g, cap, cur, e, by omega, h2⟩
/-- What is made behind the world leaves the row alone. -/
theorem Own.after (h : Own w base v l) (hb : Below w.heap.size w w') : Own w' base v l := by
  refine ⟨h.1, ?_⟩
  rcases h.2 with hn | ⟨g, cap, cur, e, h1, h2, h3⟩
  · exact .inl hn
  · have hlt : g < w.heap.size := by
      rcases Nat.lt_or_ge g w.heap.size with hlt | hge
      · exact hlt
      · rw [Array.getElem?_eq_none hge] at h2; cases h2
    exact .inr ⟨g, cap, cur, e, h1, (hb.block g hlt).trans h2, h3⟩
end

/-- A slice of slices of bytes. -/
def RdL (w : World) (B : Nat) (v : Value) (ls : List (List UInt8)) : Prop :=
  ∃ p cap, v = .slice p ls.length cap ∧ ls.length ≤ cap ∧ ls.length ≤ 140737488355328 ∧ cap ≤ 9223372036854775807 ∧
    ∀ k l, ls[k]? = some l → ∃ b off u, p = some ⟨b, off, none⟩ ∧ b < B ∧ w.cell? ⟨b, off + k, none⟩ = some u ∧ Rd w B u l
section
variable {w w' : World} {B B' : Nat} {v : Value} {ls : List (List UInt8)}
theorem RdL.keep (h : RdL w B v ls) (hk : ∀ b off, b < B → w'.cell? ⟨b, off, none⟩ = w.cell? ⟨b, off, none⟩) : RdL w' B v ls := by
  obtain ⟨p, cap, e, h1, h2, h3, h4⟩ := h
  refine ⟨p, cap, e, h1, h2, h3, fun k l hl => ?_⟩
  obtain ⟨b, off, u, e2, hb, hc, hr⟩ := h4 k l hl
  exact ⟨b, off, u, e2, hb, (hk b _ hb).trans hc, hr.keep hk⟩
theorem RdL.more (h : RdL w B v ls) (hB : B ≤ B') : RdL w B' v ls := by
  obtain ⟨p, cap, e, h1, h2, h3, h4⟩ := h
  refine ⟨p, cap, e, h1, h2, h3, fun k l hl => ?_⟩
  obtain ⟨b, off, u, e2, hb, hc, hr⟩ := h4 k l hl
  exact ⟨b, off, u, e2, by omega, hc, hr.more hB⟩
theorem RdL.under (h : RdL w B v ls) (hb : Below B' w w') (hB : B ≤ B') : RdL w' B v ls := h.keep fun b off hlt => below_cells hb b off (Nat.lt_of_lt_of_le hlt hB)
theorem RdL.below (h : RdL w B v ls) (hb : Below B w w') : RdL w' B v ls := h.under hb (Nat.le_refl _)
theorem RdL.drewN (h : RdL w B v ls) (k : Nat) : RdL (w.drewN k) B v ls := h.keep fun _ _ _ => rfl
theorem RdL.none_ (w : World) (B : Nat) : RdL w B (.slice none 0 0) [] := ⟨none, 0, rfl, Nat.le_refl _, by simp, by omega, fun k l h => by simp at h⟩
end

theorem cell_lt {w : World} {b off : Nat} {u : Value} (h : w.cell? ⟨b, off, none⟩ = some u) : b < w.heap.size := by
  rcases Nat.lt_or_ge b w.heap.size with hlt | hge
  · exact hlt
  · simp [World.cell?, Array.getElem?_eq_none hge] at h

theorem infoU8 : (Try.prog.info? 5).map (fun i => (i.zero, i.size, i.bytes)) = some (some (.int .u8 0), 1, 1) := by kernel_rfl
theorem bs_oneCell (l : List UInt8) : ∀ u ∈ bs l, u.oneCell' = true := by
  intro u hu
  obtain ⟨x, _, rfl⟩ := List.mem_map.1 hu
  rfl
theorem Own.alloc {w : World} {base : Nat} {v : Value} {l : List UInt8} (h : Own w base v l) (o : Obj) : Own (w.alloc o) base v l := World.ownsRow.alloc h o
theorem Own.block {w : World} {base : Nat} {v : Value} {l : List UInt8} (h : Own w base v l) : ∀ k, v.ownBlock = some k → base ≤ k := fun k hk => (World.ownsRow.lt h k hk).1

theorem wpList_append_rd {w : World} {ops : Array Oper} {rest : List Oper} {o : Oper} {a : Act} {Q : Exit → Act → World → Prop} (hgd : o.guard = none) (s x : Operand)
    (ho : o.op = .call { callee := .builtin .append, args := #[s, x], argTypes := #[48, 48] })
    (base B : Nat) (v u : Value) (l m : List UInt8) (hs : a.eval s = v) (hown : Own w base v l) (hx : a.eval x = u) (hrd : Rd w B u m)
    (hlen : l.length + m.length ≤ 140737488355328) (hbase : base ≤ w.heap.size)
    (h : ∀ v' w', Own w' base v' (l ++ m) → Below base w w' → wpList Try.prog ops Q rest (a.put o.dst v') w') : wpList Try.prog ops Q (o :: rest) a w := by
  obtain ⟨i0, hi, hz0, hz1, hz2⟩ := info_parts infoU8
  obtain ⟨p, cap, rfl, hlc, ⟨hl47, hcm, hcn⟩, hat⟩ := hrd
  cases p with
  | none =>
    have hm : m = [] := by
      apply List.eq_nil_of_length_eq_zero
      rcases Nat.eq_zero_or_pos m.length with h0 | h0
      · exact h0
      · obtain ⟨b, off, e, _⟩ := hat h0
        cases e
    subst hm
    have hc0 := hcn rfl
    subst hc0
    refine wpList_append_own_none hgd s x _ ho base 5 i0 1 Try.underlying48 hi v _ _ hs hown hx ?_
    exact h v w (by simpa using hown) (Below.refl _ _)
  | some ad =>
    have hnews : ∀ j u, (bs m)[j]? = some u → w.cell? (ad.add j) = some u := by
      intro j u hu
      have hj : j < m.length := by
        have := (List.getElem?_eq_some_iff.1 hu).1
        simpa [bs] using this
      obtain ⟨b, off, e, _, hc⟩ := hat (by omega)
      obtain rfl := Option.some.inj e
      rw [Addr.add_mid, hc j hj, ← bs_at m j hj, hu]
    refine wpList_append_own w hgd s x _ ho base 5 i0 (.int .u8 0) 1 1 Try.underlying48 hi hz0 hz1 hz2 rfl (by decide) v _ _ hs hown ad m.length cap (bs m) hx (by simp [bs_length]) hnews (bs_oneCell m) (by unfold maxLen; omega) (by omega) hbase ?_
    intro v' w' hown' hg _
    exact h v' w' (Own.of hown' (by simp) (by rw [bs_append])) ((Below.refl _ _).grown hg hbase hown.block)

/-- A new block of bytes. -/
theorem Rd.new (w : World) (l : List UInt8) (t : TypeId) (cs : Array Value) (hcs : cs = (bs l).toArray) (hl : l.length ≤ 140737488355328) :
    Rd (w.alloc (.cells cs t)) (w.heap.size + 1) (.slice (some ⟨w.heap.size, 0, none⟩) l.length l.length) l := by
  subst hcs
  refine ⟨_, _, rfl, Nat.le_refl _, ⟨hl, by omega, fun h => by cases h⟩, fun h0 => ⟨_, _, rfl, by omega, fun i hi => ?_⟩⟩
  rw [Nat.zero_add, cell_of_row _ _ _ _ _ _ (heap_alloc_new w (.cells (bs l).toArray t)), ← bs_at l i hi]
  simp
theorem Rd.newm (w : World) (l : List UInt8) (t : TypeId) (cs : Array Value) (fr : Nat × Nat) (hcs : cs = (bs l).toArray) (hl : l.length ≤ 140737488355328) :
    Rd (w.alloc (.cells cs t fr)) (w.heap.size + 1) (.slice (some ⟨w.heap.size, 0, none⟩) l.length l.length) l := by
  subst hcs
  refine ⟨_, _, rfl, Nat.le_refl _, ⟨hl, by omega, fun h => by cases h⟩, fun h0 => ⟨_, _, rfl, by omega, fun i hi => ?_⟩⟩
  rw [Nat.zero_add, World.cell?_alloc_mark, ← bs_at l i hi]
  simp

/-- Of what was there in w0 only v0's own block may have changed; v lies in that block, or in a new one, or in none. -/
def Only (w0 : World) (v0 : Value) (w : World) (v : Value) : Prop := w0.grownBy w v0.ownBlock ∧ (v.ownBlock = v0.ownBlock ∨ ∀ k, v.ownBlock = some k → w0.heap.size ≤ k)
theorem Only.refl (w : World) (v : Value) : Only w v w v := ⟨⟨rfl, rfl, rfl, Nat.le_refl _, fun _ _ _ => rfl⟩, .inl rfl⟩
theorem Only.step {w0 w w' : World} {v0 v v' : Value} (h : Only w0 v0 w v) (hg : w.grownBy w' v.ownBlock) (hv : v'.ownBlock = v.ownBlock ∨ v'.ownBlock = some w.heap.size) : Only w0 v0 w' v' := by
  obtain ⟨h1, h2⟩ := h
  refine ⟨⟨hg.os.trans h1.os, hg.tape.trans h1.tape, hg.output.trans h1.output, Nat.le_trans h1.size hg.size, fun k hk hne => ?_⟩, ?_⟩
  · refine (hg.block k (Nat.lt_of_lt_of_le hk h1.size) (fun e => ?_)).trans (h1.block k hk hne)
    rcases h2 with h2 | h2
    · exact hne (e.trans h2)
    · have := h2 k e.symm
      omega
  · rcases hv with hv | hv
    · rw [hv]; exact h2
    · right
      intro k hk
      rw [hv] at hk
      injection hk with hk
      have := h1.size
      omega
theorem Only.alloc {w0 w : World} {v0 v : Value} (h : Only w0 v0 w v) (o : Obj) : Only w0 v0 (w.alloc o) v :=
  ⟨⟨h.1.os, h.1.tape, h.1.output, Nat.le_trans h.1.size (by simp), fun k hk hne => (Below.heap_alloc w o k (Nat.lt_of_lt_of_le hk h.1.size)).trans (h.1.block k hk hne)⟩, h.2⟩
theorem Only.below {w0 w : World} {v0 v : Value} {base : Nat} {l : List UInt8} (h : Only w0 v0 w v) (hown : Own w0 base v0 l) (hb : base ≤ w0.heap.size) : Below base w0 w :=
  (Below.refl base w0).grown h.1 hb hown.block

theorem wpList_append_rd_at {w : World} {ops : Array Oper} {rest : List Oper} {o : Oper} {a : Act} {Q : Exit → Act → World → Prop} (hgd : o.guard = none) (s x : Operand)
    (ho : o.op = .call { callee := .builtin .append, args := #[s, x], argTypes := #[48, 48] })
    (base B : Nat) (v u : Value) (l m : List UInt8) (hs : a.eval s = v) (hown : Own w base v l) (hx : a.eval x = u) (hrd : Rd w B u m)
    (hlen : l.length + m.length ≤ 140737488355328) (hbase : base ≤ w.heap.size)
    (h : ∀ v' w', Own w' base v' (l ++ m) → w.grownBy w' v.ownBlock → (v'.ownBlock = v.ownBlock ∨ v'.ownBlock = some w.heap.size) → wpList Try.prog ops Q rest (a.put o.dst v') w') : wpList Try.prog ops Q (o :: rest) a w := by
  obtain ⟨i0, hi, hz0, hz1, hz2⟩ := info_parts infoU8
  obtain ⟨p, cap, rfl, hlc, ⟨hl47, hcm, hcn⟩, hat⟩ := hrd
  cases p with
  | none =>
    have hm : m = [] := by
      apply List.eq_nil_of_length_eq_zero
      rcases Nat.eq_zero_or_pos m.length with h0 | h0
      · exact h0
      · obtain ⟨b, off, e, _⟩ := hat h0
        cases e
    subst hm
    have hc0 := hcn rfl
    subst hc0
    refine wpList_append_own_none hgd s x _ ho base 5 i0 1 Try.underlying48 hi v _ _ hs hown hx ?_
    exact h v w (by simpa using hown) ⟨rfl, rfl, rfl, Nat.le_refl _, fun _ _ _ => rfl⟩ (.inl rfl)
  | some ad =>
    have hnews : ∀ j u, (bs m)[j]? = some u → w.cell? (ad.add j) = some u := by
      intro j u hu
      have hj : j < m.length := by
        have := (List.getElem?_eq_some_iff.1 hu).1
        simpa [bs] using this
      obtain ⟨b, off, e, _, hc⟩ := hat (by omega)
      obtain rfl := Option.some.inj e
      rw [Addr.add_mid, hc j hj, ← bs_at m j hj, hu]
    refine wpList_append_own_at w hgd s x _ ho base 5 i0 (.int .u8 0) 1 1 Try.underlying48 hi hz0 hz1 hz2 rfl (by decide) v _ _ hs hown ad m.length cap (bs m) hx (by simp [bs_length]) hnews (bs_oneCell m) (by unfold maxLen; omega) (by omega) hbase ?_
    intro v' w' hown' hg _ hat'
    exact h v' w' (Own.of hown' (by simp) (by rw [bs_append])) hg hat'

/-- An operation whose guard says yes is as one without a guard. -/
theorem wpList_unguard {P : Program} {ops : Array Oper} {rest : List Oper} {o : Oper} {a : Act} {w : World} {Q : Exit → Act → World → Prop} (hw : Region.wanted o (yielded ops a.tmps) = true)
    (h : wpList P ops Q ({ o with guard := none } :: rest) a w) : wpList P ops Q (o :: rest) a w := by
  cases o with
  | mk dst op type pos after guard =>
    unfold wpList at h ⊢
    rw [if_pos hw]
    rw [if_pos (by simp [Region.wanted])] at h
    exact h


/-- Of what was there only blocks of S may have changed. -/
structure Fr (S : Nat → Prop) (w w' : World) : Prop where
  os : w'.os = w.os
  tape : w'.tape = w.tape
  output : w'.output = w.output
  size : w.heap.size ≤ w'.heap.size
  block : ∀ k, k < w.heap.size → ¬ S k → w'.heap[k]? = w.heap[k]?

/-- The set behind a step: what was in it, and all that is new. -/
def More (S : Nat → Prop) (n : Nat) : Nat → Prop := fun k => S k ∨ n ≤ k

section
variable {S T : Nat → Prop} {w w' a b c : World} {B : Nat}
theorem Fr.refl (S : Nat → Prop) (w : World) : Fr S w w := ⟨rfl, rfl, rfl, Nat.le_refl _, fun _ _ _ => rfl⟩
theorem Fr.mono (h : Fr S w w') (hs : ∀ k, k < w.heap.size → S k → T k) : Fr T w w' := ⟨h.os, h.tape, h.output, h.size, fun k hk hn => h.block k hk fun hk2 => hn (hs k hk hk2)⟩
theorem Fr.trans (h : Fr S a b) (k : Fr (More S a.heap.size) b c) : Fr S a c :=
  ⟨k.os.trans h.os, k.tape.trans h.tape, k.output.trans h.output, Nat.le_trans h.size k.size, fun i hi hn =>
    (k.block i (Nat.lt_of_lt_of_le hi h.size) (fun hm => hm.elim hn (fun hle => by omega))).trans (h.block i hi hn)⟩
theorem Fr.then (h : Fr S a b) (k : Fr S b c) : Fr S a c := h.trans (k.mono fun _ _ hs => .inl hs)
theorem Fr.drew (h : Fr S a b) : Fr S a b.drew := ⟨h.os, h.tape, h.output, h.size, h.block⟩
theorem Fr.drewN (h : Fr S a b) (n : Nat) : Fr S a (b.drewN n) := ⟨h.os, h.tape, h.output, h.size, h.block⟩
theorem Fr.of_below (h : Below B w w') : Fr (fun k => B ≤ k) w w' := ⟨h.os, h.tape, h.output, h.size, fun k _ hn => h.block k (by omega)⟩
theorem Fr.of_new (h : Below w.heap.size w w') (S : Nat → Prop) : Fr S w w' := ⟨h.os, h.tape, h.output, h.size, fun k hk _ => h.block k hk⟩
theorem Fr.below (h : Fr S w w') (hB : B ≤ w.heap.size) (hs : ∀ k, k < B → ¬ S k) : Below B w w' := ⟨h.os, h.tape, h.output, h.size, fun k hk => h.block k (by omega) (hs k hk)⟩
theorem Fr.grown {row : Option Nat} (h : w.grownBy w' row) (hs : ∀ k, row = some k → S k) : Fr S w w' := ⟨h.os, h.tape, h.output, h.size, fun k hk hn => h.block k hk (fun e => hn (hs k e.symm))⟩
theorem Fr.setCell (S : Nat → Prop) (w : World) {p : Addr} (hp : S p.block) (u : Value) : Fr S w (w.setCell p u) :=
  ⟨rfl, rfl, rfl, by simp [World.setCell], fun k _ hn => Below.heap_setCell _ _ _ _ (fun e => hn (by rw [e]; exact hp))⟩

/-- Bytes in blocks of S, all of which are there. -/
def RdS (w : World) (S : Nat → Prop) (v : Value) (l : List UInt8) : Prop :=
  Rd w w.heap.size v l ∧ (0 < l.length → ∀ k, v.ownBlock = some k → S k)
theorem RdS.rd {v : Value} {l : List UInt8} (h : RdS w S v l) : Rd w w.heap.size v l := h.1
/-- A step within T leaves bytes of S alone, where the two have no block together. -/
theorem RdS.step {v : Value} {l : List UInt8} (h : RdS w S v l) (hf : Fr T w w') (hd : ∀ k, S k → ¬ T k) : RdS w' S v l := by
  obtain ⟨⟨p, cap, e, h1, h2, h3⟩, hs⟩ := h
  refine ⟨⟨p, cap, e, h1, h2, fun h0 => ?_⟩, hs⟩
  obtain ⟨b, off, ep, hb, hc⟩ := h3 h0
  have hsb : S b := hs h0 b (by rw [e, ep]; rfl)
  refine ⟨b, off, ep, Nat.lt_of_lt_of_le hb hf.size, fun i hi => ?_⟩
  rw [← hc i hi]
  exact World.cell?_of_block (hf.block b hb (hd b hsb))
theorem RdS.mono {v : Value} {l : List UInt8} (h : RdS w S v l) (hs : ∀ k, S k → T k) : RdS w T v l := ⟨h.1, fun h0 k hk => hs k (h.2 h0 k hk)⟩
theorem RdS.of_own {base : Nat} {v : Value} {l : List UInt8} (h : Own w base v l) (hl : l.length ≤ 140737488355328) (hs : ∀ k, base ≤ k → S k) : RdS w S v l :=
  ⟨h.rd hl, fun _ k hk => hs k (h.block k hk)⟩
/-- What came in lies in no set of the call's own. -/
theorem Rd.step {v : Value} {l : List UInt8} (h : Rd w B v l) (hf : Fr S w w') (hB : B ≤ w.heap.size) (hs : ∀ k, k < B → ¬ S k) : Rd w' B v l := h.below (hf.below hB hs)
end
end Go.Proofs.Ytjojimmfjmchcaa
