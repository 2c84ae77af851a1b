/-
  The walks over glacierref5.From, Newest, glacierref6.Twin, glacierlaw5.spoil.
-/
import Derived.Test.YteclnnjijfbfoaaEnC
import Derived.Laws.ResultCell
namespace Go.Proofs.Yteclnnjijfbfoaa
open Go.RowKit

/-! ### a version in a cell of its own -/
def set4 (w : World) (g : Nat) (a b c d : Value) : World := (((w.setCell ⟨g, 0, none⟩ a).setCell ⟨g, 1, none⟩ b).setCell ⟨g, 2, none⟩ c).setCell ⟨g, 3, none⟩ d
theorem set4_heap {w : World} {g : Nat} {a b c d : Value} {t : TypeId} {fz : Nat × Nat} (h : w.heap[g]? = some (.cells #[a, b, c, d] t fz)) (x y z u : Value) : (set4 w g x y z u).heap[g]? = some (.cells #[x, y, z, u] t fz) := by
  have h1 := setCell_same (off := 0) h x
  have h2 := setCell_same (off := 1) h1 y
  have h3 := setCell_same (off := 2) h2 z
  have h4 := setCell_same (off := 3) h3 u
  simpa [set4] using h4
theorem set4_fr (w : World) (g : Nat) (x y z u : Value) (S : Nat → Prop) (hS : S g) : Fr S w (set4 w g x y z u) :=
  (((Fr.setCell S w (p := ⟨g, 0, none⟩) hS x).then (Fr.setCell S _ (p := ⟨g, 1, none⟩) hS y)).then (Fr.setCell S _ (p := ⟨g, 2, none⟩) hS z)).then (Fr.setCell S _ (p := ⟨g, 3, none⟩) hS u)
theorem entInfo (cs : Array Value) (hs : cs.size = 4) : (Try.prog.info? 33).map (·.size) = some cs.size := by rw [hs]; kernel_rfl
theorem results_ent {fn : Func} {p u : Tmp} (h : fn.results = #[.cell p 33, .tmp u]) (tmps : Array Value) (w : World) (g : Nat) (cs : Array Value) (b : Value) (hp : tmps.getD p undef = .pointer (some ⟨g, 0, none⟩)) (hb : tmps.getD u undef = b)
    (hg : w.heap[g]? = some (.cells cs 33 (0, 0))) (hs : cs.size = 4) : (results fn tmps).run Try.prog w = .ok (.tuple #[.agg cs, b]) w := by
  have hl := run_loadVar_row (P := Try.prog) w g _ 33 cs (0, 0) _ hg Try.underlying33 rfl (entInfo cs hs)
  rw [results_cell_tmp h, hp, hb]
  simp [asAddr, Result.andThen, hl]

def optE (o : Option Ent) : Ent := o.getD noE

/-! ### an entry apart -/
theorem results_ent1 {fn : Func} {p : Tmp} (h : fn.results = #[.cell p 33]) (tmps : Array Value) (w : World) (g : Nat) (cs : Array Value) (hp : tmps.getD p undef = .pointer (some ⟨g, 0, none⟩))
    (hg : w.heap[g]? = some (.cells cs 33 (0, 0))) (hs : cs.size = 4) : (results fn tmps).run Try.prog w = .ok (.agg cs) w :=
  results_cell_row h tmps w g _ cs (0, 0) _ hp hg Try.underlying33 rfl (entInfo cs hs)

/-! ### bytes written over -/
def spoilt (l : List UInt8) (k : Nat) : List UInt8 := (l.take k).map (· + 1) ++ l.drop k
theorem spoilt_length (l : List UInt8) (k : Nat) (hk : k ≤ l.length) : (spoilt l k).length = l.length := by simp [spoilt]; omega
theorem spoilt_at (l : List UInt8) (k : Nat) (hk : k < l.length) : (spoilt l k)[k]? = some l[k] := by
  unfold spoilt
  rw [List.getElem?_append_right (by simp; omega)]
  have : ((l.take k).map (· + 1)).length = k := by simp; omega
  rw [this, Nat.sub_self, List.getElem?_drop, Nat.add_zero, List.getElem?_eq_getElem hk]
theorem spoilt_succ (l : List UInt8) (k : Nat) (hk : k < l.length) : spoilt l (k + 1) = (spoilt l k).set k (l[k] + 1) := by
  unfold spoilt
  rw [List.set_append_right _ _ (by simp; omega)]
  have : ((l.take k).map (· + 1)).length = k := by simp; omega
  rw [this, Nat.sub_self, List.take_add_one, List.getElem?_eq_getElem hk, List.map_append, List.append_assoc]
  congr 1
  rw [List.drop_eq_getElem_cons hk]
  rfl
theorem Own.store {w : World} {base : Nat} {v : Value} {l : List UInt8} (h : Own w base v l) {g : Nat} (hv : v.ownBlock = some g) (k : Nat) (x : UInt8) :
    Own (w.setCell ⟨g, k, none⟩ (.int .u8 (x.toNat : Int))) base v (l.set k x) := by
  rcases h.2 with ⟨rfl, h0⟩ | ⟨g', cap, cur, rfl, hb, hg, hn, hc, hsz, ht⟩
  · cases hv
  · obtain rfl : g' = g := by simpa [Value.ownBlock] using hv
    have h1 := (World.ownsRow.stored h k (.int .u8 (x.toNat : Int))).1
    refine Own.of h1 (by rw [List.length_set]) ?_
    rw [bs, bs, List.map_set]
    rfl
/-- What a row of one's own block is told by: its shape, and in a round its cell, as a byte, and that it may be written. -/
theorem Own.cell {w : World} {base : Nat} {v : Value} {l : List UInt8} (h : Own w base v l) {k : Nat} (hk : k < l.length) : ∃ g c, v = .slice (some ⟨g, 0, none⟩) l.length c ∧ l.length ≤ c ∧ c ≤ 9223372036854775807 ∧ base ≤ g ∧ g < w.heap.size ∧ w.cell? ⟨g, k, none⟩ = some (.int .u8 (l[k].toNat : Int)) ∧ w.frozen? ⟨g, k, none⟩ = false := by
  have h0 := h
  rcases h.2 with ⟨rfl, h0⟩ | ⟨g, cap, cur, rfl, hb, hg, hn, hc, hsz, ht⟩
  · omega
  · refine ⟨g, cap, rfl, hn, by unfold maxLen at hc; exact hc, hb, block_lt hg, ?_, frozen_of hg⟩
    have := World.ownsRow.cellAt h0 k (by omega)
    rw [this, bs_at l k hk]
    simp [hk]
theorem u8_add1 (x : UInt8) : ((x + 1).toNat : Int) = ((x.toNat : Int) + 1) % 256 := by
  have h1 : (x + 1).toNat = (x.toNat + 1) % 256 := by rw [UInt8.toNat_add]; rfl
  rw [h1]
  omega

end Go.Proofs.Yteclnnjijfbfoaa
