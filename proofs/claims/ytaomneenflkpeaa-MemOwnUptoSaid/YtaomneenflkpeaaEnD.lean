/-
  The walks over glacierref5.From, Newest, glacierref6.Twin, glacierlaw5.spoil.
-/
import Derived.Test.YtaomneenflkpeaaEnC
import Derived.Laws.ResultCell
namespace Go.Proofs.Ytaomneenflkpeaa
open Go.RowKit

/-! ### a version in a cell of its own -/
def set4 (w : World) (g : Nat) (a b c d : Value) : World := (((w.setCell ⟨g, 0, none⟩ a).setCell ⟨g, 1, none⟩ b).setCell ⟨g, 2, none⟩ c).setCell ⟨g, 3, none⟩ d
theorem set4_heap {w : World} {g : Nat} {a b c d : Value} {t : TypeId} {fz : Nat × Nat} (h : w.heap[g]? = some (.cells #[a, b, c, d] t fz)) (x y z u : Value) : (set4 w g x y z u).heap[g]? = some (.cells #[x, y, z, u] t fz) := by
  have h1 := setCell_same (off := 0) h x
  have h2 := setCell_same (off := 1) h1 y
  have h3 := setCell_same (off := 2) h2 z
  have h4 := setCell_same (off := 3) h3 u
  simpa [set4] using h4
theorem set4_fr (w : World) (g : Nat) (x y z u : Value) (S : Nat → Prop) (hS : S g) : Fr S w (set4 w g x y z u) :=
  (((Fr.setCell S w (p := ⟨g, 0, none⟩) hS x).then (Fr.setCell S _ (p := ⟨g, 1, none⟩) hS y)).then (Fr.setCell S _ (p := ⟨g, 2, none⟩) hS z)).then (Fr.setCell S _ (p := ⟨g, 3, none⟩) hS u)
theorem entInfo (cs : Array Value) (hs : cs.size = 4) : (Try.prog.info? 30).map (·.size) = some cs.size := by rw [hs]; kernel_rfl
theorem results_ent {fn : Func} {p u : Tmp} (h : fn.results = #[.cell p 30, .tmp u]) (tmps : Array Value) (w : World) (g : Nat) (cs : Array Value) (b : Value) (hp : tmps.getD p undef = .pointer (some ⟨g, 0, none⟩)) (hb : tmps.getD u undef = b)
    (hg : w.heap[g]? = some (.cells cs 30 (0, 0))) (hs : cs.size = 4) : (results fn tmps).run Try.prog w = .ok (.tuple #[.agg cs, b]) w := by
  have hl := run_loadVar_row (P := Try.prog) w g _ 30 cs (0, 0) _ hg Try.underlying30 rfl (entInfo cs hs)
  rw [results_cell_tmp h, hp, hb]
  simp [asAddr, Result.andThen, hl]

def optE (o : Option Ent) : Ent := o.getD noE

/-! ### an entry apart -/
theorem results_ent1 {fn : Func} {p : Tmp} (h : fn.results = #[.cell p 30]) (tmps : Array Value) (w : World) (g : Nat) (cs : Array Value) (hp : tmps.getD p undef = .pointer (some ⟨g, 0, none⟩))
    (hg : w.heap[g]? = some (.cells cs 30 (0, 0))) (hs : cs.size = 4) : (results fn tmps).run Try.prog w = .ok (.agg cs) w :=
  results_cell_row h tmps w g _ cs (0, 0) _ hp hg Try.underlying30 rfl (entInfo cs hs)

set_option maxRecDepth 100000 in
set_option maxHeartbeats 4000000 in
theorem r6_twin (w : World) (F : Nat → Prop) (x : Ent) (q : Option Addr) (c : Nat) (h : By w F (.slice q x.val.length c) x.val) :
    Calls Try.prog 9 #[.agg #[.string ⟨x.key.toArray⟩, .int .u64 (x.seq : Int), .bool x.gone, .slice q x.val.length c]] w fun e w' => ∃ v, e = .returned (.agg #[.string ⟨x.key.toArray⟩, .int .u64 (x.seq : Int), .bool x.gone, v]) ∧
      Own w' w.heap.size v x.val ∧ Below w.heap.size w w' := by
  obtain ⟨X, hX⟩ : ∃ X, (w.alloc (.cells #[.string ⟨x.key.toArray⟩, .int .u64 (x.seq : Int), .bool x.gone, .slice q x.val.length c] 30)).alloc (.cells #[.string ⟨#[]⟩, .int .u64 0, .bool false, .slice none 0 0] 30) = X := ⟨_, rfl⟩
  have hb : Below w.heap.size w X := by rw [← hX]; exact ((Below.refl _ _).alloc (Nat.le_refl _) _).alloc (by simp) _
  have hXs : X.heap.size = w.heap.size + 2 := by rw [← hX]; simp
  have hXa : X.heap[w.heap.size]? = some (.cells #[.string ⟨x.key.toArray⟩, .int .u64 (x.seq : Int), .bool x.gone, .slice q x.val.length c] 30 (0, 0)) := by
    rw [← hX]
    exact (alloc_old (by simp) _).trans (heap_alloc_new w _)
  have hXb : X.heap[w.heap.size + 1]? = some (.cells #[.string ⟨#[]⟩, .int .u64 0, .bool false, .slice none 0 0] 30 (0, 0)) := by
    rw [← hX]
    exact heap_alloc2_new w _ _
  obtain ⟨Y, hY⟩ : ∃ Y, X.alloc (.cells #[] 5) = Y := ⟨_, rfl⟩
  have hbY : Below X.heap.size X Y := by rw [← hY]; exact (Below.refl _ _).alloc (Nat.le_refl _) _
  have hO : Own Y X.heap.size (.slice (some ⟨X.heap.size, 0, none⟩) 0 0) [] := by
    rw [← hY]
    simpa [Own, bs] using World.ownsRow_lit (e := 5) (size := 1) X #[] 0 (Nat.le_refl _) (Nat.zero_le _) rfl
  have hR := (((h.below hb).below hbY).rd)
  have hYa := (hbY.block _ (by omega)).trans hXa
  have hYb := (hbY.block _ (by omega)).trans hXb
  have a3 := cell_of (i := 3) hYa rfl
  have hlen := h.len
  have HO := Lib.hid hO
  have HR := Lib.hid hR
  have HB := Lib.hid hb
  have HBY := Lib.hid hbY
  have HYa := Lib.hid hYa
  have HYb := Lib.hid hYb
  have HYs := Lib.hid hbY.size
  have HXs := Lib.hid hXs
  clear h hb hXs hXa hXb hbY hO hR hYa hYb
  go_enter Try.func9, Try.ntmps9
  go_wp2_with (at_builtin
               refine wpList_append_rd rfl (.tmp 3) (.tmp 5) rfl X.heap.size Y.heap.size (.slice (some ⟨X.heap.size, 0, none⟩) 0 0) (.slice q x.val.length c) [] x.val rfl HO.out rfl HR.out (by simp; omega) HYs.out ?_
               intro y1 w1 ho1 hb1
               have b1a := (hb1.block _ (by have := HXs.out; omega)).trans HYa.out
               have b1b := (hb1.block _ (by have := HXs.out; omega)).trans HYb.out
               have hs1 := hb1.size
               rw [List.nil_append] at ho1
               obtain ⟨p9, c9, rfl, h91, h92⟩ := ho1.shp
               have z3 := frozen_of (i := 3) b1a
               have k3 := cell_of (i := 3) b1a rfl
               obtain ⟨Z, hZ⟩ : ∃ Z, w1.setCell ⟨w.heap.size, 3, none⟩ (.slice p9 x.val.length c9) = Z := ⟨_, rfl⟩
               have hZa : Z.heap[w.heap.size]? = some (.cells #[.string ⟨x.key.toArray⟩, .int .u64 (x.seq : Int), .bool x.gone, .slice p9 x.val.length c9] 30 (0, 0)) := by
                 rw [← hZ]
                 exact setCell_same b1a _
               have hZb : Z.heap[w.heap.size + 1]? = some (.cells #[.string ⟨#[]⟩, .int .u64 0, .bool false, .slice none 0 0] 30 (0, 0)) := by
                 rw [← hZ]
                 exact (setCell_other (by omega) _).trans b1b
               have g0 := cell_of (i := 0) hZa rfl
               have g1 := cell_of (i := 1) hZa rfl
               have g2 := cell_of (i := 2) hZa rfl
               have g3 := cell_of (i := 3) hZa rfl
               have y0 := frozen_of (i := 0) hZb
               have y1 := frozen_of (i := 1) hZb
               have y2 := frozen_of (i := 2) hZb
               have y3 := frozen_of (i := 3) hZb
               have m0 := cell_of (i := 0) hZb rfl
               have m1 := cell_of (i := 1) hZb rfl
               have m2 := cell_of (i := 2) hZb rfl
               have m3 := cell_of (i := 3) hZb rfl
               have HZb := Lib.hid hZb
               have HfZ : Hid (Fr (fun k => k = w.heap.size) w1 Z) := Lib.hid (by rw [← hZ]; exact Fr.setCell (fun k => k = w.heap.size) w1 (p := ⟨w.heap.size, 3, none⟩) rfl _)
               have Hb1 := Lib.hid hb1
               have Ho1 := Lib.hid ho1
               have Hs1 := Lib.hid hs1
               clear ho1 hb1 b1a b1b a3 hs1 hZa hZb)
  (try simp only [Exit.inBlock, Exit.then])
  have hfr := set4_fr Z (w.heap.size + 1) (.string ⟨x.key.toArray⟩) (.int .u64 (x.seq : Int)) (.bool x.gone) (.slice p9 x.val.length c9) (fun k => k = w.heap.size + 1) rfl
  have hF : Fr (fun k => w.heap.size ≤ k) w (set4 Z (w.heap.size + 1) (.string ⟨x.key.toArray⟩) (.int .u64 (x.seq : Int)) (.bool x.gone) (.slice p9 x.val.length c9)) :=
    (((Fr.of_below HB.out).then ((Fr.of_below HBY.out).mono fun k _ hk => by have := HXs.out; omega)).then ((Fr.of_below Hb1.out).mono fun k _ hk => by have := HXs.out; omega)).then ((HfZ.out.mono fun k _ hk => by omega).then (hfr.mono fun k _ hk => by omega))
  refine bodyPost_ret (v := .agg #[.string ⟨x.key.toArray⟩, .int .u64 (x.seq : Int), .bool x.gone, .slice p9 x.val.length c9]) (results_ent1 rfl _ _ (w.heap.size + 1) _ rfl (set4_heap HZb.out _ _ _ _) rfl) rfl ⟨_, rfl, ?_, hF.below (Nat.le_refl _) fun k hk hle => by omega⟩
  refine (Ho1.out.keep fun k hk => ?_).more (by have := HXs.out; omega)
  have hlo := Ho1.out.block k hk
  obtain ⟨cur, hc⟩ := Ho1.out.heap hk
  have hlt := block_lt hc
  exact (hfr.block k (Nat.lt_of_lt_of_le hlt HfZ.out.size) (fun e => by have := HXs.out; omega)).trans (HfZ.out.block k hlt (fun e => by have := HXs.out; omega))

/-! ### bytes written over -/
def spoilt (l : List UInt8) (k : Nat) : List UInt8 := (l.take k).map (· + 1) ++ l.drop k
theorem spoilt_length (l : List UInt8) (k : Nat) (hk : k ≤ l.length) : (spoilt l k).length = l.length := by simp [spoilt]; omega
theorem spoilt_at (l : List UInt8) (k : Nat) (hk : k < l.length) : (spoilt l k)[k]? = some l[k] := by
  unfold spoilt
  rw [List.getElem?_append_right (by simp; omega)]
  have : ((l.take k).map (· + 1)).length = k := by simp; omega
  rw [this, Nat.sub_self, List.getElem?_drop, Nat.add_zero, List.getElem?_eq_getElem hk]
theorem spoilt_succ (l : List UInt8) (k : Nat) (hk : k < l.length) : spoilt l (k + 1) = (spoilt l k).set k (l[k] + 1) := by
  unfold spoilt
  rw [List.set_append_right _ _ (by simp; omega)]
  have : ((l.take k).map (· + 1)).length = k := by simp; omega
  rw [this, Nat.sub_self, List.take_add_one, List.getElem?_eq_getElem hk, List.map_append, List.append_assoc]
  congr 1
  rw [List.drop_eq_getElem_cons hk]
  rfl
theorem Own.store {w : World} {base : Nat} {v : Value} {l : List UInt8} (h : Own w base v l) {g : Nat} (hv : v.ownBlock = some g) (k : Nat) (x : UInt8) :
    Own (w.setCell ⟨g, k, none⟩ (.int .u8 (x.toNat : Int))) base v (l.set k x) := by
  rcases h.2 with ⟨rfl, h0⟩ | ⟨g', cap, cur, rfl, hb, hg, hn, hc, hsz, ht⟩
  · cases hv
  · obtain rfl : g' = g := by simpa [Value.ownBlock] using hv
    have h1 := (World.ownsRow.stored h k (.int .u8 (x.toNat : Int))).1
    refine Own.of h1 (by rw [List.length_set]) ?_
    rw [bs, bs, List.map_set]
    rfl
/-- What a row of one's own block is told by: its shape, and in a round its cell, as a byte, and that it may be written. -/
theorem Own.cell {w : World} {base : Nat} {v : Value} {l : List UInt8} (h : Own w base v l) {k : Nat} (hk : k < l.length) : ∃ g c, v = .slice (some ⟨g, 0, none⟩) l.length c ∧ l.length ≤ c ∧ c ≤ 9223372036854775807 ∧ base ≤ g ∧ g < w.heap.size ∧ w.cell? ⟨g, k, none⟩ = some (.int .u8 (l[k].toNat : Int)) ∧ w.frozen? ⟨g, k, none⟩ = false := by
  have h0 := h
  rcases h.2 with ⟨rfl, h0⟩ | ⟨g, cap, cur, rfl, hb, hg, hn, hc, hsz, ht⟩
  · omega
  · refine ⟨g, cap, rfl, hn, by unfold maxLen at hc; exact hc, hb, block_lt hg, ?_, frozen_of hg⟩
    have := World.ownsRow.cellAt h0 k (by omega)
    rw [this, bs_at l k hk]
    simp [hk]
theorem u8_add1 (x : UInt8) : ((x + 1).toNat : Int) = ((x.toNat : Int) + 1) % 256 := by
  have h1 : (x + 1).toNat = (x.toNat + 1) % 256 := by rw [UInt8.toNat_add]; rfl
  rw [h1]
  omega

set_option maxRecDepth 100000 in
set_option maxHeartbeats 1000000 in
theorem l5_spoil (w : World) (base : Nat) (v : Value) (l : List UInt8) (h : Own w base v l) (hl : l.length ≤ 140737488355328) :
    Calls Try.prog 11 #[v] w fun e w' => e = .returned (.tuple #[]) ∧ (∃ m, Own w' base v m ∧ m.length = l.length) ∧ Fr (fun k => v.ownBlock = some k) w w' := by
  obtain ⟨p, c, rfl, hc1, hc2⟩ := h.shp
  have HO := Lib.hid h
  clear h
  go_enter Try.func11, Try.ntmps11
  go_wp2_with fail
  go_loopw [2] (fun i wr => ∃ k : Nat, k ≤ l.length ∧ i = .int .i64 (k : Int) ∧ Own wr base (.slice p l.length c) (spoilt l k) ∧ Fr (fun k => (Value.slice p l.length c).ownBlock = some k) w wr) (fun i _ => l.length - (intOf i).toNat)
  case atStart => exact ⟨0, by omega, rfl, by simpa [spoilt] using HO.out, Fr.refl _ _⟩
  case round =>
    obtain ⟨k, hk, rfl, ho, hf⟩ := hrel
    have Ho := Lib.hid ho
    have Hf := Lib.hid hf
    clear ho hf
    by_cases hlt : k < l.length
    · obtain ⟨g, c', hv, _, _, hbg, hlg, hcell, hfz⟩ := Ho.out.cell (k := k) (by rw [spoilt_length l k hk]; exact hlt)
      injection hv with hv1 hv2 hv3
      subst hv1 hv3
      have hx : (spoilt l k)[k]'(by rw [spoilt_length l k hk]; exact hlt) = l[k] := by
        have := spoilt_at l k hlt
        rw [List.getElem?_eq_getElem (by rw [spoilt_length l k hk]; exact hlt)] at this
        exact Option.some.inj this
      rw [hx] at hcell
      have HS : Hid (Own (wr.setCell ⟨g, k, none⟩ (.int .u8 ((l[k] + 1).toNat : Int))) base (.slice (some ⟨g, 0, none⟩) l.length c) (spoilt l (k + 1))) := Lib.hid (by
        rw [spoilt_succ l k hlt]
        exact Ho.out.store rfl k _)
      rw [u8_add1] at HS
      generalize l[k] = x at *
      clear hx hv2
      go_wp2_with fail
      go_roundw
      case rel => exact ⟨k + 1, by omega, by go_num, HS.out, Hf.out.then (Fr.setCell _ wr (p := ⟨g, k, none⟩) (by rfl) _)⟩
      case measure => simp [intOf]; omega
    · have hk2 : k = l.length := by omega
      subst hk2
      go_wp2_with fail
      go_end0
      exact ⟨rfl, ⟨_, Ho.out, spoilt_length l _ (Nat.le_refl _)⟩, Hf.out⟩
end Go.Proofs.Ytaomneenflkpeaa
