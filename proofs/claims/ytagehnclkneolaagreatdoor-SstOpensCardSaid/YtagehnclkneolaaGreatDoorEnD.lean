/-
  The walks over glacierref5.From, Newest, glacierref6.Twin, glacierlaw5.spoil.
-/
import Derived.Test.YtagehnclkneolaaGreatDoorEnC
import Derived.Laws.ResultCell
namespace Go.Proofs.YtagehnclkneolaaGreatDoor
open Go.RowKit

set_option maxRecDepth 100000 in
set_option maxHeartbeats 1000000 in
theorem r5_from (w : World) (F : Nat → Prop) (v : Value) (es : List Ent) (h : En w F v es) (s : List UInt8) :
    Calls Tryz.prog 17 #[v, .string ⟨s.toArray⟩] w fun e w' => e = .returned (.int .i64 (fromE s es : Int)) ∧ w = w' := by
  have HV := Lib.hid h
  obtain ⟨p, cap, rfl, hlc, hl47, hcm, _⟩ := h.form
  obtain ⟨n, hn⟩ : ∃ n, fromE s es = n := ⟨_, rfl⟩
  rw [hn]
  have HN := Lib.hid hn
  clear h hn
  go_enter Tryz.func17, Tryz.ntmps17
  go_wp2_with fail
  go_loop [5] (fun i => ∃ k : Nat, k ≤ es.length ∧ i = .int .i64 (k : Int) ∧ ∀ j f, j < k → es[j]? = some f → Op.bytesLess f.key s = true) (fun i => es.length - (intOf i).toNat)
  case atStart => exact ⟨0, by omega, rfl, fun j f hj => by omega⟩
  case round =>
    obtain ⟨k, hk, rfl, htk⟩ := hrel
    have HTK := Lib.hid htk
    clear htk
    by_cases hlt : k < es.length
    · obtain ⟨b1, off1, q1, c1, rfl, hb1, _, hV1, d0, d1, d2, d3⟩ := HV.out.at_ (List.getElem?_eq_getElem hlt)
      have HX : Hid (es[k]? = some es[k]) := Lib.hid (List.getElem?_eq_getElem hlt)
      generalize es[k] = x at *
      clear hV1 d1 d2 d3
      cases hs : Op.bytesLess x.key s
      · have hnk : n = k := by
          rw [← HN.out]
          exact fromE_is s es k hk HTK.out (fun f hf => by
            rw [HX.out] at hf
            obtain rfl := Option.some.inj hf
            exact hs)
        subst hnk
        go_wp2_with fail
        go_ret
        exact ⟨rfl, rfl⟩
      · have HS := Lib.hid hs
        go_wp2_with fail
        go_round
        case rel => exact ⟨k + 1, by omega, by go_num, fun j f hj hf => by
          rcases Nat.lt_or_ge j k with hjk | hjk
          · exact HTK.out j f hjk hf
          · obtain rfl : j = k := by omega
            rw [HX.out] at hf
            obtain rfl := Option.some.inj hf
            exact HS.out⟩
        case measure => simp [intOf]; omega
    · have hk2 : k = es.length := by omega
      subst hk2
      have hnk : n = es.length := by
        rw [← HN.out]
        exact fromE_is s es _ (Nat.le_refl _) HTK.out (fun f hf => by simp at hf)
      subst hnk
      go_wp2_with fail
      go_ret
      exact ⟨rfl, rfl⟩

/-! ### a version in a cell of its own -/
def set4 (w : World) (g : Nat) (a b c d : Value) : World := (((w.setCell ⟨g, 0, none⟩ a).setCell ⟨g, 1, none⟩ b).setCell ⟨g, 2, none⟩ c).setCell ⟨g, 3, none⟩ d
theorem set4_heap {w : World} {g : Nat} {a b c d : Value} {t : TypeId} {fz : Nat × Nat} (h : w.heap[g]? = some (.cells #[a, b, c, d] t fz)) (x y z u : Value) : (set4 w g x y z u).heap[g]? = some (.cells #[x, y, z, u] t fz) := by
  have h1 := setCell_same (off := 0) h x
  have h2 := setCell_same (off := 1) h1 y
  have h3 := setCell_same (off := 2) h2 z
  have h4 := setCell_same (off := 3) h3 u
  simpa [set4] using h4
theorem set4_fr (w : World) (g : Nat) (x y z u : Value) (S : Nat → Prop) (hS : S g) : Fr S w (set4 w g x y z u) :=
  (((Fr.setCell S w (p := ⟨g, 0, none⟩) hS x).then (Fr.setCell S _ (p := ⟨g, 1, none⟩) hS y)).then (Fr.setCell S _ (p := ⟨g, 2, none⟩) hS z)).then (Fr.setCell S _ (p := ⟨g, 3, none⟩) hS u)
theorem entInfo (cs : Array Value) (hs : cs.size = 4) : (Tryz.prog.info? 37).map (·.size) = some cs.size := by rw [hs]; kernel_rfl
theorem results_ent {fn : Func} {p u : Tmp} (h : fn.results = #[.cell p 37, .tmp u]) (tmps : Array Value) (w : World) (g : Nat) (cs : Array Value) (b : Value) (hp : tmps.getD p undef = .pointer (some ⟨g, 0, none⟩)) (hb : tmps.getD u undef = b)
    (hg : w.heap[g]? = some (.cells cs 37 (0, 0))) (hs : cs.size = 4) : (results fn tmps).run Tryz.prog w = .ok (.tuple #[.agg cs, b]) w := by
  have hl := run_loadVar_row (P := Tryz.prog) w g _ 37 cs (0, 0) _ hg Tryz.underlying37 rfl (entInfo cs hs)
  rw [results_cell_tmp h, hp, hb]
  simp [asAddr, Result.andThen, hl]

def optE (o : Option Ent) : Ent := o.getD noE

set_option maxRecDepth 100000 in
set_option maxHeartbeats 4000000 in
theorem r5_newest (w : World) (F : Nat → Prop) (v : Value) (es : List Ent) (h : En w F v es) (s : List UInt8) (up : Nat) :
    Calls Tryz.prog 11 #[v, .string ⟨s.toArray⟩, .int .u64 (up : Int)] w fun e w' => ∃ q c, e = .returned (.tuple #[.agg #[.string ⟨(optE (newestE es s up)).key.toArray⟩, .int .u64 ((optE (newestE es s up)).seq : Int), .bool (optE (newestE es s up)).gone, .slice q (optE (newestE es s up)).val.length c], .bool (newestE es s up).isSome]) ∧
      By w' F (.slice q (optE (newestE es s up)).val.length c) (optE (newestE es s up)).val ∧ Below w.heap.size w w' := by
  have HV := Lib.hid h
  obtain ⟨p, cap, rfl, hlc, hl47, hcm, _⟩ := h.form
  obtain ⟨o, ho⟩ : ∃ o, newestE es s up = o := ⟨_, rfl⟩
  rw [ho]
  have HO := Lib.hid ho
  obtain ⟨X, hX⟩ : ∃ X, w.alloc (.cells #[.string ⟨#[]⟩, .int .u64 0, .bool false, .slice none 0 0] 37) = X := ⟨_, rfl⟩
  have hb : Below w.heap.size w X := by rw [← hX]; exact (Below.refl _ _).alloc (Nat.le_refl _) _
  have hXb : X.heap[w.heap.size]? = some (.cells #[.string ⟨#[]⟩, .int .u64 0, .bool false, .slice none 0 0] 37 (0, 0)) := by rw [← hX]; exact heap_alloc_new w _
  have HB := Lib.hid hb
  have HXb := Lib.hid hXb
  have z0 := frozen_of (i := 0) hXb
  have z1 := frozen_of (i := 1) hXb
  have z2 := frozen_of (i := 2) hXb
  have z3 := frozen_of (i := 3) hXb
  have y0 := cell_of (i := 0) hXb rfl
  have y1 := cell_of (i := 1) hXb rfl
  have y2 := cell_of (i := 2) hXb rfl
  have y3 := cell_of (i := 3) hXb rfl
  clear h ho hb hXb
  go_enter Tryz.func11, Tryz.ntmps11
  go_wp2_with fail
  go_loop [8] (fun i => ∃ k : Nat, k ≤ es.length ∧ i = .int .i64 (k : Int) ∧ ∀ j f, j < k → es[j]? = some f → (f.key == s && decide (f.seq ≤ up)) = false) (fun i => es.length - (intOf i).toNat)
  case atStart => exact ⟨0, by omega, rfl, fun j f hj => by omega⟩
  case round =>
    obtain ⟨k, hk, rfl, htk⟩ := hrel
    have HTK := Lib.hid htk
    clear htk
    by_cases hlt : k < es.length
    · obtain ⟨b1, off1, q1, c1, rfl, hb1, _, hV1, d0', d1', d2', d3'⟩ := HV.out.at_ (List.getElem?_eq_getElem hlt)
      have d0 := (below_cells HB.out b1 _ hb1).trans d0'
      have d1 := (below_cells HB.out b1 _ hb1).trans d1'
      have d2 := (below_cells HB.out b1 _ hb1).trans d2'
      have d3 := (below_cells HB.out b1 _ hb1).trans d3'
      clear d0' d1' d2' d3'
      have HX : Hid (es[k]? = some es[k]) := Lib.hid (List.getElem?_eq_getElem hlt)
      have HStep : Hid ((es[k].key == s && decide (es[k].seq ≤ up)) = false → ∀ j f, j < k + 1 → es[j]? = some f → (f.key == s && decide (f.seq ≤ up)) = false) := Lib.hid fun hs j f hj hf => by
        rcases Nat.lt_or_ge j k with hjk | hjk
        · exact HTK.out j f hjk hf
        · obtain rfl : j = k := by omega
          rw [HX.out] at hf
          obtain rfl := Option.some.inj hf
          exact hs
      have HV1 := Lib.hid hV1
      generalize es[k] = x at *
      clear hV1
      cases hs : (x.key == s)
      · have HS : Hid ((x.key == s && decide (x.seq ≤ up)) = false) := Lib.hid (by rw [hs]; rfl)
        go_wp2_with fail
        go_round
        case rel => exact ⟨k + 1, by omega, by go_num, HStep.out HS.out⟩
        case measure => simp [intOf]; omega
      · by_cases hu : x.seq ≤ up
        · have hfo : o = some x := by
            rw [← HO.out]
            exact newest_is HX.out HTK.out (by rw [hs]; simpa using hu)
          subst hfo
          have q2 : decide ((x.seq : Int) ≤ (up : Int)) = true := decide_eq_true (by omega)
          have q3 : decide (x.seq ≤ up) = true := decide_eq_true hu
          clear hu
          go_wp2_with fail
          (try simp only [Exit.inBlock, Exit.then])
          have hfr := set4_fr X w.heap.size (.string ⟨x.key.toArray⟩) (.int .u64 (x.seq : Int)) (.bool x.gone) (.slice q1 x.val.length c1) (fun k => w.heap.size ≤ k) (Nat.le_refl _)
          have hbz := HB.out.trans (hfr.below HB.out.size fun k hk hle => by omega)
          refine bodyPost_ret (v := .tuple #[.agg #[.string ⟨x.key.toArray⟩, .int .u64 (x.seq : Int), .bool x.gone, .slice q1 x.val.length c1], .bool true]) (results_ent rfl _ _ w.heap.size _ _ rfl rfl (set4_heap HXb.out _ _ _ _) rfl) rfl ⟨q1, c1, rfl, ?_, hbz⟩
          exact HV1.out.below hbz
        · have q2 : decide ((x.seq : Int) ≤ (up : Int)) = false := decide_eq_false (by omega)
          have q3 : decide (x.seq ≤ up) = false := decide_eq_false hu
          have HS : Hid ((x.key == s && decide (x.seq ≤ up)) = false) := Lib.hid (by rw [q3]; simp)
          clear hu
          go_wp2_with fail
          go_round
          case rel => exact ⟨k + 1, by omega, by go_num, HStep.out HS.out⟩
          case measure => simp [intOf]; omega
    · have hk2 : k = es.length := by omega
      subst hk2
      have hfo : o = none := by
        rw [← HO.out, newest_none]
        intro e he
        obtain ⟨j, hj, rfl⟩ := List.getElem_of_mem he
        exact HTK.out j _ hj (List.getElem?_eq_getElem hj)
      subst hfo
      go_wp2_with fail
      (try simp only [Exit.inBlock, Exit.then])
      have hfr := set4_fr X w.heap.size (.string ⟨#[]⟩) (.int .u64 0) (.bool false) (.slice none 0 0) (fun k => w.heap.size ≤ k) (Nat.le_refl _)
      have hbz := HB.out.trans (hfr.below HB.out.size fun k hk hle => by omega)
      refine bodyPost_ret (v := .tuple #[.agg #[.string ⟨#[]⟩, .int .u64 0, .bool false, .slice none 0 0], .bool false]) (results_ent rfl _ _ w.heap.size _ _ rfl rfl (set4_heap HXb.out _ _ _ _) rfl) rfl ⟨none, 0, rfl, By.nil _ _, hbz⟩

/-! ### an entry apart -/
theorem results_ent1 {fn : Func} {p : Tmp} (h : fn.results = #[.cell p 37]) (tmps : Array Value) (w : World) (g : Nat) (cs : Array Value) (hp : tmps.getD p undef = .pointer (some ⟨g, 0, none⟩))
    (hg : w.heap[g]? = some (.cells cs 37 (0, 0))) (hs : cs.size = 4) : (results fn tmps).run Tryz.prog w = .ok (.agg cs) w :=
  results_cell_row h tmps w g _ cs (0, 0) _ hp hg Tryz.underlying37 rfl (entInfo cs hs)

/-! ### bytes written over -/
def spoilt (l : List UInt8) (k : Nat) : List UInt8 := (l.take k).map (· + 1) ++ l.drop k
theorem spoilt_length (l : List UInt8) (k : Nat) (hk : k ≤ l.length) : (spoilt l k).length = l.length := by simp [spoilt]; omega
theorem spoilt_at (l : List UInt8) (k : Nat) (hk : k < l.length) : (spoilt l k)[k]? = some l[k] := by
  unfold spoilt
  rw [List.getElem?_append_right (by simp; omega)]
  have : ((l.take k).map (· + 1)).length = k := by simp; omega
  rw [this, Nat.sub_self, List.getElem?_drop, Nat.add_zero, List.getElem?_eq_getElem hk]
theorem spoilt_succ (l : List UInt8) (k : Nat) (hk : k < l.length) : spoilt l (k + 1) = (spoilt l k).set k (l[k] + 1) := by
  unfold spoilt
  rw [List.set_append_right _ _ (by simp; omega)]
  have : ((l.take k).map (· + 1)).length = k := by simp; omega
  rw [this, Nat.sub_self, List.take_add_one, List.getElem?_eq_getElem hk, List.map_append, List.append_assoc]
  congr 1
  rw [List.drop_eq_getElem_cons hk]
  rfl
theorem Own.store {w : World} {base : Nat} {v : Value} {l : List UInt8} (h : Own w base v l) {g : Nat} (hv : v.ownBlock = some g) (k : Nat) (x : UInt8) :
    Own (w.setCell ⟨g, k, none⟩ (.int .u8 (x.toNat : Int))) base v (l.set k x) := by
  rcases h.2 with ⟨rfl, h0⟩ | ⟨g', cap, cur, rfl, hb, hg, hn, hc, hsz, ht⟩
  · cases hv
  · obtain rfl : g' = g := by simpa [Value.ownBlock] using hv
    have h1 := (World.ownsRow.stored h k (.int .u8 (x.toNat : Int))).1
    refine Own.of h1 (by rw [List.length_set]) ?_
    rw [bs, bs, List.map_set]
    rfl
/-- What a row of one's own block is told by: its shape, and in a round its cell, as a byte, and that it may be written. -/
theorem Own.cell {w : World} {base : Nat} {v : Value} {l : List UInt8} (h : Own w base v l) {k : Nat} (hk : k < l.length) : ∃ g c, v = .slice (some ⟨g, 0, none⟩) l.length c ∧ l.length ≤ c ∧ c ≤ 9223372036854775807 ∧ base ≤ g ∧ g < w.heap.size ∧ w.cell? ⟨g, k, none⟩ = some (.int .u8 (l[k].toNat : Int)) ∧ w.frozen? ⟨g, k, none⟩ = false := by
  have h0 := h
  rcases h.2 with ⟨rfl, h0⟩ | ⟨g, cap, cur, rfl, hb, hg, hn, hc, hsz, ht⟩
  · omega
  · refine ⟨g, cap, rfl, hn, by unfold maxLen at hc; exact hc, hb, block_lt hg, ?_, frozen_of hg⟩
    have := World.ownsRow.cellAt h0 k (by omega)
    rw [this, bs_at l k hk]
    simp [hk]
theorem u8_add1 (x : UInt8) : ((x + 1).toNat : Int) = ((x.toNat : Int) + 1) % 256 := by
  have h1 : (x + 1).toNat = (x.toNat + 1) % 256 := by rw [UInt8.toNat_add]; rfl
  rw [h1]
  omega

end Go.Proofs.YtagehnclkneolaaGreatDoor
