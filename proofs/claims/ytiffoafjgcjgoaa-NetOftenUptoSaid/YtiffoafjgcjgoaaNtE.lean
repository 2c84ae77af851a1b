/-
  The walks over Drop, Deliver, Double.
-/
import Derived.Test.YtiffoafjgcjgoaaNtD
import Derived.Laws.ResultCell
namespace Go.Proofs.Ytiffoafjgcjgoaa
open Go.RowKit

/-- Bytes in a block of their own, from block base on, that may be written. -/
def Own1 (w : World) (base : Nat) (v : Value) (l : List UInt8) : Prop :=
  (v = .slice none 0 0 ∧ l = []) ∨ ∃ g cap cur fz, v = .slice (some ⟨g, 0, none⟩) l.length cap ∧ base ≤ g ∧ w.heap[g]? = some (.cells cur 5 fz) ∧ l.length ≤ cap ∧ cap ≤ 9223372036854775807 ∧ cur.size ≤ fz.1 ∧ l.length ≤ cur.size ∧
    ∀ i, i < l.length → cur[i]? = some (.int .u8 ((l.getD i 0).toNat : Int))
theorem Own1.rd {w : World} {base : Nat} {v : Value} {l : List UInt8} (h : Own1 w base v l) (hl : l.length ≤ 140737488355328) : Rd w w.heap.size v l := by
  rcases h with ⟨rfl, rfl⟩ | ⟨g, cap, cur, fz, rfl, hb, hg, h1, h2, h3, h4, h5⟩
  · exact Rd.none_ _ _
  · exact ⟨_, cap, rfl, h1, ⟨hl, h2, fun e => by cases e⟩, fun h0 => ⟨g, 0, rfl, block_lt hg, fun i hi => by rw [Nat.zero_add]; exact cell_of hg (h5 i hi)⟩⟩
theorem Own1.nil (w : World) (base : Nat) : Own1 w base (.slice none 0 0) [] := .inl ⟨rfl, rfl⟩
theorem Own1.keep {w w' : World} {base : Nat} {v : Value} {l : List UInt8} (h : Own1 w base v l) (hk : ∀ k, v.ownBlock = some k → w'.heap[k]? = w.heap[k]?) : Own1 w' base v l := by
  rcases h with h | ⟨g, cap, cur, fz, rfl, hb, hg, h1⟩
  · exact .inl h
  · exact .inr ⟨g, cap, cur, fz, rfl, hb, (hk g rfl).trans hg, h1⟩
theorem Own1.block {w : World} {base : Nat} {v : Value} {l : List UInt8} (h : Own1 w base v l) {k : Nat} (hk : v.ownBlock = some k) : base ≤ k ∧ k < w.heap.size := by
  rcases h with ⟨rfl, _⟩ | ⟨g, cap, cur, fz, rfl, hb, hg, h1⟩
  · cases hk
  · obtain rfl : g = k := by simpa [Value.ownBlock] using hk
    exact ⟨hb, block_lt hg⟩
theorem Own1.more {w : World} {base base' : Nat} {v : Value} {l : List UInt8} (h : Own1 w base v l) (hb : base' ≤ base) : Own1 w base' v l := by
  rcases h with h | ⟨g, cap, cur, fz, rfl, h0, h1⟩
  · exact .inl h
  · exact .inr ⟨g, cap, cur, fz, rfl, Nat.le_trans hb h0, h1⟩
theorem Own1.conv (w : World) (s : List UInt8) (hs : s.length ≤ 1048576) : ∃ cap o, (convert 9 34 (.string ⟨s.toArray⟩)).run Try.prog w = .ok (.slice (some ⟨w.heap.size, 0, none⟩) s.length cap) (w.drew.alloc o) ∧ Own1 (w.drew.alloc o) w.heap.size (.slice (some ⟨w.heap.size, 0, none⟩) s.length cap) s ∧ cap ≤ 9223372036854775807 ∧ s.length ≤ cap := by
  have h := run_bytes_of_string (P := Try.prog) w 9 34 5 ⟨s.toArray⟩ Try.underlying9 Try.underlying34 Try.underlying5
  have hsz : (⟨s.toArray⟩ : ByteArray).size = s.length := by simp [ByteArray.size]
  rw [hsz] at h
  have hge := grownCap_ge w s.length 0 5
  have hcm : grownCap w s.length 0 5 ≤ maxLen := grownCap_le_maxLen w s.length 0 5 (by unfold maxLen; omega)
  generalize grownCap w s.length 0 5 = cap at *
  have hm : cap ≤ 9223372036854775807 := by unfold maxLen at hcm; exact hcm
  refine ⟨cap, _, h, .inr ⟨w.heap.size, cap, _, _, rfl, Nat.le_refl _, heap_alloc_new w.drew _, hge, hm, Nat.le_refl _, ?_, fun i hi => ?_⟩, hm, hge⟩
  · simp [bytesRow]
  · simp only [bytesRow]
    rw [Array.getElem?_append_left (by simpa using hi)]
    simp [hi]

theorem take1_no {N : PNet} {f t : Int} (h : has N f t = false) (p : Int) : take1 N f t p = N := by
  unfold take1
  simp [h]
theorem take1_yes {N : PNet} {f t : Nat} {p : Int} (h : has N (f : Int) (t : Int) = true) : take1 N f t p = { N with L := rem f t (pick p (cnt N.L f t)) N.L } := by
  unfold take1
  rw [if_pos h]
  rfl
theorem has_cases (N : PNet) (f t : Int) : (isLink N f t = false ∧ has N f t = false) ∨ (∃ f' t' : Nat, f = (f' : Int) ∧ t = (t' : Int) ∧ f' < N.nodes ∧ t' < N.nodes ∧ cnt N.L f' t' = 0 ∧ has N f t = false) ∨
    ∃ f' t' : Nat, f = (f' : Int) ∧ t = (t' : Int) ∧ f' < N.nodes ∧ t' < N.nodes ∧ 0 < cnt N.L f' t' ∧ has N f t = true := by
  rcases hl : isLink N f t with _ | _
  · exact .inl ⟨rfl, by simp [has, hl]⟩
  · obtain ⟨hf, ht⟩ := isLink_iff.1 hl
    refine .inr ?_
    have e1 : f = (f.toNat : Int) := by omega
    have e2 : t = (t.toNat : Int) := by omega
    rcases Nat.eq_zero_or_pos (cnt N.L f.toNat t.toNat) with h0 | h0
    · exact .inl ⟨f.toNat, t.toNat, e1, e2, by omega, by omega, h0, by simp [has, hl, h0]⟩
    · exact .inr ⟨f.toNat, t.toNat, e1, e2, by omega, by omega, h0, by simp [has, hl, h0]⟩

set_option maxHeartbeats 1000000 in
theorem drop_any (w : World) (S : Nat → Prop) (nb : Nat) (N : PNet) (h : Nt w S nb N) (f t p : Int) (hp : -9223372036854775808 ≤ p ∧ p ≤ 9223372036854775807) :
    Calls Try.prog 14 #[.pointer (some ⟨nb, 0, none⟩), .int .i64 f, .int .i64 t, .int .i64 p] w fun e w' => e = .returned (.bool (has N f t)) ∧ Nt w' S nb (take1 N f t p) ∧ Fr S w w' := by
  obtain ⟨gb, ro, bv, h⟩ := h
  have hb : Below w.heap.size w (w.alloc (.cells #[.int .i64 p] 3)) := (Below.refl _ _).alloc (Nat.le_refl _) _
  have h1 := h.after hb
  have hc : (w.alloc (.cells #[.int .i64 p] 3)).cell? ⟨w.heap.size, 0, none⟩ = some (.int .i64 p) := cell_of (heap_alloc_new w _) rfl
  have HF := Lib.hid (Fr.of_new hb S)
  have HM := Lib.hid (meant_any w p)
  rcases has_cases N f t with ⟨hl, hh⟩ | ⟨f', t', rfl, rfl, hf, ht, hz, hh⟩ | ⟨f', t', rfl, rfl, hf, ht, hz, hh⟩
  · have HI := Lib.hid (find_no _ S nb N gb ro bv h1 f t hl (fnV w.heap.size))
    have H1 := Lib.hid h1
    rw [hh, take1_no hh]
    clear h h1 hb hc hl hh
    go_enter Try.func14, Try.ntmps14
    go_wp2_with fail
    refine HM.out.mono ?_
    rintro e w1 ⟨rfl, rfl⟩
    unfold fnV at HI ⊢
    go_wp2_with fail
    refine HI.out.mono ?_
    rintro e w1 ⟨rfl, rfl⟩
    go_wp2_with fail
    go_ret
    exact ⟨rfl, ⟨gb, ro, bv, H1.out⟩, HF.out⟩
  · have HI := Lib.hid (find_none _ S nb N gb ro bv h1 f' t' hf ht hz (fnV w.heap.size))
    have H1 := Lib.hid h1
    rw [hh, take1_no hh]
    clear h h1 hb hc hz hh
    go_enter Try.func14, Try.ntmps14
    go_wp2_with fail
    refine HM.out.mono ?_
    rintro e w1 ⟨rfl, rfl⟩
    unfold fnV at HI ⊢
    go_wp2_with fail
    refine HI.out.mono ?_
    rintro e w1 ⟨rfl, rfl⟩
    go_wp2_with fail
    go_ret
    exact ⟨rfl, ⟨gb, ro, bv, H1.out⟩, HF.out⟩
  · have HI := Lib.hid (find_yes _ S nb N gb ro bv h1 f' t' hf ht hz w.heap.size p hp hc)
    have HT := Lib.hid (take_any _ S nb N gb ro bv h1 f' t' hf ht (pick p (cnt N.L f' t')) (pick_lt hz) _ (text_at hh p))
    rw [hh, take1_yes hh]
    generalize pick p (cnt N.L f' t') = k at *
    clear h h1 hb hc hz hh
    go_enter Try.func14, Try.ntmps14
    go_wp2_with fail
    refine HM.out.mono ?_
    rintro e w1 ⟨rfl, rfl⟩
    unfold fnV at HI ⊢
    go_wp2_with fail
    refine HI.out.mono ?_
    rintro e w1 ⟨rfl, rfl⟩
    go_wp2_with fail
    refine HT.out.mono ?_
    rintro e w2 ⟨rfl, ⟨bv2, h2⟩, hf2⟩
    have H2 := Lib.hid h2
    have HF2 := Lib.hid (HF.out.then hf2)
    clear h2 hf2
    go_wp2_with fail
    go_ret
    exact ⟨rfl, ⟨gb, ro, bv2, H2.out⟩, HF2.out⟩

/-! ### a result that lies in memory -/
def set3 (w : World) (g : Nat) (x y z : Value) : World := ((w.setCell ⟨g, 0, none⟩ x).setCell ⟨g, 1, none⟩ y).setCell ⟨g, 2, none⟩ z
theorem set3_heap {w : World} {g : Nat} {a b c : Value} {t : TypeId} {fz : Nat × Nat} (h : w.heap[g]? = some (.cells #[a, b, c] t fz)) (x y z : Value) : (set3 w g x y z).heap[g]? = some (.cells #[x, y, z] t fz) := by
  have h1 := setCell_same (off := 0) h x
  have h2 := setCell_same (off := 1) h1 y
  have h3 := setCell_same (off := 2) h2 z
  simpa [set3] using h3
theorem set3_fr (w : World) (g : Nat) (x y z : Value) (S : Nat → Prop) (hS : S g) : Fr S w (set3 w g x y z) :=
  ((Fr.setCell S w (p := ⟨g, 0, none⟩) hS x).then (Fr.setCell S _ (p := ⟨g, 1, none⟩) hS y)).then (Fr.setCell S _ (p := ⟨g, 2, none⟩) hS z)
theorem results_msg {fn : Func} (h : fn.results = #[.cell 8 41, .tmp 9]) (tmps : Array Value) (w : World) (g : Nat) (cs : Array Value) (b : Value) (hp : tmps.getD 8 undef = .pointer (some ⟨g, 0, none⟩)) (hb : tmps.getD 9 undef = b)
    (hg : w.heap[g]? = some (.cells cs 41 (0, 0))) (hs : cs.size = 3) : (results fn tmps).run Try.prog w = .ok (.tuple #[.agg cs, b]) w := by
  have hi : (Try.prog.info? 41).map (·.size) = some cs.size := by rw [hs]; kernel_rfl
  have hl := run_loadVar_row (P := Try.prog) w g _ 41 cs (0, 0) _ hg Try.underlying41 rfl hi
  rw [results_cell_tmp h, hp, hb]
  simp [asAddr, Result.andThen, hl]

def dF (N : PNet) (f t : Int) : Int := if has N f t = true then f else 0
def dT (N : PNet) (f t : Int) : Int := if has N f t = true then t else 0
def dX (N : PNet) (f t p : Int) : List UInt8 := if has N f t = true then text N f t p else []

set_option maxRecDepth 100000 in
set_option maxHeartbeats 4000000 in
theorem deliver_any (w : World) (S : Nat → Prop) (nb : Nat) (N : PNet) (h : Nt w S nb N) (f t p : Int) (hp : -9223372036854775808 ≤ p ∧ p ≤ 9223372036854775807) :
    Calls Try.prog 13 #[.pointer (some ⟨nb, 0, none⟩), .int .i64 f, .int .i64 t, .int .i64 p] w fun e w' => ∃ v, e = .returned (.tuple #[.agg #[.int .i64 (dF N f t), .int .i64 (dT N f t), v], .bool (has N f t)]) ∧
      Own1 w' w.heap.size v (dX N f t p) ∧ Nt w' S nb (take1 N f t p) ∧ Fr S w w' := by
  have h0 : Nt w (fun k => S k ∧ k < w.heap.size) nb N := h.mono fun k hk hs => ⟨hs, hk⟩
  obtain ⟨gb, ro, bv, h0⟩ := h0
  obtain ⟨X, hX⟩ : ∃ X, w.alloc (.cells #[.int .i64 0, .int .i64 0, .slice none 0 0] 41) = X := ⟨_, rfl⟩
  have hXs : X.heap.size = w.heap.size + 1 := by rw [← hX]; simp
  have hXb : X.heap[w.heap.size]? = some (.cells #[.int .i64 0, .int .i64 0, .slice none 0 0] 41 (0, 0)) := by rw [← hX]; exact heap_alloc_new w _
  have hbX : Below w.heap.size w X := by rw [← hX]; exact (Below.refl _ _).alloc (Nat.le_refl _) _
  obtain ⟨Y, hY⟩ : ∃ Y, X.alloc (.cells #[.int .i64 p] 3) = Y := ⟨_, rfl⟩
  have hbY : Below X.heap.size X Y := by rw [← hY]; exact (Below.refl _ _).alloc (Nat.le_refl _) _
  have hYc : Y.cell? ⟨X.heap.size, 0, none⟩ = some (.int .i64 p) := by rw [← hY]; exact cell_of (heap_alloc_new X _) rfl
  have hYb : Y.heap[w.heap.size]? = some (.cells #[.int .i64 0, .int .i64 0, .slice none 0 0] 41 (0, 0)) := (hbY.block _ (by omega)).trans hXb
  have h1 := (h0.after hbX).after hbY
  have hbwY : Below w.heap.size w Y := hbX.trans (hbY.mono (by omega))
  have HM := Lib.hid (meant_any X p)
  rw [hY] at HM
  have HB := Lib.hid hbwY
  have HYb := Lib.hid hYb
  have HXs := Lib.hid hXs
  rcases has_cases N f t with ⟨hl, hh⟩ | ⟨f', t', rfl, rfl, hf, ht, hz, hh⟩ | ⟨f', t', rfl, rfl, hf, ht, hz, hh⟩
  · have HI := Lib.hid (find_no _ _ nb N gb ro bv h1 f t hl (fnV X.heap.size))
    have H1 := Lib.hid h1
    have e1 : dF N f t = 0 := by simp [dF, hh]
    have e2 : dT N f t = 0 := by simp [dT, hh]
    have e3 : dX N f t p = [] := by simp [dX, hh]
    rw [hh, take1_no hh, e1, e2, e3]
    clear h h0 h1 hbX hbY hYb hXb hbwY hl hh e1 e2 e3 hY hXs
    go_enter Try.func13, Try.ntmps13
    go_wp2_with fail
    refine HM.out.mono ?_
    rintro e w1 ⟨rfl, rfl⟩
    unfold fnV at HI ⊢
    go_wp2_with fail
    refine HI.out.mono ?_
    rintro e w1 ⟨rfl, rfl⟩
    have d0 := cell_of (i := 0) HYb.out rfl
    have d1 := cell_of (i := 1) HYb.out rfl
    have d2 := cell_of (i := 2) HYb.out rfl
    have z0 := frozen_of (i := 0) HYb.out
    have z1 := frozen_of (i := 1) HYb.out
    have z2 := frozen_of (i := 2) HYb.out
    go_wp2_with fail
    (try simp only [Exit.inBlock, Exit.then])
    have hfz := set3_fr w1 w.heap.size (.int .i64 0) (.int .i64 0) (.slice none 0 0) (fun k => w.heap.size ≤ k) (Nat.le_refl _)
    have hbz := HB.out.trans (hfz.below HB.out.size fun k hk hle => by omega)
    refine bodyPost_ret (v := .tuple #[.agg #[.int .i64 0, .int .i64 0, .slice none 0 0], .bool false]) (results_msg rfl _ _ w.heap.size _ _ rfl rfl (set3_heap HYb.out _ _ _) rfl) rfl ⟨_, rfl, Own1.nil _ _, ?_, Fr.of_new hbz S⟩
    exact Nt.step ⟨gb, ro, bv, H1.out⟩ hfz (fun k _ hs hle => by have := hs.2; omega) (fun _ _ hs => hs.1)
  · have HI := Lib.hid (find_none _ _ nb N gb ro bv h1 f' t' hf ht hz (fnV X.heap.size))
    have H1 := Lib.hid h1
    have e1 : dF N f' t' = 0 := by simp [dF, hh]
    have e2 : dT N f' t' = 0 := by simp [dT, hh]
    have e3 : dX N f' t' p = [] := by simp [dX, hh]
    rw [hh, take1_no hh, e1, e2, e3]
    clear h h0 h1 hbX hbY hYb hXb hbwY hz hh e1 e2 e3 hY hXs
    go_enter Try.func13, Try.ntmps13
    go_wp2_with fail
    refine HM.out.mono ?_
    rintro e w1 ⟨rfl, rfl⟩
    unfold fnV at HI ⊢
    go_wp2_with fail
    refine HI.out.mono ?_
    rintro e w1 ⟨rfl, rfl⟩
    have d0 := cell_of (i := 0) HYb.out rfl
    have d1 := cell_of (i := 1) HYb.out rfl
    have d2 := cell_of (i := 2) HYb.out rfl
    have z0 := frozen_of (i := 0) HYb.out
    have z1 := frozen_of (i := 1) HYb.out
    have z2 := frozen_of (i := 2) HYb.out
    go_wp2_with fail
    (try simp only [Exit.inBlock, Exit.then])
    have hfz := set3_fr w1 w.heap.size (.int .i64 0) (.int .i64 0) (.slice none 0 0) (fun k => w.heap.size ≤ k) (Nat.le_refl _)
    have hbz := HB.out.trans (hfz.below HB.out.size fun k hk hle => by omega)
    refine bodyPost_ret (v := .tuple #[.agg #[.int .i64 0, .int .i64 0, .slice none 0 0], .bool false]) (results_msg rfl _ _ w.heap.size _ _ rfl rfl (set3_heap HYb.out _ _ _) rfl) rfl ⟨_, rfl, Own1.nil _ _, ?_, Fr.of_new hbz S⟩
    exact Nt.step ⟨gb, ro, bv, H1.out⟩ hfz (fun k _ hs hle => by have := hs.2; omega) (fun _ _ hs => hs.1)
  · have HI := Lib.hid (find_yes _ _ nb N gb ro bv h1 f' t' hf ht hz X.heap.size p hp hYc)
    have hta := text_at hh p
    have htl := h.wf.text hh p
    have HT := Lib.hid (take_any _ _ nb N gb ro bv h1 f' t' hf ht (pick p (cnt N.L f' t')) (pick_lt hz) _ hta)
    have e1 : dF N f' t' = f' := by simp [dF, hh]
    have e2 : dT N f' t' = t' := by simp [dT, hh]
    have e3 : dX N f' t' p = text N f' t' p := by simp [dX, hh]
    rw [hh, take1_yes hh, e1, e2, e3]
    generalize pick p (cnt N.L f' t') = k at *
    generalize text N f' t' p = s at *
    clear h h0 h1 hbX hbY hYb hXb hbwY hz hh e1 e2 e3 hY hXs hta
    go_enter Try.func13, Try.ntmps13
    go_wp2_with fail
    refine HM.out.mono ?_
    rintro e w1 ⟨rfl, rfl⟩
    unfold fnV at HI ⊢
    go_wp2_with fail
    refine HI.out.mono ?_
    rintro e w1 ⟨rfl, rfl⟩
    go_wp2_with fail
    refine HT.out.mono ?_
    rintro e w2 ⟨rfl, ⟨bv2, h2⟩, hf2⟩
    obtain ⟨cap, o, hcv, hown, hm, hge⟩ := Own1.conv w2 s htl
    obtain ⟨Z, hZ⟩ : ∃ Z, w2.drew.alloc o = Z := ⟨_, rfl⟩
    rw [hZ] at hcv hown
    have hbZ : Below w2.heap.size w2 Z := by rw [← hZ]; exact (below_drew (Below.refl _ _)).alloc (Nat.le_refl _) _
    have hs1 := hf2.size
    have hs2 := HB.out.size
    have h2b := hf2.keep HYb.out (fun hs => by have := hs.2; omega)
    have hlt2 := block_lt h2b
    have hZb := (hbZ.block _ hlt2).trans h2b
    have d0 := cell_of (i := 0) hZb rfl
    have d1 := cell_of (i := 1) hZb rfl
    have d2 := cell_of (i := 2) hZb rfl
    have z0 := frozen_of (i := 0) hZb
    have z1 := frozen_of (i := 1) hZb
    have z2 := frozen_of (i := 2) hZb
    have H2 := Lib.hid (h2.after hbZ)
    have HF2 := Lib.hid ((hf2.mono fun k _ hs => hs.1).then (Fr.of_new hbZ S))
    have HZb := Lib.hid hZb
    have HOw := Lib.hid hown
    have HN2 := Lib.hid hs2
    have HS2 : Hid (w.heap.size < w2.heap.size ∧ w2.heap.size ≤ Z.heap.size) := Lib.hid ⟨hlt2, hbZ.size⟩
    clear h2 hf2 hown hbZ hs1 hs2 h2b hlt2 hZb hZ
    go_wp2_with fail
    (try simp only [Exit.inBlock, Exit.then])
    refine bodyPost_ret (v := .tuple #[.agg #[.int .i64 (f' : Int), .int .i64 (t' : Int), .slice (some ⟨w2.heap.size, 0, none⟩) s.length cap], .bool true]) (results_msg rfl _ _ w.heap.size _ _ rfl rfl (set3_heap HZb.out _ _ _) rfl) rfl ⟨_, rfl, ?_, ?_, ?_⟩
    · refine Own1.more (Own1.keep HOw.out fun k hk => ?_) (Nat.le_of_lt HS2.out.1)
      obtain rfl : w2.heap.size = k := by simpa [Value.ownBlock] using hk
      exact (set3_fr Z w.heap.size _ _ _ (fun k => k = w.heap.size) rfl).block _ (HOw.out.block hk).2 (fun e => by have := HS2.out.1; omega)
    · exact Nt.step ⟨gb, ro, bv2, H2.out⟩ (set3_fr Z w.heap.size _ _ _ (fun k => k = w.heap.size) rfl) (fun k _ hs e => by have := hs.2; omega) (fun _ _ hs => hs.1)
    · have h3 : Fr S w Z := (Fr.of_new HB.out S).then HF2.out
      refine ⟨h3.os, h3.tape, h3.output, Nat.le_trans h3.size (set3_fr Z w.heap.size (.int .i64 f') (.int .i64 t') (.slice (some ⟨w2.heap.size, 0, none⟩) s.length cap) (fun k => k = w.heap.size) rfl).size, fun k hk hn => ?_⟩
      exact ((set3_fr Z w.heap.size _ _ _ (fun k => k = w.heap.size) rfl).block k (Nat.lt_of_lt_of_le hk h3.size) (fun e => by omega)).trans (h3.block k hk hn)
end Go.Proofs.Ytiffoafjgcjgoaa
