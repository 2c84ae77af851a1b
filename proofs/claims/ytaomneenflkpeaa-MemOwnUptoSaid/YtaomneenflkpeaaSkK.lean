/-
  The walk over replace.
-/
import Derived.Test.YtaomneenflkpeaaSkJ
namespace Go.Proofs.Ytaomneenflkpeaa
open Go.RowKit

/-- A change's cells. -/
def chC (num : Nat) (e : Ent) (q : Option Nat) : Array Value := #[.int .i64 (num : Int), .string ⟨e.key.toArray⟩, .int .u64 (e.seq : Int), .bool e.gone, .string ⟨e.val.toArray⟩, pv q]
theorem nxt_shape : ∀ {ns ms : List Nd} (_ : ns.map (fun n => (n.h, n.blk)) = ms.map fun n => (n.h, n.blk)) (lv : Nat), nxt ns lv = nxt ms lv
  | [], [], _, _ => rfl
  | [], _ :: _, h, _ => by simp at h
  | _ :: _, [], h, _ => by simp at h
  | a :: r, b :: s, h, lv => by
    simp only [List.map_cons, List.cons.injEq, Prod.mk.injEq] at h
    rw [nxt_cons, nxt_cons, h.1.1, h.1.2, nxt_shape h.2 lv]
def setE (nd : Nd) (x : Ent) : Nd := { nd with ent := x }
section
variable {w W : World} {S S' : Nat → Prop} {mb : Nat} {T : PTb} {sz hh P b nb : Nat} {dv hv : Value} {ns : List Nd} {nd : Nd} {x : Ent}
theorem set_map {α : Type} (f : Nd → α) (hP : ns[P]? = some nd) (hf : f (setE nd x) = f nd) : (ns.set P (setE nd x)).map f = ns.map f := by
  refine List.ext_getElem? fun i => ?_
  rw [List.getElem?_map, List.getElem?_map, List.getElem?_set]
  split
  · rename_i e
    subst e
    have hlt := (List.getElem?_eq_some_iff.1 hP).1
    rw [if_pos hlt, hP]
    simp [hf]
  · rfl
theorem set_ways (hP : ns[P]? = some nd) {i : Nat} {a : Nd} (h : (ns.set P (setE nd x))[i]? = some a) : ∃ a0, ns[i]? = some a0 ∧ a.blk = a0.blk ∧ a.tow = a0.tow ∧ a.h = a0.h ∧ a.num = a0.num ∧ ((i = P ∧ a = setE nd x) ∨ (i ≠ P ∧ a = a0)) := by
  rw [List.getElem?_set] at h
  have hlt := (List.getElem?_eq_some_iff.1 hP).1
  split at h
  · rename_i e
    subst e
    obtain rfl := Option.some.inj h
    exact ⟨nd, hP, rfl, rfl, rfl, rfl, .inl ⟨rfl, rfl⟩⟩
  · rename_i e
    exact ⟨a, h, rfl, rfl, rfl, rfl, .inr ⟨fun e2 => e e2.symm, rfl⟩⟩
def set6 (w : World) (g : Nat) (a b c d e f : Value) : World := (((((w.setCell ⟨g, 0, none⟩ a).setCell ⟨g, 1, none⟩ b).setCell ⟨g, 2, none⟩ c).setCell ⟨g, 3, none⟩ d).setCell ⟨g, 4, none⟩ e).setCell ⟨g, 5, none⟩ f
theorem set6_heap {w : World} {g : Nat} {a b c d e f : Value} {t : TypeId} {fz : Nat × Nat} (h : w.heap[g]? = some (.cells #[a, b, c, d, e, f] t fz)) (a' b' c' d' e' f' : Value) : (set6 w g a' b' c' d' e' f').heap[g]? = some (.cells #[a', b', c', d', e', f'] t fz) := by
  have h1 := setCell_same (off := 0) h a'
  have h2 := setCell_same (off := 1) h1 b'
  have h3 := setCell_same (off := 2) h2 c'
  have h4 := setCell_same (off := 3) h3 d'
  have h5 := setCell_same (off := 4) h4 e'
  have h6 := setCell_same (off := 5) h5 f'
  simpa [set6] using h6
theorem set6_fr (w : World) (g : Nat) (a b c d e f : Value) (S : Nat → Prop) (hS : S g) : Fr S w (set6 w g a b c d e f) :=
  (((((Fr.setCell S w (p := ⟨g, 0, none⟩) hS a).then (Fr.setCell S _ (p := ⟨g, 1, none⟩) hS b)).then (Fr.setCell S _ (p := ⟨g, 2, none⟩) hS c)).then (Fr.setCell S _ (p := ⟨g, 3, none⟩) hS d)).then (Fr.setCell S _ (p := ⟨g, 4, none⟩) hS e)).then (Fr.setCell S _ (p := ⟨g, 5, none⟩) hS f)
theorem SkAt.replaced (h : SkAt w S mb T sz dv hv hh ns (some b)) (hfit : FitE x) (hone : oneE x = true) (hPx : plcE x T.L = P) (hfd : foundE x T.L = true) (hP : ns[P]? = some nd) (hf : Fr (fun k => k = mb ∨ k = nd.blk ∨ k = b) w W)
    (hmb : W.heap[mb]? = some (.cells (tbC dv sz hv ns.length (some nb)) 67 (0, 0))) (hnd : W.heap[nd.blk]? = some (.cells (ndC (setE nd x)) 62 (0, 0))) (hnb : ChB W nb) (hS : ∀ k, k < w.heap.size → S k → S' k) (hSn : S' nb) :
    SkAt W S' mb (putT T x) sz dv hv hh (ns.set P (setE nd x)) (some nb) := by
  have hput := putT_found hfd
  rw [hPx] at hput
  obtain ⟨hSb, hcb⟩ := h.blank b rfl
  have hnB := (h.lk.nb P nd hP).2
  have off : ∀ {k : Nat} {cs : Array Value} {t : TypeId}, w.heap[k]? = some (.cells cs t (0, 0)) → t ≠ 67 → t ≠ 62 → t ≠ 113 → W.heap[k]? = some (.cells cs t (0, 0)) := fun hk h1 h2 h3 =>
    hf.keep hk (fun e => by
      rcases e with e | e | e
      · exact kind_ne hk h.blk h1 e
      · exact kind_ne hk hnB h2 e
      · exact kind_ne hk hcb h3 e)
  have hshape := set_map (x := x) (fun n => (n.h, n.blk)) hP rfl
  refine ⟨by rw [List.length_set]; exact hmb, hS _ (block_lt h.blk) h.inS, ?_, ?_, ?_, h.wf.put hfit hone, ?_, fun k hk => ?_, fun a ha => ?_, h.h12, ?_, fun a ha => ?_, ?_, (fun e => by cases e), fun b' hb' => ?_⟩
  · rw [hput, List.map_set, h.ents]
    rfl
  · rw [hput, set_map (x := x) _ hP rfl, h.hs]
  · rw [hput, List.length_set]
    exact h.came
  · rw [hput]
    refine row_keep h.drw fun k hk => ?_
    obtain ⟨cur, hc⟩ := row_heap h.drw hk
    exact (off hc (by decide) (by decide) (by decide)).trans hc.symm
  · obtain ⟨cur, hc⟩ := row_heap h.drw hk
    exact hS k (block_lt hc) (h.drS k hk)
  · obtain ⟨i, hi, rfl⟩ := List.getElem_of_mem ha
    obtain ⟨a0, h1, _, _, h2, _⟩ := set_ways hP (List.getElem?_eq_getElem hi)
    rw [h2]
    exact h.hle a0 (List.mem_of_getElem? h1)
  · rw [set_map (x := x) _ hP rfl]
    exact h.nums
  · obtain ⟨i, hi, rfl⟩ := List.getElem_of_mem ha
    obtain ⟨a0, h1, _, _, _, h2, _⟩ := set_ways hP (List.getElem?_eq_getElem hi)
    rw [h2, List.length_set]
    exact h.numl a0 (List.mem_of_getElem? h1)
  · have hnx : ∀ j l, nxt ((ns.set P (setE nd x)).drop j) l = nxt (ns.drop j) l := fun j l => nxt_shape (by rw [List.map_drop, List.map_drop, hshape]) l
    refine ⟨?_, fun k hk => ?_, fun i a hi => ?_, fun i a hi => ?_, fun i j a c hi hj e => ?_, fun i j a c hi hj e => ?_, fun i a hi => ?_⟩
    · rw [tows_congr fun l _ => hnx 0 l]
      refine row_keep h.lk.hrow fun k hk => ?_
      obtain ⟨cur, hc⟩ := row_heap h.lk.hrow hk
      exact (off hc (by decide) (by decide) (by decide)).trans hc.symm
    · obtain ⟨cur, hc⟩ := row_heap h.lk.hrow hk
      exact hS k (block_lt hc) (h.lk.hS k hk)
    · obtain ⟨a0, h1, e1, e2, e3, e4, ⟨rfl, rfl⟩ | ⟨hne, rfl⟩⟩ := set_ways hP hi
      · exact ⟨hS _ (block_lt hnB) (h.lk.nb i nd hP).1, hnd⟩
      · obtain ⟨a1, a2⟩ := h.lk.nb i a h1
        refine ⟨hS _ (block_lt a2) a1, hf.keep a2 fun e => ?_⟩
        rcases e with e | e | e
        · exact kind_ne a2 h.blk (by decide) e
        · exact hne (h.lk.bne i P a nd h1 hP e)
        · exact kind_ne a2 hcb (by decide) e
    · obtain ⟨a0, h1, e1, e2, e3, e4, _⟩ := set_ways hP hi
      obtain ⟨a1, a2⟩ := h.lk.tb i a0 h1
      unfold TwB at a2 ⊢
      rw [e2, e3, tows_congr fun l _ => hnx (i + 1) l]
      exact ⟨hS _ (block_lt a2) a1, off a2 (by decide) (by decide) (by decide)⟩
    · obtain ⟨a0, h1, e1, _⟩ := set_ways hP hi
      obtain ⟨c0, h2, e2, _⟩ := set_ways hP hj
      exact h.lk.bne i j a0 c0 h1 h2 (by rw [← e1, ← e2]; exact e)
    · obtain ⟨a0, h1, _, e1, _⟩ := set_ways hP hi
      obtain ⟨c0, h2, _, e2, _⟩ := set_ways hP hj
      exact h.lk.tne i j a0 c0 h1 h2 (by rw [← e1, ← e2]; exact e)
    · obtain ⟨a0, h1, _, e1, _⟩ := set_ways hP hi
      rw [e1]
      exact h.lk.hne i a0 h1
  · obtain rfl := Option.some.inj hb'
    exact ⟨hSn, hnb⟩
end

set_option maxRecDepth 100000 in
set_option maxHeartbeats 4000000 in
theorem sk_replace (w : World) (S : Nat → Prop) (mb : Nat) (T : PTb) (sz : Nat) (dv hv : Value) (hh : Nat) (ns : List Nd) (b P : Nat) (nd : Nd) (h : SkAt w S mb T sz dv hv hh ns (some b)) (x : Ent) (hx : FitE x) (ho : oneE x = true) (hPx : plcE x T.L = P) (hfd : foundE x T.L = true) (hP : ns[P]? = some nd) :
    Calls Try.prog 46 #[.pointer (some ⟨mb, 2, none⟩), .pointer (some ⟨nd.blk, 0, none⟩), verV x] w fun r w' => r = .returned (.tuple #[]) ∧
      SkAt w' (More S w.heap.size) mb (putT T x) sz dv hv hh (ns.set P (setE nd x)) (some (w.heap.size + 1)) ∧ w'.heap[b]? = some (.cells (chC nd.num nd.ent (some (w.heap.size + 1))) 113 (0, 0)) ∧ Fr S w w' := by
  obtain ⟨X, hX⟩ : ∃ X, (w.alloc (.cells #[.string ⟨x.key.toArray⟩, .int .u64 (x.seq : Int), .bool x.gone, .string ⟨x.val.toArray⟩] 59)).alloc (.cells #[.int .i64 0, .string ⟨#[]⟩, .int .u64 0, .bool false, .string ⟨#[]⟩, .pointer none] 113) = X := ⟨_, rfl⟩
  have hb : Below w.heap.size w X := by rw [← hX]; exact ((Below.refl _ _).alloc (Nat.le_refl _) _).alloc (by simp) _
  have hx0 : X.heap[w.heap.size]? = some (.cells #[.string ⟨x.key.toArray⟩, .int .u64 (x.seq : Int), .bool x.gone, .string ⟨x.val.toArray⟩] 59 (0, 0)) := by
    rw [← hX]
    exact (alloc_old (by simp) _).trans (heap_alloc_new w _)
  have hx1 : X.heap[w.heap.size + 1]? = some (.cells #[.int .i64 0, .string ⟨#[]⟩, .int .u64 0, .bool false, .string ⟨#[]⟩, .pointer none] 113 (0, 0)) := by
    rw [← hX]
    exact heap_alloc2_new w _ _
  have hS := h.after hb
  obtain ⟨hSb, hcb⟩ := hS.blank b rfl
  have hnB := (hS.lk.nb P nd hP).2
  unfold ChB at hcb
  unfold NdB at hnB
  have e1 : b ≠ mb := kind_ne hcb hS.blk (by decide)
  have e2 : nd.blk ≠ mb := kind_ne hnB hS.blk (by decide)
  have e3 : nd.blk ≠ b := kind_ne hnB hcb (by decide)
  have hXs : X.heap.size = w.heap.size + 2 := by rw [← hX]; simp
  have hml := hS.lt
  obtain ⟨W0, hW0⟩ : ∃ W0, X.drew = W0 := ⟨_, rfl⟩
  have hcb0 : W0.heap[b]? = some (.cells #[.int .i64 0, .string ⟨#[]⟩, .int .u64 0, .bool false, .string ⟨#[]⟩, .pointer none] 113 (0, 0)) := by rw [← hW0]; exact hcb
  obtain ⟨W1, hW1⟩ : ∃ W1, (((((W0.setCell ⟨b, 0, none⟩ (.int .i64 (nd.num : Int))).setCell ⟨b, 1, none⟩ (.string ⟨nd.ent.key.toArray⟩)).setCell ⟨b, 2, none⟩ (.int .u64 (nd.ent.seq : Int))).setCell ⟨b, 3, none⟩ (.bool nd.ent.gone)).setCell ⟨b, 4, none⟩ (.string ⟨nd.ent.val.toArray⟩)).setCell ⟨b, 5, none⟩ (.pointer (some ⟨w.heap.size + 1, 0, none⟩)) = W1 := ⟨_, rfl⟩
  have hf1 : Fr (fun k => k = b) X W1 := by
    rw [← hW1, ← hW0]
    exact (Fr.refl (fun k => k = b) X).drew.then (set6_fr X.drew b (.int .i64 (nd.num : Int)) (.string ⟨nd.ent.key.toArray⟩) (.int .u64 (nd.ent.seq : Int)) (.bool nd.ent.gone) (.string ⟨nd.ent.val.toArray⟩) (.pointer (some ⟨w.heap.size + 1, 0, none⟩)) _ rfl)
  have hch : W1.heap[b]? = some (.cells #[.int .i64 (nd.num : Int), .string ⟨nd.ent.key.toArray⟩, .int .u64 (nd.ent.seq : Int), .bool nd.ent.gone, .string ⟨nd.ent.val.toArray⟩, .pointer (some ⟨w.heap.size + 1, 0, none⟩)] 113 (0, 0)) := by
    rw [← hW1]
    exact set6_heap (w := W0) hcb0 _ _ _ _ _ _
  have hm1 := (hf1.block mb hml e1.symm).trans hS.blk
  obtain ⟨W2, hW2⟩ : ∃ W2, W1.setCell ⟨mb, 9, none⟩ (.pointer (some ⟨w.heap.size + 1, 0, none⟩)) = W2 := ⟨_, rfl⟩
  have hf2 : Fr (fun k => k = mb) W1 W2 := by rw [← hW2]; exact Fr.setCell (fun k => k = mb) W1 (p := ⟨mb, 9, none⟩) rfl _
  have hm2 : W2.heap[mb]? = some (.cells (tbC dv sz hv ns.length (some (w.heap.size + 1))) 67 (0, 0)) := by
    have := setCell_same (off := 9) hm1 (.pointer (some ⟨w.heap.size + 1, 0, none⟩))
    rw [hW2] at this
    simpa [tbC, pv] using this
  have hn1 := (hf1.block nd.blk (block_lt hnB) e3).trans hnB
  have hn2 := (hf2.block nd.blk (block_lt hn1) e2).trans hn1
  have hbx1 := (hf1.block w.heap.size (by omega) (fun e => kind_ne hx0 hcb (by decide) e)).trans hx0
  have hbx2 := (hf2.block w.heap.size (block_lt hbx1) (fun e => kind_ne hx0 hS.blk (by decide) e)).trans hbx1
  have hch2 := (hf2.block b (block_lt hch) e1).trans hch
  have hnw1 := (hf1.block (w.heap.size + 1) (by omega) (fun e => by have := h.blank b rfl; have := block_lt this.2; omega)).trans hx1
  have hnw2 := (hf2.block (w.heap.size + 1) (block_lt hnw1) (fun e => by have := h.lt; omega)).trans hnw1
  obtain ⟨W3, hW3⟩ : ∃ W3, set4 W2 nd.blk (.string ⟨x.key.toArray⟩) (.int .u64 (x.seq : Int)) (.bool x.gone) (.string ⟨x.val.toArray⟩) = W3 := ⟨_, rfl⟩
  have hf3 : Fr (fun k => k = nd.blk) W2 W3 := by rw [← hW3]; exact set4_fr W2 nd.blk _ _ _ _ _ rfl
  have hn3 : W3.heap[nd.blk]? = some (.cells (ndC (setE nd x)) 62 (0, 0)) := by
    rw [← hW3]
    unfold ndC at hn2
    have h1 := setCell_same (off := 0) hn2 (.string ⟨x.key.toArray⟩)
    have h2 := setCell_same (off := 1) h1 (.int .u64 (x.seq : Int))
    have h3 := setCell_same (off := 2) h2 (.bool x.gone)
    have h4 := setCell_same (off := 3) h3 (.string ⟨x.val.toArray⟩)
    simpa [set4, ndC, setE] using h4
  have hAll : Fr (fun k => k = mb ∨ k = nd.blk ∨ k = b) X W3 := ((hf1.mono fun k _ e => .inr (.inr e)).then (hf2.mono fun k _ e => .inl e)).then (hf3.mono fun k _ e => .inr (.inl e))
  have hnB' := (h.lk.nb P nd hP)
  have HRes : Hid (SkAt W3 (More S w.heap.size) mb (putT T x) sz dv hv hh (ns.set P (setE nd x)) (some (w.heap.size + 1)) ∧ W3.heap[b]? = some (.cells (chC nd.num nd.ent (some (w.heap.size + 1))) 113 (0, 0)) ∧ Fr S w W3) := by
    refine Lib.hid ⟨hS.replaced hx ho hPx hfd hP hAll ((hf3.block mb (block_lt hm2) e2.symm).trans hm2) hn3 ?_ (fun k _ hk => .inl hk) (.inr (by omega)), (hf3.block b (block_lt hch2) e3.symm).trans hch2, (Fr.of_new hb S).then (hAll.mono fun k _ e => ?_)⟩
    · exact (hf3.block (w.heap.size + 1) (block_lt hnw2) (fun e => by have := block_lt hnB'.2; omega)).trans hnw2
    · rcases e with e | e | e
      · rw [e]; exact h.inS
      · rw [e]; exact hnB'.1
      · rw [e]; exact hSb
  have c9 : W0.cell? ⟨mb, 9, none⟩ = some (.pointer (some ⟨b, 0, none⟩)) := by rw [← hW0]; exact hS.c9
  have n4 : W0.cell? ⟨nd.blk, 4, none⟩ = some (.int .i64 (nd.num : Int)) := by rw [← hW0]; exact cell_of hnB rfl
  have n0 : W0.cell? ⟨nd.blk, 0, none⟩ = some (.string ⟨nd.ent.key.toArray⟩) := by rw [← hW0]; exact cell_of hnB rfl
  have n1 : W0.cell? ⟨nd.blk, 1, none⟩ = some (.int .u64 (nd.ent.seq : Int)) := by rw [← hW0]; exact cell_of hnB rfl
  have n2 : W0.cell? ⟨nd.blk, 2, none⟩ = some (.bool nd.ent.gone) := by rw [← hW0]; exact cell_of hnB rfl
  have n3 : W0.cell? ⟨nd.blk, 3, none⟩ = some (.string ⟨nd.ent.val.toArray⟩) := by rw [← hW0]; exact cell_of hnB rfl
  have b0 := cell_of (i := 0) hcb0 rfl
  have b1 := cell_of (i := 1) hcb0 rfl
  have b2 := cell_of (i := 2) hcb0 rfl
  have b3 := cell_of (i := 3) hcb0 rfl
  have b4 := cell_of (i := 4) hcb0 rfl
  have b5 := cell_of (i := 5) hcb0 rfl
  have z0 := frozen_of (i := 0) hcb0
  have z1 := frozen_of (i := 1) hcb0
  have z2 := frozen_of (i := 2) hcb0
  have z3 := frozen_of (i := 3) hcb0
  have z4 := frozen_of (i := 4) hcb0
  have z5 := frozen_of (i := 5) hcb0
  have m9 := cell_of (i := 9) hm1 rfl
  have zm9 := frozen_of (i := 9) hm1
  have k0 : W2.cell? ⟨w.heap.size, 0, none⟩ = some (.string ⟨x.key.toArray⟩) := cell_of hbx2 rfl
  have k1 : W2.cell? ⟨w.heap.size, 1, none⟩ = some (.int .u64 (x.seq : Int)) := cell_of hbx2 rfl
  have k2 : W2.cell? ⟨w.heap.size, 2, none⟩ = some (.bool x.gone) := cell_of hbx2 rfl
  have k3 : W2.cell? ⟨w.heap.size, 3, none⟩ = some (.string ⟨x.val.toArray⟩) := cell_of hbx2 rfl
  have y0 := cell_of (i := 0) hn2 rfl
  have y1 := cell_of (i := 1) hn2 rfl
  have y2 := cell_of (i := 2) hn2 rfl
  have y3 := cell_of (i := 3) hn2 rfl
  have zy0 := frozen_of (i := 0) hn2
  have zy1 := frozen_of (i := 1) hn2
  have zy2 := frozen_of (i := 2) hn2
  have zy3 := frozen_of (i := 3) hn2
  unfold set4 at hW3
  clear hb hx0 hx1 hS hSb hcb hcb0 hnB e1 e2 e3 hXs hml hf1 hch hm1 hf2 hm2 hn1 hn2 hbx1 hbx2 hch2 hnw1 hnw2 hf3 hn3 hAll hnB' h hx ho hPx hfd hP
  unfold verV
  go_enter Try.func46, Try.ntmps46
  go_wp2_with fail
  go_still_tail 15, (by kernel_rfl)
  go_wp2_with fail
  go_end0
  exact ⟨rfl, HRes.out⟩
end Go.Proofs.Ytaomneenflkpeaa
