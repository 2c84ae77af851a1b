/-
  The walk over glacierlaw5.from, over whatever From does, if only the sequence keeps its contract.
-/
import Derived.Test.YtdmjkejadaienaaRngA
namespace Go.Proofs.Ytdmjkejadaienaa
open Go.RowKit Go.Shelf
attribute [local go_sem] Oper.semAt_some

set_option maxRecDepth 100000 in
set_option maxHeartbeats 2000000 in
theorem l5_from (w : World) (tv : Value) (key : List UInt8) (es : List Ent) (hN : es.length ≤ 1048576) (hfit : ∀ e ∈ es, FitE e) (G : Nat → Prop)
    (HAll : Calls Try.prog 55 #[tv, .string ⟨key.toArray⟩] (w.alloc (.cells #[.slice none 0 0] 23)) fun r Y => ∃ gf lb, r = .returned (.func (.func gf) #[] lb) ∧ (∀ args W, (callFunc gf args).run Try.prog W = .ok (.enter gf args) W) ∧
      Below (w.heap.size + 1) (w.alloc (.cells #[.slice none 0 0] 23)) Y ∧ SeqE gf lb es G (fun k => k = w.heap.size) Y) :
    Calls Try.prog 29 #[tv, .string ⟨key.toArray⟩] w fun r W => ∃ v, r = .returned v ∧ En W (fun k => G k ∨ w.heap.size < k) v es ∧ Below w.heap.size w W := by
  refine (callsIn_wide (n := 4)).1 ?_
  have HA := Lib.hid HAll
  have bO := Boxed.new w 23 (.slice none 0 0)
  have HbO := Lib.hid bO
  clear HAll bO
  refine callsIn_of_wp_marks Try.func29 rfl trivial ?_ rfl
  simp only [Try.ntmps29, List.size_toArray, List.length_cons, List.length_nil, Nat.reduceAdd, Nat.reduceSub, Array.replicate_succ, Array.replicate_zero, List.push_toArray, List.append_toArray, List.nil_append, List.cons_append]
  gi_wp2_with (refine ⟨trivial, ?_⟩; gi_at_call 55; refine (callsIn_wide.2 HA.out).mono ?_; rintro r Y ⟨gf, lb, rfl, hen, hbY, hseq⟩)
  have hYs := hbY.size
  rw [World.size_alloc] at hYs
  have hw1 : w.heap.size ≤ Y.heap.size := by omega
  have HBox : Hid (Boxed Y w.heap.size 23 (.slice none 0 0)) := Lib.hid ((hbY.block _ (by omega)).trans HbO.out)
  have HbwY : Hid (Below w.heap.size w Y) := Lib.hid (((Below.refl _ w).alloc (Nat.le_refl _) _).trans (hbY.mono (by omega)))
  refine range_q (α := TEnt) (encs := encT) (Kp := KpE (fun k => k = w.heap.size) Y.heap.size) (Qx := QT G) rfl (by omega) (gf := gf) (lb := lb) rfl trivial hen hseq (fun _ => rfl)
    (fun h k => h.trans k) (fun h => .of_calm h)
    (Coll G w.heap.size Y.heap.size w) (fun _ _ _ => False) (Coll.calm hw1 (Nat.le_refl _)) (fun _ _ _ _ h _ => h)
    ⟨_, HBox.out, World.ownsRow_nil _ _ _ _, (fun x hx => by cases hx), HbwY.out, Nat.le_refl _⟩
    (fun x a' W => ∃ Bx, Y.heap.size ≤ Bx ∧ BoxE' W Bx x ∧ QT G x W ∧ a' = { tmps := #[tv, .string ⟨key.toArray⟩, undef, undef, .slice none 0 0, .pointer (some ⟨w.heap.size, 0, none⟩), .pointer (some ⟨Bx, 0, none⟩), tv, .string ⟨key.toArray⟩, .func (.func gf) #[] lb, .agg #[.string ⟨x.1.key.toArray⟩, .int .u64 (x.1.seq : Int), .bool x.1.gone, .slice x.2.1 x.1.val.length x.2.2], undef, undef, undef, undef, undef], defers := [] })
    (fun x a' _ A C h hc => by
      obtain ⟨Bx, h1, h2, h3, h4⟩ := h
      exact ⟨Bx, h1, hc.same _ _ h2 (.inr rfl), hc.ownS h3, h4⟩) ?assign ?body ?done ?stop
  case assign =>
    intro l pre x W K hi hq hK
    have HK := Lib.hid hK
    have Hi := Lib.hid hi
    have Hq := Lib.hid hq
    clear hi hq hK
    unfold encT
    gi_wp2
    have hcm : Calm Y.heap.size W (W.alloc (.cells #[.string ⟨x.1.key.toArray⟩, .int .u64 (x.1.seq : Int), .bool x.1.gone, .slice x.2.1 x.1.val.length x.2.2] 35)) := .of_below ((Below.refl _ W).alloc (Nat.le_refl _) _)
    obtain ⟨_, _, _, _, _, hsz⟩ := Hi.out
    exact HK.out _ _ ((KeepsOthers.alloc _ _).from _) (.of_below ((Below.refl _ W).alloc (Nat.le_refl _) _)) (Coll.calm hw1 (Nat.le_refl _) _ _ _ Hi.out hcm) ⟨W.heap.size, hsz, heap_alloc_new W _, hcm.ownS Hq.out, rfl⟩
  case body =>
    rintro l pre x a' W ⟨v, hbx, hrow, hq, hbw, hsz⟩ ⟨Bx, hB, hbe, hqx, rfl⟩ hlt
    obtain ⟨po, co, rfl, ho1, ho2⟩ := row_shape hrow
    have hc := hbx.cell
    have e0 := cell_of (i := 0) hbe rfl
    have e1 := cell_of (i := 1) hbe rfl
    have e2 := cell_of (i := 2) hbe rfl
    have e3 := cell_of (i := 3) hbe rfl
    obtain ⟨X, hX⟩ : ∃ X, W.alloc (.cells #[.string ⟨x.1.key.toArray⟩, .int .u64 (x.1.seq : Int), .bool x.1.gone, .slice x.2.1 x.1.val.length x.2.2] 35) = X := ⟨_, rfl⟩
    have hbX : Below W.heap.size W X := by rw [← hX]; exact (Below.refl _ W).alloc (Nat.le_refl _) _
    have HRX : Hid (X.ownsRow Y.heap.size 35 4 (.slice po pre.length co) pre.length (cellsE (pre.map Prod.fst) (pre.map TEnt.u))) := Lib.hid (row_keep hrow fun k hk => hbX.block k (row_lt hrow k hk))
    have HCX : Hid (Cl X (fun k => k = W.heap.size) (.slice (some ⟨W.heap.size, 0, none⟩) 1 1) 1 (cellsE [x.1] [x.u])) := Lib.hid (by
      rw [← hX]
      exact Cl.new W (fun k => k = W.heap.size) 1 _ #[.string ⟨x.1.key.toArray⟩, .int .u64 (x.1.seq : Int), .bool x.1.gone, .slice x.2.1 x.1.val.length x.2.2] 35 rfl (by omega) rfl)
    have oneu : Hid (∀ v ∈ cellsE [x.1] [x.u], v.oneCell' = true) := Lib.hid (cellsE_one _ _ (by simp [TEnt.u, Value.oneCell']))
    have HszX : Hid (Y.heap.size ≤ X.heap.size) := Lib.hid (Nat.le_trans hsz hbX.size)
    have HbxX : Hid (Boxed X w.heap.size 23 (.slice po pre.length co)) := Lib.hid ((hbX.block _ hbx.lt).trans hbx)
    have HbX := Lib.hid hbX
    have Hq := Lib.hid hq
    have Hqx := Lib.hid hqx
    have Hbw := Lib.hid hbw
    have Hrow := Lib.hid hrow
    have hlt2 : pre.length + 1 ≤ 68719476736 := by omega
    clear hbx hrow hq hbw hbe hqx hbX
    gi_wp2_with (gi_at_builtin
                 refine slEnt.wpListIn_append rfl (.tmp 11) (.tmp 13) rfl Y.heap.size (v := .slice po pre.length co) (u := .slice (some ⟨W.heap.size, 0, none⟩) 1 1) rfl rfl HRX.out HCX.out rfl oneu.out hlt2 HszX.out ?_
                 intro v' w1 ho hg ha
                 have hb1 : Below Y.heap.size X w1 := (Below.refl _ X).grown hg HszX.out (row_low HRX.out)
                 have hbx1 := (hb1.block w.heap.size (by omega)).trans HbxX.out
                 have hc1 := cell_of (i := 0) hbx1 rfl
                 have hf1 := frozen_of (i := 0) hbx1
                 obtain ⟨p9, c9, rfl, _, _⟩ := row_shape ho
                 have HO := Lib.hid ho
                 have HG := Lib.hid hg
                 have HB1 := Lib.hid hb1
                 have HBx1 := Lib.hid hbx1
                 clear ho hg ha hb1 hbx1)
    have hkeep : ∀ {u : Value} {l : List UInt8}, OwnS G W u l → OwnS G (w1.setCell ⟨w.heap.size, 0, none⟩ (.slice p9 (pre.length + 1) c9)) u l := fun hu => hu.keep (fun j hj => by
      obtain ⟨cur, hcu⟩ := hu.1.heap hj
      have h1 := (HbX.out.block j (block_lt hcu)).trans hcu
      have h2 : w1.heap[j]? = X.heap[j]? := HG.out.block j (block_lt h1) (fun e => by
        obtain ⟨cur2, hc2⟩ := row_heap HRX.out e.symm
        exact kind_ne h1 hc2 (by decide) rfl)
      have h3 : j ≠ w.heap.size := kind_ne h1 HbxX.out (by decide)
      exact ((setCell_other h3 _).trans h2).trans (h1.trans hcu.symm)) (fun _ _ hs => hs)
    refine ⟨?_, ?_, .slice p9 (pre.length + 1) c9, ?_, ?_, fun y hy => ?_, ?_, ?_⟩
    · have k1 : KeepsFrom Y.heap.size W X := by rw [← hX]; exact (KeepsOthers.alloc _ _).from _
      exact (k1.trans (keeps_grown HRX.out HG.out)).trans (keeps_setCell _ _ _)
    · exact ((KpE.of_below HbX.out).trans (KpE.grown HRX.out HG.out (Nat.le_refl _))).trans (KpE.setCell w1 (B0 := fun k => k = w.heap.size) rfl _)
    · have := setCell_same (off := 0) HBx1.out (.slice p9 (pre.length + 1) c9)
      unfold Boxed
      simpa using this
    · have h1 := row_keep (w' := w1.setCell ⟨w.heap.size, 0, none⟩ (.slice p9 (pre.length + 1) c9)) HO.out fun k hk => setCell_other (fun e => by have := row_low HO.out k hk; omega) _
      rw [← cellsE_append _ _ _ _ (by simp)] at h1
      simpa using h1
    · rcases List.mem_append.1 hy with hy | hy
      · exact hkeep (Hq.out y hy)
      · obtain rfl : y = x := by simpa using hy
        exact hkeep Hqx.out
    · have b1 : Below w.heap.size w X := Hbw.out.trans (HbX.out.mono Hbw.out.size)
      exact (b1.trans (HB1.out.mono hw1)).setCell (p := ⟨w.heap.size, 0, none⟩) (Nat.le_refl _) _
    · have := HB1.out.size
      have := HszX.out
      simp [World.setCell]
      omega
  case done =>
    rintro D ys W hD hS ⟨v, hbx, hrow, hq, hbw, hsz⟩ hK
    have hc := hbx.cell
    have hcm : Calm Y.heap.size W (W.putObj D (.deferred none)) := Calm.put _ hD hK rfl
    have HEn : Hid (En (W.putObj D (.deferred none)) (fun k => G k ∨ w.heap.size < k) v es ∧ Below w.heap.size w (W.putObj D (.deferred none))) := Lib.hid (by
      have hlen : es.length = ys.length := by rw [← hS, List.length_map]
      refine ⟨⟨ys.map TEnt.u, by simp [hlen], ?_, fun k e u h1 h2 => ?_⟩, hcm.below hbw hw1 (Nat.le_refl _)⟩
      · rw [← hS, List.length_map]
        exact Cl.of_own (hcm.row hrow) (by omega) (fun k hk => .inr (by have := row_low hrow k hk; omega)) (by rw [cellsE_length _ _ (by simp), List.length_map])
      · rw [← hS] at h1
        have hkl : k < ys.length := by
          have := (List.getElem?_eq_some_iff.1 h1).1
          rwa [List.length_map] at this
        have e1 : ys[k].1 = e := by simpa [hkl] using h1
        have e2 : ys[k].u = u := by simpa [hkl] using h2
        subst e1 e2
        have hf := hfit ys[k].1 (by rw [← hS]; exact List.mem_map_of_mem (List.getElem_mem hkl))
        exact ((hcm.ownS (hq ys[k] (List.getElem_mem hkl))).by_ (by have := hf.val; omega)).mono fun _ _ hG => .inl hG)
    have HK := Lib.hid hK
    clear hbx hrow hq hbw hK hcm hS
    gi_wp2
    refine ⟨by simp, .inl ⟨_, _, rfl, run_takeDeferred HK.out, ?_⟩⟩
    exact ⟨_, results_tmp rfl _ _ _, v, rfl, HEn.out⟩
  case stop =>
    rintro D c pre W _ _ h _
    exact h.elim
end Go.Proofs.Ytdmjkejadaienaa
