import Derived.Test.YtagehnclkneolaaGreatDoorGTb
import Derived.Test.YtagehnclkneolaaGreatDoorRngA

/-
  The walk over a table's Bounds.
-/
namespace Go.Proofs.YtagehnclkneolaaGreatDoor
open Go.RowKit

def lasK (L : List Ent) : List UInt8 := match L[L.length - 1]? with | some e => e.key | none => []

set_option maxRecDepth 100000 in
set_option maxHeartbeats 2000000 in
theorem bounds_any (w : World) (base tb nb : Nat) (L : List Ent) (h : TblM w base tb L nb) (hs : ShL L) (hl : L.length ≤ 1048576) :
    Calls Tryz.prog 28 #[.pointer (some ⟨tb, 0, none⟩)] w fun x w' => x = .returned (.tuple #[.string ⟨(hdK L).toArray⟩, .string ⟨(lasK L).toArray⟩, .bool (decide (0 < L.length))]) ∧ ∃ m, w' = w.drewN m := by
  obtain ⟨pe, ce, us, qf, cf, h1, h2, h3⟩ := h
  have HEnU : Hid (EnU w (fun k => base ≤ k) (.slice pe L.length ce) L us) := Lib.hid (h2.len47 (fun e he => by have := wgt_mem L e he; have := hs.2; omega) (by omega))
  have a0 := cell_of (i := 0) h1 rfl
  clear h1 h2 h3 hs
  by_cases h0 : L = []
  · subst h0
    go_enter Tryz.func28, Tryz.ntmps28
    go_wp2_with fail
    refine Go.bodyPost_ret (Go.results_tmp3 rfl _ _ _) rfl ?_
    exact ⟨rfl, 0, rfl⟩
  · have hp := List.length_pos_iff.2 h0
    obtain ⟨b1, o1, q1, c1, hp1, r1⟩ := HEnU.out.at_ (k := 0) (List.getElem?_eq_getElem hp)
    have d0 := r1.2.2.2.2.1
    rw [Nat.zero_mul, Nat.add_zero] at d0
    obtain ⟨b2, o2, q2, c2, hp2, r2⟩ := HEnU.out.at_ (k := L.length - 1) (List.getElem?_eq_getElem (by omega))
    have e0 := r2.2.2.2.2.1
    clear r1 r2
    subst hp1
    obtain ⟨rfl, rfl⟩ : b1 = b2 ∧ o1 = o2 := by simpa using hp2
    have hk0 : L[0].key = hdK L := by cases L with | nil => exact absurd rfl h0 | cons x r => rfl
    have hk1 : (L[L.length - 1]'(by omega)).key = lasK L := by unfold lasK; rw [List.getElem?_eq_getElem (by omega)]
    rw [hk0] at d0
    rw [hk1] at e0
    have hz : decide (0 < L.length) = true := decide_eq_true hp
    have q0 : ((L.length : Int) == 0) = false := by rw [beq_eq_false_iff_ne]; omega
    have q0n : (L.length == 0) = false := by rw [beq_eq_false_iff_ne]; omega
    have hwr : IntKind.i64.wrap ((L.length : Int) - 1) = (L.length : Int) - 1 := IntWalk.i64_in _ (by omega)
    have hkt : ((L.length : Int) - 1).toNat = L.length - 1 := by omega
    have hk1' : (0 : Int) ≤ (L.length : Int) - 1 := by omega
    have hkl : ((L.length : Int) - 1) < (L.length : Int) := by omega
    have hpi : (0 : Int) < (L.length : Int) := by omega
    rw [hz]
    clear hp2 hk0 hk1 h0 HEnU hz
    generalize hdK L = K0 at *
    generalize lasK L = K1 at *
    generalize L.length = n at *
    go_enter Tryz.func28, Tryz.ntmps28
    go_wp2_with fail
    go_quiet (fail)
    go_wp2_with fail
    refine Go.bodyPost_ret (Go.results_tmp3 rfl _ _ _) rfl ?_
    exact ⟨rfl, _, rfl⟩
end Go.Proofs.YtagehnclkneolaaGreatDoor

/-
  What a table's sequence tells is collected: the walks over glacierlaw7.all and from, over whatever All and From do, if only the sequence keeps its contract.
-/
namespace Go.Proofs.YtagehnclkneolaaGreatDoor
open Go.RowKit Go.Shelf
attribute [local go_sem] Oper.semAt_some

set_option maxRecDepth 100000 in
set_option maxHeartbeats 2000000 in
theorem l7_all (w : World) (tv : Value) (es : List Ent) (hN : es.length ≤ 1048576) (hfit : ∀ e ∈ es, FitE e) (G : Nat → Prop)
    (HAll : Calls Tryz.prog 58 #[tv] (w.alloc (.cells #[.slice none 0 0] 30)) fun r Y => ∃ gf lb, r = .returned (.func (.func gf) #[] lb) ∧ (∀ args W, (callFunc gf args).run Tryz.prog W = .ok (.enter gf args) W) ∧
      Below (w.heap.size + 1) (w.alloc (.cells #[.slice none 0 0] 30)) Y ∧ SeqE gf lb es G (fun k => k = w.heap.size) Y) :
    Calls Tryz.prog 29 #[tv] w fun r W => ∃ v, r = .returned v ∧ En W (fun k => G k ∨ w.heap.size < k) v es ∧ Below w.heap.size w W := by
  refine (callsIn_wide (n := 4)).1 ?_
  have HA := Lib.hid HAll
  have bO := Boxed.new w 30 (.slice none 0 0)
  have HbO := Lib.hid bO
  clear HAll bO
  refine callsIn_of_wp_marks Tryz.func29 rfl trivial ?_ rfl
  simp only [Tryz.ntmps29, List.size_toArray, List.length_cons, List.length_nil, Nat.reduceAdd, Nat.reduceSub, Array.replicate_succ, Array.replicate_zero, List.push_toArray, List.append_toArray, List.nil_append, List.cons_append]
  gi_wp2_with (refine ⟨trivial, ?_⟩; gi_at_call 58; refine (callsIn_wide.2 HA.out).mono ?_; rintro r Y ⟨gf, lb, rfl, hen, hbY, hseq⟩)
  have hYs := hbY.size
  rw [World.size_alloc] at hYs
  have hw1 : w.heap.size ≤ Y.heap.size := by omega
  have HBox : Hid (Boxed Y w.heap.size 30 (.slice none 0 0)) := Lib.hid ((hbY.block _ (by omega)).trans HbO.out)
  have HbwY : Hid (Below w.heap.size w Y) := Lib.hid (((Below.refl _ w).alloc (Nat.le_refl _) _).trans (hbY.mono (by omega)))
  refine range_q (α := TEnt) (encs := encT) (Kp := KpE (fun k => k = w.heap.size) Y.heap.size) (Qx := QT G) rfl (by omega) (gf := gf) (lb := lb) rfl trivial hen hseq (fun _ => rfl)
    (fun h k => h.trans k) (fun h => .of_calm h)
    (Coll G w.heap.size Y.heap.size w) (fun _ _ _ => False) (Coll.calm hw1 (Nat.le_refl _)) (fun _ _ _ _ h _ => h)
    ⟨_, HBox.out, World.ownsRow_nil _ _ _ _, (fun x hx => by cases hx), HbwY.out, Nat.le_refl _⟩
    (fun x a' W => ∃ Bx, Y.heap.size ≤ Bx ∧ BoxE' W Bx x ∧ QT G x W ∧ a' = { tmps := #[tv, undef, .slice none 0 0, .pointer (some ⟨w.heap.size, 0, none⟩), .pointer (some ⟨Bx, 0, none⟩), tv, .func (.func gf) #[] lb, .agg #[.string ⟨x.1.key.toArray⟩, .int .u64 (x.1.seq : Int), .bool x.1.gone, .slice x.2.1 x.1.val.length x.2.2], undef, undef, undef, undef, undef], defers := [] })
    (fun x a' _ A C h hc => by
      obtain ⟨Bx, h1, h2, h3, h4⟩ := h
      exact ⟨Bx, h1, hc.same _ _ h2 (.inr rfl), hc.ownS h3, h4⟩) ?assign ?body ?done ?stop
  case assign =>
    intro l pre x W K hi hq hK
    have HK := Lib.hid hK
    have Hi := Lib.hid hi
    have Hq := Lib.hid hq
    clear hi hq hK
    unfold encT
    gi_wp2
    have hcm : Calm Y.heap.size W (W.alloc (.cells #[.string ⟨x.1.key.toArray⟩, .int .u64 (x.1.seq : Int), .bool x.1.gone, .slice x.2.1 x.1.val.length x.2.2] 37)) := .of_below ((Below.refl _ W).alloc (Nat.le_refl _) _)
    obtain ⟨_, _, _, _, _, hsz⟩ := Hi.out
    exact HK.out _ _ ((KeepsOthers.alloc _ _).from _) (.of_below ((Below.refl _ W).alloc (Nat.le_refl _) _)) (Coll.calm hw1 (Nat.le_refl _) _ _ _ Hi.out hcm) ⟨W.heap.size, hsz, heap_alloc_new W _, hcm.ownS Hq.out, rfl⟩
  case body =>
    rintro l pre x a' W ⟨v, hbx, hrow, hq, hbw, hsz⟩ ⟨Bx, hB, hbe, hqx, rfl⟩ hlt
    obtain ⟨po, co, rfl, ho1, ho2⟩ := row_shape hrow
    have hc := hbx.cell
    have e0 := cell_of (i := 0) hbe rfl
    have e1 := cell_of (i := 1) hbe rfl
    have e2 := cell_of (i := 2) hbe rfl
    have e3 := cell_of (i := 3) hbe rfl
    obtain ⟨X, hX⟩ : ∃ X, W.alloc (.cells #[.string ⟨x.1.key.toArray⟩, .int .u64 (x.1.seq : Int), .bool x.1.gone, .slice x.2.1 x.1.val.length x.2.2] 37) = X := ⟨_, rfl⟩
    have hbX : Below W.heap.size W X := by rw [← hX]; exact (Below.refl _ W).alloc (Nat.le_refl _) _
    have HRX : Hid (X.ownsRow Y.heap.size 37 4 (.slice po pre.length co) pre.length (cellsE (pre.map Prod.fst) (pre.map TEnt.u))) := Lib.hid (row_keep hrow fun k hk => hbX.block k (row_lt hrow k hk))
    have HCX : Hid (Cl X (fun k => k = W.heap.size) (.slice (some ⟨W.heap.size, 0, none⟩) 1 1) 1 (cellsE [x.1] [x.u])) := Lib.hid (by
      rw [← hX]
      exact Cl.new W (fun k => k = W.heap.size) 1 _ #[.string ⟨x.1.key.toArray⟩, .int .u64 (x.1.seq : Int), .bool x.1.gone, .slice x.2.1 x.1.val.length x.2.2] 37 rfl (by omega) rfl)
    have oneu : Hid (∀ v ∈ cellsE [x.1] [x.u], v.oneCell' = true) := Lib.hid (cellsE_one _ _ (by simp [TEnt.u, Value.oneCell']))
    have HszX : Hid (Y.heap.size ≤ X.heap.size) := Lib.hid (Nat.le_trans hsz hbX.size)
    have HbxX : Hid (Boxed X w.heap.size 30 (.slice po pre.length co)) := Lib.hid ((hbX.block _ hbx.lt).trans hbx)
    have HbX := Lib.hid hbX
    have Hq := Lib.hid hq
    have Hqx := Lib.hid hqx
    have Hbw := Lib.hid hbw
    have Hrow := Lib.hid hrow
    have hlt2 : pre.length + 1 ≤ 68719476736 := by omega
    clear hbx hrow hq hbw hbe hqx hbX
    gi_wp2_with (gi_at_builtin
                 refine slEnt.wpListIn_append rfl (.tmp 8) (.tmp 10) rfl Y.heap.size (v := .slice po pre.length co) (u := .slice (some ⟨W.heap.size, 0, none⟩) 1 1) rfl rfl HRX.out HCX.out rfl oneu.out hlt2 HszX.out ?_
                 intro v' w1 ho hg ha
                 have hb1 : Below Y.heap.size X w1 := (Below.refl _ X).grown hg HszX.out (row_low HRX.out)
                 have hbx1 := (hb1.block w.heap.size (by omega)).trans HbxX.out
                 have hc1 := cell_of (i := 0) hbx1 rfl
                 have hf1 := frozen_of (i := 0) hbx1
                 obtain ⟨p9, c9, rfl, _, _⟩ := row_shape ho
                 have HO := Lib.hid ho
                 have HG := Lib.hid hg
                 have HB1 := Lib.hid hb1
                 have HBx1 := Lib.hid hbx1
                 clear ho hg ha hb1 hbx1)
    have hkeep : ∀ {u : Value} {l : List UInt8}, OwnS G W u l → OwnS G (w1.setCell ⟨w.heap.size, 0, none⟩ (.slice p9 (pre.length + 1) c9)) u l := fun hu => hu.keep (fun j hj => by
      obtain ⟨cur, hcu⟩ := hu.1.heap hj
      have h1 := (HbX.out.block j (block_lt hcu)).trans hcu
      have h2 : w1.heap[j]? = X.heap[j]? := HG.out.block j (block_lt h1) (fun e => by
        obtain ⟨cur2, hc2⟩ := row_heap HRX.out e.symm
        exact kind_ne h1 hc2 (by decide) rfl)
      have h3 : j ≠ w.heap.size := kind_ne h1 HbxX.out (by decide)
      exact ((setCell_other h3 _).trans h2).trans (h1.trans hcu.symm)) (fun _ _ hs => hs)
    refine ⟨?_, ?_, .slice p9 (pre.length + 1) c9, ?_, ?_, fun y hy => ?_, ?_, ?_⟩
    · have k1 : KeepsFrom Y.heap.size W X := by rw [← hX]; exact (KeepsOthers.alloc _ _).from _
      exact (k1.trans (keeps_grown HRX.out HG.out)).trans (keeps_setCell _ _ _)
    · exact ((KpE.of_below HbX.out).trans (KpE.grown HRX.out HG.out (Nat.le_refl _))).trans (KpE.setCell w1 (B0 := fun k => k = w.heap.size) rfl _)
    · have := setCell_same (off := 0) HBx1.out (.slice p9 (pre.length + 1) c9)
      unfold Boxed
      simpa using this
    · have h1 := row_keep (w' := w1.setCell ⟨w.heap.size, 0, none⟩ (.slice p9 (pre.length + 1) c9)) HO.out fun k hk => setCell_other (fun e => by have := row_low HO.out k hk; omega) _
      rw [← cellsE_append _ _ _ _ (by simp)] at h1
      simpa using h1
    · rcases List.mem_append.1 hy with hy | hy
      · exact hkeep (Hq.out y hy)
      · obtain rfl : y = x := by simpa using hy
        exact hkeep Hqx.out
    · have b1 : Below w.heap.size w X := Hbw.out.trans (HbX.out.mono Hbw.out.size)
      exact (b1.trans (HB1.out.mono hw1)).setCell (p := ⟨w.heap.size, 0, none⟩) (Nat.le_refl _) _
    · have := HB1.out.size
      have := HszX.out
      simp [World.setCell]
      omega
  case done =>
    rintro D ys W hD hS ⟨v, hbx, hrow, hq, hbw, hsz⟩ hK
    have hc := hbx.cell
    have hcm : Calm Y.heap.size W (W.putObj D (.deferred none)) := Calm.put _ hD hK rfl
    have HEn : Hid (En (W.putObj D (.deferred none)) (fun k => G k ∨ w.heap.size < k) v es ∧ Below w.heap.size w (W.putObj D (.deferred none))) := Lib.hid (by
      have hlen : es.length = ys.length := by rw [← hS, List.length_map]
      refine ⟨⟨ys.map TEnt.u, by simp [hlen], ?_, fun k e u h1 h2 => ?_⟩, hcm.below hbw hw1 (Nat.le_refl _)⟩
      · rw [← hS, List.length_map]
        exact Cl.of_own (hcm.row hrow) (by omega) (fun k hk => .inr (by have := row_low hrow k hk; omega)) (by rw [cellsE_length _ _ (by simp), List.length_map])
      · rw [← hS] at h1
        have hkl : k < ys.length := by
          have := (List.getElem?_eq_some_iff.1 h1).1
          rwa [List.length_map] at this
        have e1 : ys[k].1 = e := by simpa [hkl] using h1
        have e2 : ys[k].u = u := by simpa [hkl] using h2
        subst e1 e2
        have hf := hfit ys[k].1 (by rw [← hS]; exact List.mem_map_of_mem (List.getElem_mem hkl))
        exact ((hcm.ownS (hq ys[k] (List.getElem_mem hkl))).by_ (by have := hf.val; omega)).mono fun _ _ hG => .inl hG)
    have HK := Lib.hid hK
    clear hbx hrow hq hbw hK hcm hS
    gi_wp2
    refine ⟨by simp, .inl ⟨_, _, rfl, run_takeDeferred HK.out, ?_⟩⟩
    exact ⟨_, results_tmp rfl _ _ _, v, rfl, HEn.out⟩
  case stop =>
    rintro D c pre W _ _ h _
    exact h.elim

set_option maxRecDepth 100000 in
set_option maxHeartbeats 2000000 in
theorem l7_from (w : World) (tv : Value) (key : List UInt8) (es : List Ent) (hN : es.length ≤ 1048576) (hfit : ∀ e ∈ es, FitE e) (G : Nat → Prop)
    (HAll : Calls Tryz.prog 38 #[tv, .string ⟨key.toArray⟩] (w.alloc (.cells #[.slice none 0 0] 30)) fun r Y => ∃ gf lb, r = .returned (.func (.func gf) #[] lb) ∧ (∀ args W, (callFunc gf args).run Tryz.prog W = .ok (.enter gf args) W) ∧
      Below (w.heap.size + 1) (w.alloc (.cells #[.slice none 0 0] 30)) Y ∧ SeqE gf lb es G (fun k => k = w.heap.size) Y) :
    Calls Tryz.prog 16 #[tv, .string ⟨key.toArray⟩] w fun r W => ∃ v, r = .returned v ∧ En W (fun k => G k ∨ w.heap.size < k) v es ∧ Below w.heap.size w W := by
  refine (callsIn_wide (n := 4)).1 ?_
  have HA := Lib.hid HAll
  have bO := Boxed.new w 30 (.slice none 0 0)
  have HbO := Lib.hid bO
  clear HAll bO
  refine callsIn_of_wp_marks Tryz.func16 rfl trivial ?_ rfl
  simp only [Tryz.ntmps16, List.size_toArray, List.length_cons, List.length_nil, Nat.reduceAdd, Nat.reduceSub, Array.replicate_succ, Array.replicate_zero, List.push_toArray, List.append_toArray, List.nil_append, List.cons_append]
  gi_wp2_with (refine ⟨trivial, ?_⟩; gi_at_call 38; refine (callsIn_wide.2 HA.out).mono ?_; rintro r Y ⟨gf, lb, rfl, hen, hbY, hseq⟩)
  have hYs := hbY.size
  rw [World.size_alloc] at hYs
  have hw1 : w.heap.size ≤ Y.heap.size := by omega
  have HBox : Hid (Boxed Y w.heap.size 30 (.slice none 0 0)) := Lib.hid ((hbY.block _ (by omega)).trans HbO.out)
  have HbwY : Hid (Below w.heap.size w Y) := Lib.hid (((Below.refl _ w).alloc (Nat.le_refl _) _).trans (hbY.mono (by omega)))
  refine range_q (α := TEnt) (encs := encT) (Kp := KpE (fun k => k = w.heap.size) Y.heap.size) (Qx := QT G) rfl (by omega) (gf := gf) (lb := lb) rfl trivial hen hseq (fun _ => rfl)
    (fun h k => h.trans k) (fun h => .of_calm h)
    (Coll G w.heap.size Y.heap.size w) (fun _ _ _ => False) (Coll.calm hw1 (Nat.le_refl _)) (fun _ _ _ _ h _ => h)
    ⟨_, HBox.out, World.ownsRow_nil _ _ _ _, (fun x hx => by cases hx), HbwY.out, Nat.le_refl _⟩
    (fun x a' W => ∃ Bx, Y.heap.size ≤ Bx ∧ BoxE' W Bx x ∧ QT G x W ∧ a' = { tmps := #[tv, .string ⟨key.toArray⟩, undef, undef, .slice none 0 0, .pointer (some ⟨w.heap.size, 0, none⟩), .pointer (some ⟨Bx, 0, none⟩), tv, .string ⟨key.toArray⟩, .func (.func gf) #[] lb, .agg #[.string ⟨x.1.key.toArray⟩, .int .u64 (x.1.seq : Int), .bool x.1.gone, .slice x.2.1 x.1.val.length x.2.2], undef, undef, undef, undef, undef], defers := [] })
    (fun x a' _ A C h hc => by
      obtain ⟨Bx, h1, h2, h3, h4⟩ := h
      exact ⟨Bx, h1, hc.same _ _ h2 (.inr rfl), hc.ownS h3, h4⟩) ?assign ?body ?done ?stop
  case assign =>
    intro l pre x W K hi hq hK
    have HK := Lib.hid hK
    have Hi := Lib.hid hi
    have Hq := Lib.hid hq
    clear hi hq hK
    unfold encT
    gi_wp2
    have hcm : Calm Y.heap.size W (W.alloc (.cells #[.string ⟨x.1.key.toArray⟩, .int .u64 (x.1.seq : Int), .bool x.1.gone, .slice x.2.1 x.1.val.length x.2.2] 37)) := .of_below ((Below.refl _ W).alloc (Nat.le_refl _) _)
    obtain ⟨_, _, _, _, _, hsz⟩ := Hi.out
    exact HK.out _ _ ((KeepsOthers.alloc _ _).from _) (.of_below ((Below.refl _ W).alloc (Nat.le_refl _) _)) (Coll.calm hw1 (Nat.le_refl _) _ _ _ Hi.out hcm) ⟨W.heap.size, hsz, heap_alloc_new W _, hcm.ownS Hq.out, rfl⟩
  case body =>
    rintro l pre x a' W ⟨v, hbx, hrow, hq, hbw, hsz⟩ ⟨Bx, hB, hbe, hqx, rfl⟩ hlt
    obtain ⟨po, co, rfl, ho1, ho2⟩ := row_shape hrow
    have hc := hbx.cell
    have e0 := cell_of (i := 0) hbe rfl
    have e1 := cell_of (i := 1) hbe rfl
    have e2 := cell_of (i := 2) hbe rfl
    have e3 := cell_of (i := 3) hbe rfl
    obtain ⟨X, hX⟩ : ∃ X, W.alloc (.cells #[.string ⟨x.1.key.toArray⟩, .int .u64 (x.1.seq : Int), .bool x.1.gone, .slice x.2.1 x.1.val.length x.2.2] 37) = X := ⟨_, rfl⟩
    have hbX : Below W.heap.size W X := by rw [← hX]; exact (Below.refl _ W).alloc (Nat.le_refl _) _
    have HRX : Hid (X.ownsRow Y.heap.size 37 4 (.slice po pre.length co) pre.length (cellsE (pre.map Prod.fst) (pre.map TEnt.u))) := Lib.hid (row_keep hrow fun k hk => hbX.block k (row_lt hrow k hk))
    have HCX : Hid (Cl X (fun k => k = W.heap.size) (.slice (some ⟨W.heap.size, 0, none⟩) 1 1) 1 (cellsE [x.1] [x.u])) := Lib.hid (by
      rw [← hX]
      exact Cl.new W (fun k => k = W.heap.size) 1 _ #[.string ⟨x.1.key.toArray⟩, .int .u64 (x.1.seq : Int), .bool x.1.gone, .slice x.2.1 x.1.val.length x.2.2] 37 rfl (by omega) rfl)
    have oneu : Hid (∀ v ∈ cellsE [x.1] [x.u], v.oneCell' = true) := Lib.hid (cellsE_one _ _ (by simp [TEnt.u, Value.oneCell']))
    have HszX : Hid (Y.heap.size ≤ X.heap.size) := Lib.hid (Nat.le_trans hsz hbX.size)
    have HbxX : Hid (Boxed X w.heap.size 30 (.slice po pre.length co)) := Lib.hid ((hbX.block _ hbx.lt).trans hbx)
    have HbX := Lib.hid hbX
    have Hq := Lib.hid hq
    have Hqx := Lib.hid hqx
    have Hbw := Lib.hid hbw
    have Hrow := Lib.hid hrow
    have hlt2 : pre.length + 1 ≤ 68719476736 := by omega
    clear hbx hrow hq hbw hbe hqx hbX
    gi_wp2_with (gi_at_builtin
                 refine slEnt.wpListIn_append rfl (.tmp 11) (.tmp 13) rfl Y.heap.size (v := .slice po pre.length co) (u := .slice (some ⟨W.heap.size, 0, none⟩) 1 1) rfl rfl HRX.out HCX.out rfl oneu.out hlt2 HszX.out ?_
                 intro v' w1 ho hg ha
                 have hb1 : Below Y.heap.size X w1 := (Below.refl _ X).grown hg HszX.out (row_low HRX.out)
                 have hbx1 := (hb1.block w.heap.size (by omega)).trans HbxX.out
                 have hc1 := cell_of (i := 0) hbx1 rfl
                 have hf1 := frozen_of (i := 0) hbx1
                 obtain ⟨p9, c9, rfl, _, _⟩ := row_shape ho
                 have HO := Lib.hid ho
                 have HG := Lib.hid hg
                 have HB1 := Lib.hid hb1
                 have HBx1 := Lib.hid hbx1
                 clear ho hg ha hb1 hbx1)
    have hkeep : ∀ {u : Value} {l : List UInt8}, OwnS G W u l → OwnS G (w1.setCell ⟨w.heap.size, 0, none⟩ (.slice p9 (pre.length + 1) c9)) u l := fun hu => hu.keep (fun j hj => by
      obtain ⟨cur, hcu⟩ := hu.1.heap hj
      have h1 := (HbX.out.block j (block_lt hcu)).trans hcu
      have h2 : w1.heap[j]? = X.heap[j]? := HG.out.block j (block_lt h1) (fun e => by
        obtain ⟨cur2, hc2⟩ := row_heap HRX.out e.symm
        exact kind_ne h1 hc2 (by decide) rfl)
      have h3 : j ≠ w.heap.size := kind_ne h1 HbxX.out (by decide)
      exact ((setCell_other h3 _).trans h2).trans (h1.trans hcu.symm)) (fun _ _ hs => hs)
    refine ⟨?_, ?_, .slice p9 (pre.length + 1) c9, ?_, ?_, fun y hy => ?_, ?_, ?_⟩
    · have k1 : KeepsFrom Y.heap.size W X := by rw [← hX]; exact (KeepsOthers.alloc _ _).from _
      exact (k1.trans (keeps_grown HRX.out HG.out)).trans (keeps_setCell _ _ _)
    · exact ((KpE.of_below HbX.out).trans (KpE.grown HRX.out HG.out (Nat.le_refl _))).trans (KpE.setCell w1 (B0 := fun k => k = w.heap.size) rfl _)
    · have := setCell_same (off := 0) HBx1.out (.slice p9 (pre.length + 1) c9)
      unfold Boxed
      simpa using this
    · have h1 := row_keep (w' := w1.setCell ⟨w.heap.size, 0, none⟩ (.slice p9 (pre.length + 1) c9)) HO.out fun k hk => setCell_other (fun e => by have := row_low HO.out k hk; omega) _
      rw [← cellsE_append _ _ _ _ (by simp)] at h1
      simpa using h1
    · rcases List.mem_append.1 hy with hy | hy
      · exact hkeep (Hq.out y hy)
      · obtain rfl : y = x := by simpa using hy
        exact hkeep Hqx.out
    · have b1 : Below w.heap.size w X := Hbw.out.trans (HbX.out.mono Hbw.out.size)
      exact (b1.trans (HB1.out.mono hw1)).setCell (p := ⟨w.heap.size, 0, none⟩) (Nat.le_refl _) _
    · have := HB1.out.size
      have := HszX.out
      simp [World.setCell]
      omega
  case done =>
    rintro D ys W hD hS ⟨v, hbx, hrow, hq, hbw, hsz⟩ hK
    have hc := hbx.cell
    have hcm : Calm Y.heap.size W (W.putObj D (.deferred none)) := Calm.put _ hD hK rfl
    have HEn : Hid (En (W.putObj D (.deferred none)) (fun k => G k ∨ w.heap.size < k) v es ∧ Below w.heap.size w (W.putObj D (.deferred none))) := Lib.hid (by
      have hlen : es.length = ys.length := by rw [← hS, List.length_map]
      refine ⟨⟨ys.map TEnt.u, by simp [hlen], ?_, fun k e u h1 h2 => ?_⟩, hcm.below hbw hw1 (Nat.le_refl _)⟩
      · rw [← hS, List.length_map]
        exact Cl.of_own (hcm.row hrow) (by omega) (fun k hk => .inr (by have := row_low hrow k hk; omega)) (by rw [cellsE_length _ _ (by simp), List.length_map])
      · rw [← hS] at h1
        have hkl : k < ys.length := by
          have := (List.getElem?_eq_some_iff.1 h1).1
          rwa [List.length_map] at this
        have e1 : ys[k].1 = e := by simpa [hkl] using h1
        have e2 : ys[k].u = u := by simpa [hkl] using h2
        subst e1 e2
        have hf := hfit ys[k].1 (by rw [← hS]; exact List.mem_map_of_mem (List.getElem_mem hkl))
        exact ((hcm.ownS (hq ys[k] (List.getElem_mem hkl))).by_ (by have := hf.val; omega)).mono fun _ _ hG => .inl hG)
    have HK := Lib.hid hK
    clear hbx hrow hq hbw hK hcm hS
    gi_wp2
    refine ⟨by simp, .inl ⟨_, _, rfl, run_takeDeferred HK.out, ?_⟩⟩
    exact ⟨_, results_tmp rfl _ _ _, v, rfl, HEn.out⟩
  case stop =>
    rintro D c pre W _ _ h _
    exact h.elim
end Go.Proofs.YtagehnclkneolaaGreatDoor

/-
  A table's sequence (From's closure): what it promises a loop.
-/
namespace Go.Proofs.YtagehnclkneolaaGreatDoor
open Go.RowKit Go.Shelf
attribute [local go_sem] Oper.semAt_some

theorem roomAny (k : Nat) : Fence.wide.room k := fun d h => by cases h
theorem roundAny' {m m' : Nat} {P : Program} {l : Nat} {f : FuncId} {tmps : Array Value} {assign body : Code} {w : World} {R : Ending → World → Prop} (h : RoundIn Fence.wide m P l f tmps assign body w R) : RoundIn Fence.wide m' P l f tmps assign body w R :=
  ⟨h.1, fun c cs _ => h.2 c cs (roomAny _)⟩

/-- Where the loop over a table's entries stands. -/
def TabI (es : List Ent) (B0 : Nat → Prop) (Y : World) (J : List TEnt → World → Prop) (k : Nat) (wr : World) : Prop :=
  ∃ pre : List TEnt, pre.map Prod.fst = es.take k ∧ J pre wr ∧ KpE B0 Y.heap.size Y wr

set_option maxRecDepth 100000 in
set_option maxHeartbeats 2000000 in
theorem tabFrom_seq (Y : World) (F B0 G : Nat → Prop) (bl : Nat) (v : Value) (es : List Ent) (hbl : Y.heap[bl]? = some (.cells #[v] 30 (0, 0)))
    (h : En Y F v es) (hF : ∀ k, F k → k < Y.heap.size ∧ ¬ B0 k) (hB : ¬ B0 bl) (hG : ∀ k, Y.heap.size ≤ k → G k) (hl : ∀ e ∈ es, e.val.length ≤ 140737488355000) :
    SeqE 68 #[.pointer (some ⟨bl, 0, none⟩)] es G B0 Y := by
  intro l J Jx W hW hJ hJx hY h0
  obtain ⟨p, cap, rfl, hlc, hl47, hcm, _⟩ := h.form
  have hbs := block_lt hbl
  have HKc : Hid (∀ V, KpE B0 Y.heap.size Y V → V.cell? ⟨bl, 0, none⟩ = some (.slice p es.length cap) ∧ En V F (.slice p es.length cap) es) := Lib.hid (fun V hV =>
    ⟨(World.cell?_of_block (hV.fr.block bl hbs (fun e => e.elim hB (fun hle => by omega)))).trans (cell_of hbl rfl), h.step hV.fr (fun k _ hFk e => e.elim (hF k hFk).2 (fun hle => by have := (hF k hFk).1; omega))⟩)
  have w0 : W.cell? ⟨bl, 0, none⟩ = some (.slice p es.length cap) := (HKc.out W (.of_below hW)).1
  have HI0 : Hid (TabI es B0 Y J 0 W) := Lib.hid ⟨[], rfl, h0, .of_below hW⟩
  have HJ := Lib.hid hJ
  have HY := Lib.hid hY
  have HG := Lib.hid hG
  have HL := Lib.hid hl
  clear h hF hB hW hJ hJx hY h0 hbl hG hl hbs
  refine callsIn_of_wp Tryz.func68 rfl trivial ?_ rfl
  simp only [Tryz.ntmps68, List.size_toArray, List.length_cons, List.length_nil, Nat.reduceAdd, Nat.reduceSub, Array.replicate_succ, Array.replicate_zero, List.push_toArray, List.append_toArray, List.nil_append, List.cons_append]
  gi_wp2
  clear w0
  gi_loopw [7] (fun i wr => ∃ k : Nat, k ≤ es.length ∧ i = .int .i64 (k : Int) ∧ TabI es B0 Y J k wr) (fun i _ => es.length - (intOf i).toNat)
  case atStart => exact ⟨0, by omega, rfl, HI0.out⟩
  case round =>
    obtain ⟨k, hk, rfl, pre, hpre, hj, hkp⟩ := hrel
    obtain ⟨_, hen⟩ := HKc.out wr hkp
    have HKp := Lib.hid hkp
    have HJw := Lib.hid hj
    have HPre := Lib.hid hpre
    have HYs : Hid (Y.heap.size ≤ wr.heap.size) := Lib.hid hkp.fr.size
    clear hj hkp hpre
    by_cases hlt : k < es.length
    · obtain ⟨b, off, q, c, rfl, hb, _, hV, d0, d1, d2, d3⟩ := hen.at_ (List.getElem?_eq_getElem hlt)
      have HSn : Hid (es.take (k + 1) = es.take k ++ [es[k]]) := Lib.hid (take_snoc es k _ (List.getElem?_eq_getElem hlt))
      have HEl := Lib.hid (HL.out es[k] (List.getElem_mem hlt))
      generalize es[k] = x at *
      obtain ⟨X, hX⟩ : ∃ X, wr.alloc (.cells #[.string ⟨x.key.toArray⟩, .int .u64 (x.seq : Int), .bool x.gone, .slice q x.val.length c] 37) = X := ⟨_, rfl⟩
      have hbX : Below wr.heap.size wr X := by rw [← hX]; exact below_alloc _ _
      have hXa : X.heap[wr.heap.size]? = some (.cells #[.string ⟨x.key.toArray⟩, .int .u64 (x.seq : Int), .bool x.gone, .slice q x.val.length c] 37 (0, 0)) := by rw [← hX]; exact heap_alloc_new wr _
      have g0 := cell_of (i := 0) hXa rfl
      have g1 := cell_of (i := 1) hXa rfl
      have g2 := cell_of (i := 2) hXa rfl
      have g3 := cell_of (i := 3) hXa rfl
      have HOw := Lib.hid (own_any X F x q c (hV.below hbX) HEl.out)
      have HBX := Lib.hid hbX
      have HYy : Hid (∀ q c w2, Below wr.heap.size wr w2 → Own w2 wr.heap.size (.slice q x.val.length c) x.val → YieldAt Fence.wide (3 - 1) Tryz.prog l #[.agg #[.string ⟨x.key.toArray⟩, .int .u64 (x.seq : Int), .bool x.gone, .slice q x.val.length c]] w2 fun e V => ∃ bb, e = .returned (.bool bb) ∧
          (bb = true → TabI es B0 Y J (k + 1) V) ∧ (bb = false → ∃ pre', pre'.map Prod.fst <+: es ∧ Jx pre' V)) := Lib.hid (fun q c w2 hb2 ho => by
        have hq : QT G (x, (q, c)) w2 := ⟨ho.more (Nat.zero_le _), fun j hj => HG.out j (Nat.le_trans HYs.out (World.ownsRow.lt ho j hj).1)⟩
        have hy := HY.out pre (x, (q, c)) w2 (HJ.out _ _ _ HJw.out (Calm.of_below hb2)) hq (by rw [← List.length_map (f := Prod.fst), HPre.out, List.length_take]; omega)
        refine hy.mono ?_
        have hpn : (pre ++ [(x, (q, c))]).map Prod.fst = es.take (k + 1) := by rw [List.map_append, HPre.out, HSn.out]; rfl
        rintro e V (⟨rfl, hj2, hk, hk2⟩ | ⟨rfl, hj2, hk2⟩)
        · exact ⟨true, rfl, fun _ => ⟨_, hpn, hj2, HKp.out.trans ((KpE.of_below hb2).trans hk)⟩, fun h => by cases h⟩
        · exact ⟨false, rfl, (fun h => by cases h), fun _ => ⟨_, by rw [hpn]; exact List.take_prefix _ _, hj2⟩⟩)
      clear hV hbX hXa hen
      gi_wp2_with (refine ⟨trivial, ?_⟩
                   gi_at_call 35
                   refine (callsIn_wide.2 HOw.out).mono ?_
                   rintro r w2 ⟨q9, c9, rfl, ho, hb2⟩
                   obtain ⟨fn, tmps, assign, body, hy, hR⟩ := HYy.out q9 c9 w2 (HBX.out.trans (hb2.mono HBX.out.size)) (ho.more HBX.out.size)
                   clear ho hb2)
      refine (roundAny' hR).mono ?_
      rintro e V ⟨bb, rfl, hbt, hbf⟩
      cases bb
      · have HE := Lib.hid (hbf rfl)
        clear hbt hbf hy hR
        gi_wp2
        refine bodyPost_ret (results_none rfl _ _ _) rfl ?_
        exact ⟨⟨_, rfl⟩, .inr HE.out⟩
      · have HE := Lib.hid (hbt rfl)
        clear hbt hbf hy hR
        gi_wp2
        go_roundw
        case rel => exact ⟨k + 1, by omega, by go_num, HE.out⟩
        case measure => simp [intOf]; omega
    · obtain rfl : k = es.length := by omega
      have HFin : Hid (∃ xs : List TEnt, xs.map Prod.fst = es ∧ J xs wr) := Lib.hid ⟨pre, by have := HPre.out; rwa [List.take_length] at this, HJw.out⟩
      clear hen
      gi_wp2
      go_end0
      exact ⟨⟨_, rfl⟩, .inl HFin.out⟩
end Go.Proofs.YtagehnclkneolaaGreatDoor

/-
  A table's From and All: what they hand out, and that it is a sequence of the table's versions.
-/
namespace Go.Proofs.YtagehnclkneolaaGreatDoor
open Go.RowKit

theorem EnR.lenF {w : World} {base : Nat} {v : Value} {es : List Ent} {us : List Value} (h : EnR w base v es us) (hl : ∀ e ∈ es, e.val.length ≤ 140737488355000) (hn : es.length ≤ 140737488355000) : EnU w (fun k => base ≤ k ∧ k < w.heap.size) v es us := by
  refine ⟨h.len, Cl.of_own h.row (by omega) (fun k hk => ⟨row_low h.row k hk, row_lt h.row k hk⟩) (cellsE_length es us h.len), fun k e u h1 h2 => ?_⟩
  exact By.of_own (h.val k e u h1 h2) (by have := hl e (List.mem_of_getElem? h1); omega) (fun j hj => World.ownsRow.lt (h.val k e u h1 h2) j hj)

set_option maxRecDepth 100000 in
set_option maxHeartbeats 2000000 in
theorem from_anyF (w0 w : World) (base tb nb : Nat) (L : List Ent) (key : List UInt8) (sq : Nat) (h : TblM w0 base tb L nb) (hb0 : Below w0.heap.size w0 w) (hs : ShL L) (hsr : SrtE L) (hl : L.length ≤ 1048576) :
    Calls Tryz.prog 34 #[.pointer (some ⟨tb, 0, none⟩), .string ⟨key.toArray⟩, .int .u64 (sq : Int)] w fun x w' => ∃ q c, x = .returned (.slice q (L.length - plcE ⟨key, sq, false, []⟩ L) c) ∧
      En w' (fun k => base ≤ k ∧ k < w0.heap.size) (.slice q (L.length - plcE ⟨key, sq, false, []⟩ L) c) (L.drop (plcE ⟨key, sq, false, []⟩ L)) ∧ Below w.heap.size w w' := by
  obtain ⟨pe, ce, us, qf, cf, h1, h2, h3⟩ := h
  have HEnW : Hid (En w (fun k => base ≤ k ∧ k < w0.heap.size) (.slice pe L.length ce) L) := Lib.hid (En.below ⟨us, h2.lenF (fun e he => by have := wgt_mem L e he; have := hs.2; omega) (by omega)⟩ hb0)
  replace h1 := (hb0.block _ (block_lt h1)).trans h1
  clear hb0
  obtain ⟨m, hm⟩ : ∃ m, plcE ⟨key, sq, false, []⟩ L = m := ⟨_, rfl⟩
  have hml : m ≤ L.length := by rw [← hm]; exact plcE_le _ _
  have hat := fun (i : Nat) (hi : i < L.length) => plcE_at (p := ⟨key, sq, false, []⟩) hsr hi
  obtain ⟨Y, hY⟩ : ∃ Y, (w.alloc (.cells #[.pointer (some ⟨tb, 0, none⟩)] 24)).alloc (.cells #[.string ⟨#[]⟩, .int .u64 0, .bool false, .slice none 0 0] 37) = Y := ⟨_, rfl⟩
  have hbY : Below w.heap.size w Y := by rw [← hY]; exact ((Below.refl _ _).alloc (Nat.le_refl _) _).alloc (by simp) _
  have hYa : Y.heap[w.heap.size]? = some (.cells #[.pointer (some ⟨tb, 0, none⟩)] 24 (0, 0)) := by
    rw [← hY]
    exact (alloc_old (by simp) _).trans (heap_alloc_new w _)
  have hYb : Y.heap[w.heap.size + 1]? = some (.cells #[.string ⟨#[]⟩, .int .u64 0, .bool false, .slice none 0 0] 37 (0, 0)) := by
    rw [← hY]
    exact heap_alloc2_new w _ _
  have x0 := frozen_of (i := 0) hYb
  have x1 := frozen_of (i := 1) hYb
  have x2 := frozen_of (i := 2) hYb
  have x3 := frozen_of (i := 3) hYb
  have u0 := cell_of (i := 0) hYb rfl
  have u1 := cell_of (i := 1) hYb rfl
  have u2 := cell_of (i := 2) hYb rfl
  have u3 := cell_of (i := 3) hYb rfl
  obtain ⟨X, hX⟩ : ∃ X, set4 Y (w.heap.size + 1) (.string ⟨key.toArray⟩) (.int .u64 (sq : Int)) (.bool false) (.slice none 0 0) = X := ⟨_, rfl⟩
  have hfX := set4_fr Y (w.heap.size + 1) (.string ⟨key.toArray⟩) (.int .u64 (sq : Int)) (.bool false) (.slice none 0 0) (fun k => k = w.heap.size + 1) rfl
  rw [hX] at hfX
  have hb : Below w.heap.size w X := hbY.trans (hfX.below hbY.size (fun k hk e => by omega))
  have hXa := hfX.keep hYa (by omega)
  have hXb : X.heap[w.heap.size + 1]? = some (.cells #[.string ⟨key.toArray⟩, .int .u64 (sq : Int), .bool false, .slice none 0 0] 37 (0, 0)) := by rw [← hX]; exact set4_heap hYb _ _ _ _
  unfold set4 at hX
  have htX := (hb.block _ (block_lt h1)).trans h1
  have a0 := cell_of (i := 0) hXa rfl
  have t0 := cell_of (i := 0) htX rfl
  obtain ⟨q, c, hent, hrun⟩ := HEnW.out.from_ (i := m) hml
  have HEnt := Lib.hid (And.intro hent hb)
  have HS := Lib.hid (fun (V : World) (hV : Below X.heap.size X V) => srt_search V 65 #[.pointer (some ⟨w.heap.size, 0, none⟩), .pointer (some ⟨w.heap.size + 1, 0, none⟩)] L.length m hml hl
    (fun U hU i hi => by
      have hXU : Below X.heap.size X U := hV.trans (hU.mono hV.size)
      have h6 := from1_any U (fun k => base ≤ k ∧ k < w0.heap.size) w.heap.size tb (w.heap.size + 1) (.slice pe L.length ce) L key sq (cell_of ((hXU.block _ (block_lt hXa)).trans hXa) rfl) (cell_of ((hXU.block _ (block_lt htX)).trans htX) rfl) ((HEnW.out.below hb).below hXU) ((hXU.block _ (block_lt hXb)).trans hXb) hi
      rw [hat i hi, hm] at h6
      exact h6) (enters_of Tryz.func65 (by kernel_rfl) rfl))
  rw [hm]
  have HtX := Lib.hid (And.intro hXa htX)
  clear h1 h2 h3 hs hsr hm hat hb hXa hXb htX hent hml hbY hYa hYb hfX
  go_enter Tryz.func34, Tryz.ntmps34
  go_upto_region 2 with (fail)
  have a0' := fun d os => cell_regrown a0 d os
  have t0' := fun d os => cell_regrown t0 d os
  clear a0 t0 x0 x1 x2 x3 u0 u1 u2 u3 hY hX
  refine wp_region_quiet_below (by kernel_rfl) (by kernel_rfl) ?_
  repeat (go_big_quiet_step (exact Calls.regrown_of (HS.out _ (below_regrown _ _ _))))
  refine wpQuiet_nil ?_
  intro w8 hw8
  obtain ⟨⟨dq, osq⟩, hw9⟩ := hw8
  subst hw9
  have HBf : Hid (Below X.heap.size X (Go.Sort.grow (redrawn X dq) osq)) := Lib.hid (below_regrown X dq osq)
  go_wp2_with fail
  go_ret
  exact ⟨q, c, rfl, (HEnt.out.1.below HEnt.out.2).below HBf.out, HEnt.out.2.trans (HBf.out.mono HEnt.out.2.size)⟩


set_option maxRecDepth 100000 in
set_option maxHeartbeats 2000000 in
theorem tfrom_any (w0 w : World) (B0 G : Nat → Prop) (base tb nb : Nat) (L : List Ent) (key : List UInt8) (h : TblM w0 base tb L nb) (hb0 : Below w0.heap.size w0 w) (hs : ShL L) (hsr : SrtE L) (hl : L.length ≤ 1048576)
    (hB : ∀ k, B0 k → w0.heap.size ≤ k ∧ k < w.heap.size) (hG : ∀ k, w.heap.size ≤ k → G k) :
    Calls Tryz.prog 38 #[.pointer (some ⟨tb, 0, none⟩), .string ⟨key.toArray⟩] w fun r Y => ∃ gf lb, r = .returned (.func (.func gf) #[] lb) ∧ (∀ args W, (callFunc gf args).run Tryz.prog W = .ok (.enter gf args) W) ∧
      Below w.heap.size w Y ∧ SeqE gf lb (L.drop (plcE ⟨key, 18446744073709551615, false, []⟩ L)) G B0 Y := by
  have HF := Lib.hid (from_anyF w0 w base tb nb L key 18446744073709551615 h hb0 hs hsr hl)
  have HB := Lib.hid hB
  have HG := Lib.hid hG
  have HV : Hid (∀ e ∈ L.drop (plcE ⟨key, 18446744073709551615, false, []⟩ L), e.val.length ≤ 140737488355000) := Lib.hid (fun e he => by
    have := wgt_mem L e (List.mem_of_mem_drop he); have := hs.2; omega)
  have hdl : (L.drop (plcE ⟨key, 18446744073709551615, false, []⟩ L)).length = L.length - plcE ⟨key, 18446744073709551615, false, []⟩ L := List.length_drop
  have HBs := Lib.hid hb0.size
  generalize L.length - plcE ⟨key, 18446744073709551615, false, []⟩ L = n at *
  generalize L.drop (plcE ⟨key, 18446744073709551615, false, []⟩ L) = D at *
  have HDl := Lib.hid hdl
  clear h hb0 hs hsr hl hB hG hdl
  go_enter Tryz.func38, Tryz.ntmps38
  go_wp2_with fail
  refine HF.out.mono ?_
  rintro r w1 ⟨q, c, rfl, hen, hb1⟩
  have HEn := Lib.hid hen
  have HB1 := Lib.hid hb1
  clear hen hb1
  go_wp2_with fail
  go_ret
  have hb2 : Below w1.heap.size w1 (w1.alloc (.cells #[.slice q n c] 30)) := below_alloc w1 _
  refine ⟨68, _, rfl, enters_of Tryz.func68 (by kernel_rfl) rfl, HB1.out.trans (hb2.mono HB1.out.size), ?_⟩
  refine tabFrom_seq _ (fun k => base ≤ k ∧ k < w0.heap.size) B0 G w1.heap.size _ D (heap_alloc_new w1 _) (HEn.out.below hb2) (fun k hk => ⟨?_, fun h => ?_⟩) (fun h => ?_) (fun k hk => HG.out k ?_) HV.out
  · have := hk.2; have := HBs.out; have := HB1.out.size; have := hb2.size; omega
  · have := (HB.out k h).1; omega
  · have := (HB.out _ h).2; have := HB1.out.size; omega
  · have := HB1.out.size; have := hb2.size; omega

theorem plc_empty {L : List Ent} (hs : ∀ e ∈ L, e.seq < 18446744073709551616) : plcE ⟨[], 18446744073709551615, false, []⟩ L = 0 := by
  cases L with
  | nil => rfl
  | cons e r =>
    unfold plcE
    have h1 : lessE e ⟨[], 18446744073709551615, false, []⟩ = false := by
      rcases hq : lessE e ⟨[], 18446744073709551615, false, []⟩ with _ | _
      · rfl
      · exfalso
        rcases lessE_iff.1 hq with h | ⟨_, h⟩
        · have : Op.bytesLess e.key [] = false := by cases e.key <;> rfl
          simp only at h
          rw [this] at h
          cases h
        · have := hs e (.head _)
          simp only at h
          omega
    rw [List.takeWhile_cons, h1]
    rfl
set_option maxRecDepth 100000 in
set_option maxHeartbeats 2000000 in
theorem tall_any (w0 w : World) (B0 G : Nat → Prop) (base tb nb : Nat) (L : List Ent) (h : TblM w0 base tb L nb) (hb0 : Below w0.heap.size w0 w) (hs : ShL L) (hsr : SrtE L) (hl : L.length ≤ 1048576)
    (hB : ∀ k, B0 k → w0.heap.size ≤ k ∧ k < w.heap.size) (hG : ∀ k, w.heap.size ≤ k → G k) :
    Calls Tryz.prog 58 #[.pointer (some ⟨tb, 0, none⟩)] w fun r Y => ∃ gf lb, r = .returned (.func (.func gf) #[] lb) ∧ (∀ args W, (callFunc gf args).run Tryz.prog W = .ok (.enter gf args) W) ∧
      Below w.heap.size w Y ∧ SeqE gf lb L G B0 Y := by
  have hf := tfrom_any w0 w B0 G base tb nb L [] h hb0 hs hsr hl hB hG
  rw [plc_empty hs.1, List.drop_zero] at hf
  have HF := Lib.hid hf
  clear h hb0 hs hsr hl hB hG hf
  go_enter Tryz.func58, Tryz.ntmps58
  go_wp2_with fail
  refine HF.out.mono ?_
  rintro r Y ⟨gf, lb, rfl, he, hb, hq⟩
  have HQ := Lib.hid (And.intro he (And.intro hb hq))
  clear he hb hq
  go_wp2_with fail
  go_ret
  exact ⟨gf, lb, rfl, HQ.out.1, HQ.out.2.1, HQ.out.2.2⟩
end Go.Proofs.YtagehnclkneolaaGreatDoor

/-
  What a table tells in order, collected: glacierlaw7.all and from over a table in memory.
-/
namespace Go.Proofs.YtagehnclkneolaaGreatDoor
open Go.RowKit

theorem fit_of_sh {L : List Ent} (hs : ShL L) : ∀ e ∈ L, FitE e := fun e he => by
  have h1 := wgt_mem L e he
  have h2 := hs.2
  have h3 := hs.1 e he
  exact ⟨by omega, by omega, by omega⟩
theorem lall_any (w : World) (base tb nb : Nat) (L : List Ent) (h : TblM w base tb L nb) (hs : ShL L) (hsr : SrtE L) (hl : L.length ≤ 1048576) :
    Calls Tryz.prog 29 #[.pointer (some ⟨tb, 0, none⟩)] w fun r W => ∃ v, r = .returned v ∧ En W (fun k => w.heap.size < k) v L ∧ Below w.heap.size w W := by
  have hb : Below w.heap.size w (w.alloc (.cells #[.slice none 0 0] 30)) := below_alloc _ _
  have hc := tall_any w (w.alloc (.cells #[.slice none 0 0] 30)) (fun k => k = w.heap.size) (fun k => w.heap.size < k) base tb nb L h hb hs hsr hl (fun k hk => by subst hk; simp) (fun k hk => by simp at hk; omega)
  refine (l7_all w _ L hl (fit_of_sh hs) (fun k => w.heap.size < k) (hc.mono ?_)).mono ?_
  · rintro r Y ⟨gf, lb, rfl, h1, h2, h3⟩
    exact ⟨gf, lb, rfl, h1, by simpa using h2, h3⟩
  · rintro r W ⟨v, rfl, h1, h2⟩
    exact ⟨v, rfl, h1.mono (fun k _ hk => hk.elim id id), h2⟩
theorem lfrom_any (w : World) (base tb nb : Nat) (L : List Ent) (key : List UInt8) (h : TblM w base tb L nb) (hs : ShL L) (hsr : SrtE L) (hl : L.length ≤ 1048576) :
    Calls Tryz.prog 16 #[.pointer (some ⟨tb, 0, none⟩), .string ⟨key.toArray⟩] w fun r W => ∃ v, r = .returned v ∧ En W (fun k => w.heap.size < k) v (L.drop (plcE ⟨key, 18446744073709551615, false, []⟩ L)) ∧ Below w.heap.size w W := by
  have hb : Below w.heap.size w (w.alloc (.cells #[.slice none 0 0] 30)) := below_alloc _ _
  have hc := tfrom_any w (w.alloc (.cells #[.slice none 0 0] 30)) (fun k => k = w.heap.size) (fun k => w.heap.size < k) base tb nb L key h hb hs hsr hl (fun k hk => by subst hk; simp) (fun k hk => by simp at hk; omega)
  refine (l7_from w _ key (L.drop (plcE ⟨key, 18446744073709551615, false, []⟩ L)) (by rw [List.length_drop]; omega) (fun e he => fit_of_sh hs e (List.mem_of_mem_drop he)) (fun k => w.heap.size < k) (hc.mono ?_)).mono ?_
  · rintro r Y ⟨gf, lb, rfl, h1, h2, h3⟩
    exact ⟨gf, lb, rfl, h1, by simpa using h2, h3⟩
  · rintro r W ⟨v, rfl, h1, h2⟩
    exact ⟨v, rfl, h1.mono (fun k _ hk => hk.elim id id), h2⟩
end Go.Proofs.YtagehnclkneolaaGreatDoor
