/-
  The walk over merge.Seen: what is seen, collected from the pieces of a list.
-/
import Derived.Test.YtaomneenflkpeaaMgF
import Derived.Test.YtaomneenflkpeaaRngR
namespace Go.Proofs.Ytaomneenflkpeaa
open Go.RowKit Go.Shelf
attribute [local go_sem] Oper.semAt_some

theorem SlT.wp_append {T E : TypeId} {s b : Nat} (t : SlT T E s b) {F : Nat → Prop} {v u : Value} {n m : Nat} {xs ys : List Value} {w : World} {o : Oper} {a : Act} {K : Act → World → Prop} {Q : Exit → Act → World → Prop} (sd x : Operand)
    (hop : o.op = Op.call { callee := Callee.builtin Builtin.append, args := #[sd, x], argTypes := #[T, T] })
    (base : Nat) (hs : a.eval sd = v) (hx : a.eval x = u) (hown : w.ownsRow base E s v n xs) (hcl : Cl w F u m ys) (hm : ys.length = m * s) (hone : ∀ x ∈ ys, x.oneCell' = true)
    (hlen : n + m ≤ 68719476736) (hbase : base ≤ w.heap.size)
    (hK : ∀ v' w', w'.ownsRow base E s v' (n + m) (xs ++ ys) → w.grownBy w' v.ownBlock → (v'.ownBlock = v.ownBlock ∨ v'.ownBlock = some w.heap.size) → K (a.put o.dst v') w') : Oper.wp Try.prog o a w K Q := by
  obtain ⟨v', w', hrun, h1, h2, h3⟩ := t.append w base o.type hown hcl hm hone hlen hbase
  unfold Oper.wp
  simp [execOp, hop, resolve, invoke, builtin, hs, hx, hrun, Result.andThen]
  exact hK _ _ h1 h2 h3

/-- One more is collected: behind the append, and the store into the list's box. -/
theorem coll_add {G : Nat → Prop} {b0 B : Nat} {w X w1 : World} {pre : List TEnt} {x : TEnt} {po p9 : Option Addr} {co c9 : Nat} (hbx : Boxed X b0 22 (.slice po pre.length co))
    (hR : X.ownsRow B 30 4 (.slice po pre.length co) pre.length (cellsE (pre.map Prod.fst) (pre.map TEnt.u))) (hq : ∀ y ∈ pre, QT G y X) (hx : QT G x X) (hb : Below b0 w X) (hB : B ≤ X.heap.size) (hb0 : b0 < B)
    (ho : w1.ownsRow B 30 4 (.slice p9 (pre.length + 1) c9) (pre.length + 1) (cellsE (pre.map Prod.fst) (pre.map TEnt.u) ++ cellsE [x.1] [x.u])) (hg : X.grownBy w1 (Value.slice po pre.length co).ownBlock) :
    Coll G b0 B w (pre ++ [x]) (w1.setCell ⟨b0, 0, none⟩ (.slice p9 (pre.length + 1) c9)) ∧ KpE (fun k => k = b0) B X (w1.setCell ⟨b0, 0, none⟩ (.slice p9 (pre.length + 1) c9)) ∧ ∀ D, KeepsFrom D X (w1.setCell ⟨b0, 0, none⟩ (.slice p9 (pre.length + 1) c9)) := by
  have hb1 : Below B X w1 := (Below.refl _ X).grown hg hB (row_low hR)
  have hbx1 : w1.heap[b0]? = _ := (hb1.block b0 hb0).trans hbx
  have hkeep : ∀ {u : Value} {l : List UInt8}, OwnS G X u l → OwnS G (w1.setCell ⟨b0, 0, none⟩ (.slice p9 (pre.length + 1) c9)) u l := fun hu => hu.keep (fun j hj => by
    obtain ⟨cur, hcu⟩ := hu.1.heap hj
    have h2 : w1.heap[j]? = X.heap[j]? := hg.block j (block_lt hcu) (fun e => by
      obtain ⟨cur2, hc2⟩ := row_heap hR e.symm
      exact kind_ne hcu hc2 (by decide) rfl)
    have h3 : j ≠ b0 := kind_ne hcu hbx (by decide)
    exact (setCell_other h3 _).trans h2) (fun _ _ hs => hs)
  refine ⟨⟨.slice p9 (pre.length + 1) c9, ?_, ?_, fun y hy => ?_, ?_, ?_⟩, ?_, fun D => ?_⟩
  · have := setCell_same (off := 0) hbx1 (.slice p9 (pre.length + 1) c9)
    unfold Boxed
    simpa using this
  · have h1 := row_keep (w' := w1.setCell ⟨b0, 0, none⟩ (.slice p9 (pre.length + 1) c9)) ho fun k hk => setCell_other (fun e => by have := row_low ho k hk; omega) _
    rw [← cellsE_append _ _ _ _ (by simp)] at h1
    simpa using h1
  · rcases List.mem_append.1 hy with hy | hy
    · exact hkeep (hq y hy)
    · obtain rfl : y = x := by simpa using hy
      exact hkeep hx
  · exact (hb.trans (hb1.mono (by omega))).setCell (p := ⟨b0, 0, none⟩) (Nat.le_refl _) _
  · have := hb1.size
    simp [World.setCell]
    omega
  · exact (KpE.grown hR hg (Nat.le_refl _)).trans (KpE.setCell w1 (B0 := fun k => k = b0) rfl _)
  · exact (keeps_grown hR hg).trans (keeps_setCell _ _ _)
theorem Coll.after {G : Nat → Prop} {b0 B : Nat} {w A C : World} {pre : List TEnt} (h : Coll G b0 B w pre A) (hb : Below A.heap.size A C) (hbA : b0 ≤ A.heap.size) (hw : b0 ≤ w.heap.size) : Coll G b0 B w pre C := Coll.calm hbA hw pre A C h (Calm.of_below hb)

theorem Calm.cl {B : Nat} {A C : World} (h : Calm B A C) {F : Nat → Prop} {v : Value} {n : Nat} {xs : List Value} (hb : Cl A F v n xs) : Cl C F v n xs := by
  obtain ⟨p, cap, e, h1, h2, h3, h4, h5⟩ := hb
  refine ⟨p, cap, e, h1, h2, h3, h4, fun j x hx => ?_⟩
  obtain ⟨b, off, e2, hlt, hs, hc⟩ := h5 j x hx
  exact ⟨b, off, e2, Nat.lt_of_lt_of_le hlt h.size, hs, h.cell hc⟩
theorem Calm.en {B : Nat} {A C : World} (h : Calm B A C) {F : Nat → Prop} {v : Value} {es : List Ent} (hb : En A F v es) : En C F v es := by
  obtain ⟨us, hu⟩ := hb
  exact ⟨us, hu.len, h.cl hu.cl, fun k e u h1 h2 => h.by_ (hu.val k e u h1 h2)⟩

theorem keeps_below' {B : Nat} {A C : World} (h : Below A.heap.size A C) : KeepsFrom B A C := ⟨h.size, fun k _ _ hk _ => (h.block k (Array.getElem?_eq_some_iff.1 hk).1).trans hk⟩
theorem seen_few (up : Nat) : ∀ ps : List (List Ent), (ps.flatMap (seen1 up)).length ≤ ps.length
  | [] => by simp
  | p :: r => by
    have ih := seen_few up r
    have h1 : (seen1 up p).length ≤ 1 := by
      unfold seen1
      split
      · split <;> simp
      · simp
    rw [List.flatMap_cons, List.length_append, List.length_cons]
    omega
/-- What is collected of the pieces so far, by a function of a piece. -/
def PcC (f : List Ent → List Ent) (G : Nat → Prop) (b0 B : Nat) (w : World) (pre : List Pc) (W : World) : Prop := ∃ ts : List TEnt, ts.map Prod.fst = (pre.map Prod.fst).flatMap f ∧ Coll G b0 B w ts W

set_option maxRecDepth 100000 in
set_option maxHeartbeats 4000000 in
theorem mg_seen_no (w : World) (F : Nat → Prop) (v : Value) (es : List Ent) (h : En w F v es) (hR : rightE es = false) (up : Nat) :
    Calls Try.prog 21 #[v, .int .u64 (up : Int)] w fun r w' => r = .returned (.tuple #[.slice none 0 0, .int .i64 15]) ∧ Below w.heap.size w w' := by
  obtain ⟨X, hX⟩ : ∃ X, w.alloc (.cells #[.int .u64 (up : Int)] 27) = X := ⟨_, rfl⟩
  have hb : Below w.heap.size w X := by rw [← hX]; exact (Below.refl _ _).alloc (Nat.le_refl _) _
  have HRt := Lib.hid (mg_right X F v es (h.below hb))
  rw [hR] at HRt
  have HB := Lib.hid hb
  obtain ⟨p, cap, rfl, hlc, hl47, hcm, _⟩ := h.form
  clear h hR hb
  go_enter Try.func21, Try.ntmps21
  go_wp2_with fail
  refine HRt.out.mono ?_
  rintro r w1 ⟨rfl, hb1⟩
  go_wp2_with fail
  go_ret2
  exact ⟨rfl, HB.out.trans (hb1.mono HB.out.size)⟩

set_option maxRecDepth 100000 in
set_option maxHeartbeats 4000000 in
theorem mg_seen (w : World) (F : Nat → Prop) (v : Value) (es : List Ent) (h0 : En w F v es) (hR : rightE es = true) (hfit : ∀ e ∈ es, FitE e) (hl : es.length ≤ 1048576) (up : Nat) :
    Calls Try.prog 21 #[v, .int .u64 (up : Int)] w fun r w' => ∃ u, r = .returned (.tuple #[u, .int .i64 0]) ∧ En w' (fun k => w.heap.size ≤ k) u (seenE es up) ∧ Below w.heap.size w w' := by
  have h : En w (fun k => k < w.heap.size) v es := h0.mono fun k hk _ => hk
  obtain ⟨X, hX⟩ : ∃ X, w.alloc (.cells #[.int .u64 (up : Int)] 27) = X := ⟨_, rfl⟩
  have hb : Below w.heap.size w X := by rw [← hX]; exact (Below.refl _ _).alloc (Nat.le_refl _) _
  have hXs : X.heap.size = w.heap.size + 1 := by rw [← hX]; simp
  have hXb : X.heap[w.heap.size]? = some (.cells #[.int .u64 (up : Int)] 27 (0, 0)) := by rw [← hX]; exact heap_alloc_new w _
  have HRt := Lib.hid (mg_right X _ v es (h.below hb))
  rw [hR] at HRt
  have HB := Lib.hid hb
  have HXb := Lib.hid hXb
  have HXs := Lib.hid hXs
  have HV := Lib.hid h
  have HSrt := Lib.hid (rightE_iff.1 hR).2
  have HFit := Lib.hid hfit
  obtain ⟨p, cap, rfl, hlc, hl47, hcm, _⟩ := h.form
  clear h h0 hR hb hXb hXs hfit
  refine (callsIn_wide (n := 3)).1 ?_
  refine callsIn_of_wp_marks Try.func21 rfl trivial ?_ rfl
  simp only [Try.ntmps21, List.size_toArray, List.length_cons, List.length_nil, Nat.reduceAdd, Nat.reduceSub, Array.replicate_succ, Array.replicate_zero, List.push_toArray, List.append_toArray, List.nil_append, List.cons_append]
  gi_wp2_with (refine ⟨trivial, ?_⟩
               gi_at_call 17
               refine (callsIn_wide.2 HRt.out).mono ?_
               rintro r w1 ⟨rfl, hb1⟩
               have HB1 := Lib.hid hb1
               clear hb1
               obtain ⟨W2, hW2⟩ : ∃ W2, w1.alloc (.cells #[.slice none 0 0] 22) = W2 := ⟨_, rfl⟩
               have HW2 : Hid (Below w1.heap.size w1 W2 ∧ W2.heap.size = w1.heap.size + 1 ∧ Boxed W2 w1.heap.size 22 (.slice none 0 0)) := Lib.hid (by
                 rw [← hW2]
                 exact ⟨(Below.refl _ _).alloc (Nat.le_refl _) _, by simp, heap_alloc_new w1 _⟩))
  gi_wp2_with (refine ⟨trivial, ?_⟩
               gi_at_call 40
               refine (callsIn_wide.2 (mg_runs W2 _ rfl)).mono ?_
               rintro r Y ⟨rfl, hl1, hs1, hbY⟩)
  clear hW2
  have hYs := hbY.size
  have hw1s := HB1.out.size
  have hXs := HXs.out
  have hW2s := HW2.out.2.1
  have h1Y : Below w1.heap.size w1 Y := HW2.out.1.trans (hbY.mono HW2.out.1.size)
  have hwY : Below w.heap.size w Y := HB.out.trans ((HB1.out.trans (h1Y.mono HB1.out.size)).mono HB.out.size)
  have hY3 : w1.heap.size + 3 ≤ Y.heap.size := by
    have := block_lt hs1
    omega
  have HSeq := Lib.hid (runs1_seq Y (fun k => k < w.heap.size) (fun k => k = w1.heap.size) W2.heap.size (W2.heap.size + 1) (.slice p es.length cap) es hl1 hs1 (HV.out.step (Fr.of_below hwY) (fun k hk hF hle => by omega)) (fun k hk => ⟨by omega, by omega⟩) ⟨by omega, by omega⟩ HSrt.out)
  have HBox : Hid (Boxed Y w1.heap.size 22 (.slice none 0 0)) := Lib.hid ((hbY.block _ (by omega)).trans HW2.out.2.2)
  have HUp : Hid (∀ V, Below w1.heap.size w1 V → V.cell? ⟨w.heap.size, 0, none⟩ = some (.int .u64 (up : Int))) := Lib.hid (fun V hV => cell_of ((hV.block _ (by omega)).trans ((HB1.out.block _ (by omega)).trans HXb.out)) rfl)
  have H1Y := Lib.hid h1Y
  have HwY := Lib.hid hwY
  have HSz : Hid (w.heap.size + 1 ≤ w1.heap.size ∧ w1.heap.size + 3 ≤ Y.heap.size) := Lib.hid ⟨by omega, hY3⟩
  generalize W2.heap.size = c2 at *
  clear hl1 hs1 hbY hYs hw1s hXs hW2s h1Y hwY hY3 HW2
  refine range_q (α := Pc) (encs := encP) (Kp := KpE (fun k => k = w1.heap.size) Y.heap.size) (Qx := QP (fun k => k < w.heap.size) es) rfl (by omega) (gf := 56) (lb := #[.pointer (some ⟨c2, 0, none⟩), .pointer (some ⟨c2 + 1, 0, none⟩)]) rfl trivial (enters_of Try.func56 (by kernel_rfl) rfl) HSeq.out (fun _ => rfl)
    (fun h k => h.trans k) (fun h => .of_calm h)
    (PcC (seen1 up) (fun k => w.heap.size ≤ k) w1.heap.size Y.heap.size w1) (fun _ _ _ => False) (fun pre A C ⟨ts, h1, h2⟩ hc => ⟨ts, h1, Coll.calm H1Y.out.size (Nat.le_refl _) _ _ _ h2 hc⟩) (fun _ _ _ _ h _ => h)
    ⟨[], rfl, _, HBox.out, World.ownsRow_nil _ _ _ _, (fun x hx => by cases hx), H1Y.out, Nat.le_refl _⟩
    (fun x a' W => QP (fun k => k < w.heap.size) es x W ∧ a' = { tmps := #[.slice p es.length cap, .int .u64 (up : Int), undef, .pointer (some ⟨w.heap.size, 0, none⟩), .slice none 0 0, .int .i64 0, .pointer (some ⟨w1.heap.size, 0, none⟩), .slice x.2.1 x.1.length x.2.2, undef, .slice p es.length cap, .bool true, .bool false, .slice p es.length cap, .func (.func 56) #[] #[.pointer (some ⟨c2, 0, none⟩), .pointer (some ⟨c2 + 1, 0, none⟩)], .slice x.2.1 x.1.length x.2.2, undef, undef, undef, undef, undef, undef, undef, undef, undef, undef, undef, undef, undef, undef, undef, undef, undef, undef, undef, undef, undef, undef, undef, undef], defers := [] })
    (fun x a' _ A C h hc => ⟨⟨hc.en h.1.1, h.1.2⟩, h.2⟩) ?assign ?body ?done ?stop
  case assign =>
    intro l2 pre x W K hi hq hK
    have HK := Lib.hid hK
    have Hi := Lib.hid hi
    have Hq := Lib.hid hq
    clear hi hq hK
    unfold encP
    gi_wp2
    exact HK.out _ _ (keeps_below' (Below.refl _ _)) (.of_below (Below.refl _ _)) Hi.out ⟨Hq.out, rfl⟩
  case body =>
    rintro l2 pre x a' W ⟨ts, hts, hcl⟩ ⟨hqp, rfl⟩ hlt
    obtain ⟨pl, q, c⟩ := x
    unfold QP at hqp
    dsimp only at hqp hlt ⊢
    obtain ⟨hen, hsp, hkp, hxl, hxm⟩ := hqp
    have hsz : Y.heap.size ≤ W.heap.size := by
      obtain ⟨_, _, _, _, _, h5⟩ := hcl
      exact h5
    have hbw : Below w1.heap.size w1 W := by
      obtain ⟨_, _, _, _, h4, _⟩ := hcl
      exact h4
    have u0 := HUp.out W hbw
    have HNew := Lib.hid (mg_newest W _ up _ pl hen (by omega) hsp hkp)
    have HEn := Lib.hid hen
    have HCl := Lib.hid hcl
    have HSz2 := Lib.hid hsz
    have HTs := Lib.hid hts
    have HLt : Hid (ts.length ≤ pre.length) := Lib.hid (by
      have h1 : ts.length = ((pre.map Prod.fst).flatMap (seen1 up)).length := by rw [← hts, List.length_map]
      rw [h1]
      exact Nat.le_trans (seen_few up _) (by rw [List.length_map]; exact Nat.le_refl _))
    have hs1 : seen1 up pl = (match pl[newN up pl]? with | some e => if e.gone = true then [] else [e] | none => []) := rfl
    have hnl := newN_le up pl
    obtain ⟨pp, pc, hpe, hlc2, hl472, hcm2, _⟩ := hen.form
    injection hpe with hpe1 _ hpe2
    subst hpe1 hpe2
    -- where nothing is seen of the piece
    have HNo : Hid (seen1 up pl = [] → ∀ V, Below W.heap.size W V → KeepsFrom Y.heap.size W V ∧ KpE (fun k => k = w1.heap.size) Y.heap.size W V ∧ PcC (seen1 up) (fun k => w.heap.size ≤ k) w1.heap.size Y.heap.size w1 (pre ++ [(pl, (q, c))]) V) := Lib.hid (fun he V hV =>
      ⟨keeps_below' hV, .of_below hV, ts, by rw [HTs.out, List.map_append, List.flatMap_append]; simp [he], HCl.out.after hV (by have := HSz.out; omega) (Nat.le_refl _)⟩)
    generalize hn : newN up pl = n at *
    clear hen hcl hsz hbw hts hsp hkp
    rcases Nat.lt_or_ge n pl.length with hlt2 | hge
    · obtain ⟨b1, off1, q1, c1, rfl, hb1, hbF, hV1, d0, d1, d2, d3⟩ := HEn.out.at_ (List.getElem?_eq_getElem hlt2)
      rw [List.getElem?_eq_getElem hlt2] at hs1
      have hfx := HFit.out _ (hxm _ (List.getElem_mem hlt2))
      have qn : decide ((n : Int) < (pl.length : Int)) = true := decide_eq_true (by omega)
      have qnn : decide (n < pl.length) = true := decide_eq_true hlt2
      generalize pl[n] = e at *
      have hs2 : seen1 up pl = if e.gone = true then [] else [e] := hs1
      clear hs1
      cases hg : e.gone
      · rw [hg] at d2 hs2
        have HX := Lib.hid hs2
        have HOwn : Hid (∀ V, Below W.heap.size W V → Calls Try.prog 39 #[.agg #[.string ⟨e.key.toArray⟩, .int .u64 (e.seq : Int), .bool false, .slice q1 e.val.length c1]] V fun r w' => ∃ p k, r = .returned (.agg #[.string ⟨e.key.toArray⟩, .int .u64 (e.seq : Int), .bool false, .slice p e.val.length k]) ∧
            Own w' V.heap.size (.slice p e.val.length k) e.val ∧ Below V.heap.size V w') := Lib.hid (fun V hV => by
          have h := mg_own V _ e q1 c1 hfx (hV1.below hV)
          rw [hg] at h
          exact h)
        have HD := Lib.hid (And.intro hb1 (And.intro d0 (And.intro d1 (And.intro d2 d3))))
        clear hs2 d0 d1 d2 d3 hV1 hb1 hxm
        gi_wp2_with (refine ⟨trivial, ?_⟩
                     gi_at_call 42
                     refine (CallsIn.inRound l2 (callsIn_wide.2 HNew.out)).mono ?_
                     rintro r w2 ⟨rfl, hb2⟩
                     have e0 := (below_cells hb2 b1 _ HD.out.1).trans HD.out.2.1
                     have e1 := (below_cells hb2 b1 _ HD.out.1).trans HD.out.2.2.1
                     have e2 := (below_cells hb2 b1 _ HD.out.1).trans HD.out.2.2.2.1
                     have e3 := (below_cells hb2 b1 _ HD.out.1).trans HD.out.2.2.2.2
                     have HB2 := Lib.hid hb2
                     have hc2 := HCl.out.after hb2 (by have := HSz.out; have := HSz2.out; omega) (Nat.le_refl _)
                     obtain ⟨vb, hbx, hrow, hq2, hbw2, hsz2⟩ := hc2
                     obtain ⟨po, co, rfl, ho1, ho2⟩ := row_shape hrow
                     have x0 := hbx.cell
                     have HBx := Lib.hid hbx
                     have HRow := Lib.hid hrow
                     have HQ2 := Lib.hid hq2
                     have HBw2 := Lib.hid hbw2
                     have HSz3 := Lib.hid hsz2
                     clear hb2 hbx hrow hq2 hbw2 hsz2)
        refine region_round (by kernel_rfl) (by kernel_rfl) ?_
        refine' wpAny_take (i := 1) (v := _) rfl (by kernel_rfl) (by kernel_rfl) (by kernel_rfl) (fun _ _ _ h => by cases h.1) (Or.inl ⟨by rfl, ?hy1⟩) ?hr1
        case hy1 =>
          intro w9
          go_simp
          try with_reducible rfl
        simp only [Act.put]
        refine' wpAny_take (i := 2) (v := _) rfl (by kernel_rfl) (by kernel_rfl) (by kernel_rfl) (fun _ _ _ h => by cases h.1) (Or.inl ⟨by rfl, ?hy2⟩) ?hr2
        case hy2 =>
          intro w9
          go_simp
          try with_reducible rfl
        simp only [Act.put]
        refine' wpAny_take (i := 3) (v := _) rfl (by kernel_rfl) (by kernel_rfl) (by kernel_rfl) (fun _ _ _ h => by cases h.1) (Or.inl ⟨by rfl, ?hy3⟩) ?hr3
        case hy3 =>
          intro w9
          go_simp
          try with_reducible rfl
        simp only [Act.put]
        refine wpAny_ready (rs := [0, 4]) (by kernel_rfl) (by simp) (AllReady.cons rfl (fun K hK => ?_) (AllReady.cons rfl (fun K hK => ?_) (AllReady.nil)))
        · go_simp
          refine hK _ _ ?_
          clear hK K
          refine wpAny_ready (rs := [4]) (by kernel_rfl) (by simp) (AllReady.cons rfl (fun K hK => ?_) (AllReady.nil))
          go_simp
          refine hK _ _ ?_
          clear hK K
          refine wpAny_ready (rs := [5]) (by kernel_rfl) (by simp) (AllReady.cons rfl (fun K hK => ?_) (AllReady.nil))
          go_simp
          refine (HOwn.out _ (HB2.out.drew)).mono ?_
          rintro r w3 ⟨p3, k3, rfl, ho3, hb3'⟩
          have hb3 : Below w2.heap.size w2 w3 := (below_drew (Below.refl _ _)).trans hb3'
          obtain ⟨X3, hX3⟩ : ∃ X3, w3.alloc (.cells #[.string ⟨e.key.toArray⟩, .int .u64 (e.seq : Int), .bool false, .slice p3 e.val.length k3] 30) = X3 := ⟨_, rfl⟩
          have hbX : Below w2.heap.size w2 X3 := (by rw [← hX3]; exact hb3.alloc hb3.size _)
          have hx3 := ((hb3.block _ HBx.out.lt).trans HBx.out)
          have x3 := cell_of (i := 0) hx3 rfl
          have hxX := ((hbX.block _ HBx.out.lt).trans HBx.out)
          have xX := cell_of (i := 0) hxX rfl
          have HXX := Lib.hid hxX
          have HRX : Hid (X3.ownsRow Y.heap.size 30 4 (.slice po ts.length co) ts.length (cellsE (ts.map Prod.fst) (ts.map TEnt.u))) := Lib.hid (row_keep HRow.out fun k hk => hbX.block k (row_lt HRow.out k hk))
          have HCX : Hid (Cl X3 (fun k => k = w3.heap.size) (.slice (some ⟨w3.heap.size, 0, none⟩) 1 1) 1 (cellsE [e] [.slice p3 e.val.length k3])) := Lib.hid (by
            have h9 := Cl.new w3 (fun k => k = w3.heap.size) 1 (cellsE [e] [.slice p3 e.val.length k3]) #[.string ⟨e.key.toArray⟩, .int .u64 (e.seq : Int), .bool e.gone, .slice p3 e.val.length k3] 30 rfl (by omega) rfl
            rw [hg, hX3] at h9
            exact h9)
          have HSzX : Hid (Y.heap.size ≤ X3.heap.size) := Lib.hid (Nat.le_trans HSz3.out hbX.size)
          have HOne : Hid (∀ x ∈ cellsE [e] [.slice p3 e.val.length k3], x.oneCell' = true) := Lib.hid (cellsE_one _ _ (by simp [Value.oneCell']))
          have HLn : Hid (ts.length + 1 ≤ 68719476736) := Lib.hid (by have := HLt.out; omega)
          have HBX := Lib.hid hbX
          have HO3 : Hid (Own X3 w2.heap.size (.slice p3 e.val.length k3) e.val) := Lib.hid (by rw [← hX3]; exact ho3.alloc _)
          clear hb3 hb3' ho3 hbX hx3 hxX
          dsimp only
          refine hK _ _ ?_
          clear hK K
          refine wpAny_ready (rs := [6]) (by kernel_rfl) (by simp) (AllReady.cons rfl (fun K hK => ?_) (AllReady.nil))
          go_simp
          refine hK _ _ ?_
          clear hK K
          refine wpAny_ready (rs := [7]) (by kernel_rfl) (by simp) (AllReady.cons rfl (fun K hK => ?_) (AllReady.nil))
          rw [if_pos (by rfl)]
          refine slEnt.wp_append (.tmp 30) (.tmp 36) rfl Y.heap.size (v := .slice po ts.length co) (u := .slice (some ⟨w3.heap.size, 0, none⟩) 1 1) rfl rfl HRX.out HCX.out rfl HOne.out HLn.out HSzX.out ?_
          intro v4 w4 ho4 hg4 _
          obtain ⟨p9, c9, rfl, _, _⟩ := row_shape ho4
          have hb4 : Below Y.heap.size X3 w4 := (Below.refl _ X3).grown hg4 HSzX.out (row_low HRX.out)
          have hx4 := ((hb4.block w1.heap.size (by have := HSz.out; omega)).trans HXX.out)
          have x4 := cell_of (i := 0) hx4 rfl
          have z4 := frozen_of (i := 0) hx4
          have HFin : Hid (PcC (seen1 up) (fun k => w.heap.size ≤ k) w1.heap.size Y.heap.size w1 (pre ++ [(pl, (some ⟨b1, off1, none⟩, c))]) (w4.setCell ⟨w1.heap.size, 0, none⟩ (.slice p9 (ts.length + 1) c9)) ∧ KpE (fun k => k = w1.heap.size) Y.heap.size W (w4.setCell ⟨w1.heap.size, 0, none⟩ (.slice p9 (ts.length + 1) c9)) ∧ KeepsFrom Y.heap.size W (w4.setCell ⟨w1.heap.size, 0, none⟩ (.slice p9 (ts.length + 1) c9))) := Lib.hid (by
            have hq9 : ∀ y ∈ ts, QT (fun k => w.heap.size ≤ k) y X3 := fun y hy => (HQ2.out y hy).keep (fun j hj => by
              obtain ⟨cur, hcu⟩ := (HQ2.out y hy).1.heap hj
              exact HBX.out.block j (block_lt hcu)) (fun _ _ hs => hs)
            have hx9 : QT (fun k => w.heap.size ≤ k) (e, (p3, k3)) X3 := ⟨HO3.out.low, fun j hj => by have := HO3.out.block j hj; have := HB2.out.size; have := HSz.out; have := HSz2.out; omega⟩
            obtain ⟨k1, k2, k4⟩ := coll_add (x := (e, (p3, k3))) HXX.out HRX.out hq9 hx9 (HBw2.out.trans (HBX.out.mono HBw2.out.size)) HSzX.out (by have := HSz.out; omega) ho4 hg4
            have hWX : Below W.heap.size W X3 := HB2.out.trans (HBX.out.mono HB2.out.size)
            exact ⟨⟨ts ++ [(e, (p3, k3))], by rw [List.map_append, HTs.out, List.map_append, List.flatMap_append]; simp [HX.out], k1⟩, (KpE.of_below hWX).trans k2, (keeps_below' hWX).trans (k4 _)⟩)
          clear ho4 hg4 hb4 hx4
          refine hK _ _ ?_
          clear hK K
          refine wpAny_ready (rs := [8]) (by kernel_rfl) (by simp) (AllReady.cons rfl (fun K hK => ?_) (AllReady.nil))
          go_simp
          refine hK _ _ ?_
          clear hK K
          refine wpAny_done (by kernel_rfl) ?_ _
          refine ⟨rfl, ?_⟩
          gi_wp2
          exact ⟨HFin.out.2.2, HFin.out.2.1, HFin.out.1⟩
        · go_simp
          refine hK _ _ ?_
          clear hK K
          refine wpAny_ready (rs := [0, 5]) (by kernel_rfl) (by simp) (AllReady.cons rfl (fun K hK => ?_) (AllReady.cons rfl (fun K hK => ?_) (AllReady.nil)))
          · go_simp
            refine hK _ _ ?_
            clear hK K
            refine wpAny_ready (rs := [5]) (by kernel_rfl) (by simp) (AllReady.cons rfl (fun K hK => ?_) (AllReady.nil))
            go_simp
            refine (HOwn.out _ (HB2.out.drew)).mono ?_
            rintro r w3 ⟨p3, k3, rfl, ho3, hb3'⟩
            have hb3 : Below w2.heap.size w2 w3 := (below_drew (Below.refl _ _)).trans hb3'
            obtain ⟨X3, hX3⟩ : ∃ X3, w3.alloc (.cells #[.string ⟨e.key.toArray⟩, .int .u64 (e.seq : Int), .bool false, .slice p3 e.val.length k3] 30) = X3 := ⟨_, rfl⟩
            have hbX : Below w2.heap.size w2 X3 := (by rw [← hX3]; exact hb3.alloc hb3.size _)
            have hx3 := ((hb3.block _ HBx.out.lt).trans HBx.out)
            have x3 := cell_of (i := 0) hx3 rfl
            have hxX := ((hbX.block _ HBx.out.lt).trans HBx.out)
            have xX := cell_of (i := 0) hxX rfl
            have HXX := Lib.hid hxX
            have HRX : Hid (X3.ownsRow Y.heap.size 30 4 (.slice po ts.length co) ts.length (cellsE (ts.map Prod.fst) (ts.map TEnt.u))) := Lib.hid (row_keep HRow.out fun k hk => hbX.block k (row_lt HRow.out k hk))
            have HCX : Hid (Cl X3 (fun k => k = w3.heap.size) (.slice (some ⟨w3.heap.size, 0, none⟩) 1 1) 1 (cellsE [e] [.slice p3 e.val.length k3])) := Lib.hid (by
              have h9 := Cl.new w3 (fun k => k = w3.heap.size) 1 (cellsE [e] [.slice p3 e.val.length k3]) #[.string ⟨e.key.toArray⟩, .int .u64 (e.seq : Int), .bool e.gone, .slice p3 e.val.length k3] 30 rfl (by omega) rfl
              rw [hg, hX3] at h9
              exact h9)
            have HSzX : Hid (Y.heap.size ≤ X3.heap.size) := Lib.hid (Nat.le_trans HSz3.out hbX.size)
            have HOne : Hid (∀ x ∈ cellsE [e] [.slice p3 e.val.length k3], x.oneCell' = true) := Lib.hid (cellsE_one _ _ (by simp [Value.oneCell']))
            have HLn : Hid (ts.length + 1 ≤ 68719476736) := Lib.hid (by have := HLt.out; omega)
            have HBX := Lib.hid hbX
            have HO3 : Hid (Own X3 w2.heap.size (.slice p3 e.val.length k3) e.val) := Lib.hid (by rw [← hX3]; exact ho3.alloc _)
            clear hb3 hb3' ho3 hbX hx3 hxX
            dsimp only
            refine hK _ _ ?_
            clear hK K
            refine wpAny_ready (rs := [6]) (by kernel_rfl) (by simp) (AllReady.cons rfl (fun K hK => ?_) (AllReady.nil))
            go_simp
            refine hK _ _ ?_
            clear hK K
            refine wpAny_ready (rs := [7]) (by kernel_rfl) (by simp) (AllReady.cons rfl (fun K hK => ?_) (AllReady.nil))
            rw [if_pos (by rfl)]
            refine slEnt.wp_append (.tmp 30) (.tmp 36) rfl Y.heap.size (v := .slice po ts.length co) (u := .slice (some ⟨w3.heap.size, 0, none⟩) 1 1) rfl rfl HRX.out HCX.out rfl HOne.out HLn.out HSzX.out ?_
            intro v4 w4 ho4 hg4 _
            obtain ⟨p9, c9, rfl, _, _⟩ := row_shape ho4
            have hb4 : Below Y.heap.size X3 w4 := (Below.refl _ X3).grown hg4 HSzX.out (row_low HRX.out)
            have hx4 := ((hb4.block w1.heap.size (by have := HSz.out; omega)).trans HXX.out)
            have x4 := cell_of (i := 0) hx4 rfl
            have z4 := frozen_of (i := 0) hx4
            have HFin : Hid (PcC (seen1 up) (fun k => w.heap.size ≤ k) w1.heap.size Y.heap.size w1 (pre ++ [(pl, (some ⟨b1, off1, none⟩, c))]) (w4.setCell ⟨w1.heap.size, 0, none⟩ (.slice p9 (ts.length + 1) c9)) ∧ KpE (fun k => k = w1.heap.size) Y.heap.size W (w4.setCell ⟨w1.heap.size, 0, none⟩ (.slice p9 (ts.length + 1) c9)) ∧ KeepsFrom Y.heap.size W (w4.setCell ⟨w1.heap.size, 0, none⟩ (.slice p9 (ts.length + 1) c9))) := Lib.hid (by
              have hq9 : ∀ y ∈ ts, QT (fun k => w.heap.size ≤ k) y X3 := fun y hy => (HQ2.out y hy).keep (fun j hj => by
                obtain ⟨cur, hcu⟩ := (HQ2.out y hy).1.heap hj
                exact HBX.out.block j (block_lt hcu)) (fun _ _ hs => hs)
              have hx9 : QT (fun k => w.heap.size ≤ k) (e, (p3, k3)) X3 := ⟨HO3.out.low, fun j hj => by have := HO3.out.block j hj; have := HB2.out.size; have := HSz.out; have := HSz2.out; omega⟩
              obtain ⟨k1, k2, k4⟩ := coll_add (x := (e, (p3, k3))) HXX.out HRX.out hq9 hx9 (HBw2.out.trans (HBX.out.mono HBw2.out.size)) HSzX.out (by have := HSz.out; omega) ho4 hg4
              have hWX : Below W.heap.size W X3 := HB2.out.trans (HBX.out.mono HB2.out.size)
              exact ⟨⟨ts ++ [(e, (p3, k3))], by rw [List.map_append, HTs.out, List.map_append, List.flatMap_append]; simp [HX.out], k1⟩, (KpE.of_below hWX).trans k2, (keeps_below' hWX).trans (k4 _)⟩)
            clear ho4 hg4 hb4 hx4
            refine hK _ _ ?_
            clear hK K
            refine wpAny_ready (rs := [8]) (by kernel_rfl) (by simp) (AllReady.cons rfl (fun K hK => ?_) (AllReady.nil))
            go_simp
            refine hK _ _ ?_
            clear hK K
            refine wpAny_done (by kernel_rfl) ?_ _
            refine ⟨rfl, ?_⟩
            gi_wp2
            exact ⟨HFin.out.2.2, HFin.out.2.1, HFin.out.1⟩
          · go_simp
            refine (HOwn.out _ (HB2.out.drew)).mono ?_
            rintro r w3 ⟨p3, k3, rfl, ho3, hb3'⟩
            have hb3 : Below w2.heap.size w2 w3 := (below_drew (Below.refl _ _)).trans hb3'
            obtain ⟨X3, hX3⟩ : ∃ X3, w3.alloc (.cells #[.string ⟨e.key.toArray⟩, .int .u64 (e.seq : Int), .bool false, .slice p3 e.val.length k3] 30) = X3 := ⟨_, rfl⟩
            have hbX : Below w2.heap.size w2 X3 := (by rw [← hX3]; exact hb3.alloc hb3.size _)
            have hx3 := ((hb3.block _ HBx.out.lt).trans HBx.out)
            have x3 := cell_of (i := 0) hx3 rfl
            have hxX := ((hbX.block _ HBx.out.lt).trans HBx.out)
            have xX := cell_of (i := 0) hxX rfl
            have HXX := Lib.hid hxX
            have HRX : Hid (X3.ownsRow Y.heap.size 30 4 (.slice po ts.length co) ts.length (cellsE (ts.map Prod.fst) (ts.map TEnt.u))) := Lib.hid (row_keep HRow.out fun k hk => hbX.block k (row_lt HRow.out k hk))
            have HCX : Hid (Cl X3 (fun k => k = w3.heap.size) (.slice (some ⟨w3.heap.size, 0, none⟩) 1 1) 1 (cellsE [e] [.slice p3 e.val.length k3])) := Lib.hid (by
              have h9 := Cl.new w3 (fun k => k = w3.heap.size) 1 (cellsE [e] [.slice p3 e.val.length k3]) #[.string ⟨e.key.toArray⟩, .int .u64 (e.seq : Int), .bool e.gone, .slice p3 e.val.length k3] 30 rfl (by omega) rfl
              rw [hg, hX3] at h9
              exact h9)
            have HSzX : Hid (Y.heap.size ≤ X3.heap.size) := Lib.hid (Nat.le_trans HSz3.out hbX.size)
            have HOne : Hid (∀ x ∈ cellsE [e] [.slice p3 e.val.length k3], x.oneCell' = true) := Lib.hid (cellsE_one _ _ (by simp [Value.oneCell']))
            have HLn : Hid (ts.length + 1 ≤ 68719476736) := Lib.hid (by have := HLt.out; omega)
            have HBX := Lib.hid hbX
            have HO3 : Hid (Own X3 w2.heap.size (.slice p3 e.val.length k3) e.val) := Lib.hid (by rw [← hX3]; exact ho3.alloc _)
            clear hb3 hb3' ho3 hbX hx3 hxX
            dsimp only
            refine hK _ _ ?_
            clear hK K
            refine wpAny_ready (rs := [0, 6]) (by kernel_rfl) (by simp) (AllReady.cons rfl (fun K hK => ?_) (AllReady.cons rfl (fun K hK => ?_) (AllReady.nil)))
            · go_simp
              refine hK _ _ ?_
              clear hK K
              refine wpAny_ready (rs := [6]) (by kernel_rfl) (by simp) (AllReady.cons rfl (fun K hK => ?_) (AllReady.nil))
              go_simp
              refine hK _ _ ?_
              clear hK K
              refine wpAny_ready (rs := [7]) (by kernel_rfl) (by simp) (AllReady.cons rfl (fun K hK => ?_) (AllReady.nil))
              rw [if_pos (by rfl)]
              refine slEnt.wp_append (.tmp 30) (.tmp 36) rfl Y.heap.size (v := .slice po ts.length co) (u := .slice (some ⟨w3.heap.size, 0, none⟩) 1 1) rfl rfl HRX.out HCX.out rfl HOne.out HLn.out HSzX.out ?_
              intro v4 w4 ho4 hg4 _
              obtain ⟨p9, c9, rfl, _, _⟩ := row_shape ho4
              have hb4 : Below Y.heap.size X3 w4 := (Below.refl _ X3).grown hg4 HSzX.out (row_low HRX.out)
              have hx4 := ((hb4.block w1.heap.size (by have := HSz.out; omega)).trans HXX.out)
              have x4 := cell_of (i := 0) hx4 rfl
              have z4 := frozen_of (i := 0) hx4
              have HFin : Hid (PcC (seen1 up) (fun k => w.heap.size ≤ k) w1.heap.size Y.heap.size w1 (pre ++ [(pl, (some ⟨b1, off1, none⟩, c))]) (w4.setCell ⟨w1.heap.size, 0, none⟩ (.slice p9 (ts.length + 1) c9)) ∧ KpE (fun k => k = w1.heap.size) Y.heap.size W (w4.setCell ⟨w1.heap.size, 0, none⟩ (.slice p9 (ts.length + 1) c9)) ∧ KeepsFrom Y.heap.size W (w4.setCell ⟨w1.heap.size, 0, none⟩ (.slice p9 (ts.length + 1) c9))) := Lib.hid (by
                have hq9 : ∀ y ∈ ts, QT (fun k => w.heap.size ≤ k) y X3 := fun y hy => (HQ2.out y hy).keep (fun j hj => by
                  obtain ⟨cur, hcu⟩ := (HQ2.out y hy).1.heap hj
                  exact HBX.out.block j (block_lt hcu)) (fun _ _ hs => hs)
                have hx9 : QT (fun k => w.heap.size ≤ k) (e, (p3, k3)) X3 := ⟨HO3.out.low, fun j hj => by have := HO3.out.block j hj; have := HB2.out.size; have := HSz.out; have := HSz2.out; omega⟩
                obtain ⟨k1, k2, k4⟩ := coll_add (x := (e, (p3, k3))) HXX.out HRX.out hq9 hx9 (HBw2.out.trans (HBX.out.mono HBw2.out.size)) HSzX.out (by have := HSz.out; omega) ho4 hg4
                have hWX : Below W.heap.size W X3 := HB2.out.trans (HBX.out.mono HB2.out.size)
                exact ⟨⟨ts ++ [(e, (p3, k3))], by rw [List.map_append, HTs.out, List.map_append, List.flatMap_append]; simp [HX.out], k1⟩, (KpE.of_below hWX).trans k2, (keeps_below' hWX).trans (k4 _)⟩)
              clear ho4 hg4 hb4 hx4
              refine hK _ _ ?_
              clear hK K
              refine wpAny_ready (rs := [8]) (by kernel_rfl) (by simp) (AllReady.cons rfl (fun K hK => ?_) (AllReady.nil))
              go_simp
              refine hK _ _ ?_
              clear hK K
              refine wpAny_done (by kernel_rfl) ?_ _
              refine ⟨rfl, ?_⟩
              gi_wp2
              exact ⟨HFin.out.2.2, HFin.out.2.1, HFin.out.1⟩
            · go_simp
              refine hK _ _ ?_
              clear hK K
              refine wpAny_ready (rs := [0]) (by kernel_rfl) (by simp) (AllReady.cons rfl (fun K hK => ?_) (AllReady.nil))
              go_simp
              refine hK _ _ ?_
              clear hK K
              refine wpAny_ready (rs := [7]) (by kernel_rfl) (by simp) (AllReady.cons rfl (fun K hK => ?_) (AllReady.nil))
              rw [if_pos (by rfl)]
              refine slEnt.wp_append (.tmp 30) (.tmp 36) rfl Y.heap.size (v := .slice po ts.length co) (u := .slice (some ⟨w3.heap.size, 0, none⟩) 1 1) rfl rfl HRX.out HCX.out rfl HOne.out HLn.out HSzX.out ?_
              intro v4 w4 ho4 hg4 _
              obtain ⟨p9, c9, rfl, _, _⟩ := row_shape ho4
              have hb4 : Below Y.heap.size X3 w4 := (Below.refl _ X3).grown hg4 HSzX.out (row_low HRX.out)
              have hx4 := ((hb4.block w1.heap.size (by have := HSz.out; omega)).trans HXX.out)
              have x4 := cell_of (i := 0) hx4 rfl
              have z4 := frozen_of (i := 0) hx4
              have HFin : Hid (PcC (seen1 up) (fun k => w.heap.size ≤ k) w1.heap.size Y.heap.size w1 (pre ++ [(pl, (some ⟨b1, off1, none⟩, c))]) (w4.setCell ⟨w1.heap.size, 0, none⟩ (.slice p9 (ts.length + 1) c9)) ∧ KpE (fun k => k = w1.heap.size) Y.heap.size W (w4.setCell ⟨w1.heap.size, 0, none⟩ (.slice p9 (ts.length + 1) c9)) ∧ KeepsFrom Y.heap.size W (w4.setCell ⟨w1.heap.size, 0, none⟩ (.slice p9 (ts.length + 1) c9))) := Lib.hid (by
                have hq9 : ∀ y ∈ ts, QT (fun k => w.heap.size ≤ k) y X3 := fun y hy => (HQ2.out y hy).keep (fun j hj => by
                  obtain ⟨cur, hcu⟩ := (HQ2.out y hy).1.heap hj
                  exact HBX.out.block j (block_lt hcu)) (fun _ _ hs => hs)
                have hx9 : QT (fun k => w.heap.size ≤ k) (e, (p3, k3)) X3 := ⟨HO3.out.low, fun j hj => by have := HO3.out.block j hj; have := HB2.out.size; have := HSz.out; have := HSz2.out; omega⟩
                obtain ⟨k1, k2, k4⟩ := coll_add (x := (e, (p3, k3))) HXX.out HRX.out hq9 hx9 (HBw2.out.trans (HBX.out.mono HBw2.out.size)) HSzX.out (by have := HSz.out; omega) ho4 hg4
                have hWX : Below W.heap.size W X3 := HB2.out.trans (HBX.out.mono HB2.out.size)
                exact ⟨⟨ts ++ [(e, (p3, k3))], by rw [List.map_append, HTs.out, List.map_append, List.flatMap_append]; simp [HX.out], k1⟩, (KpE.of_below hWX).trans k2, (keeps_below' hWX).trans (k4 _)⟩)
              clear ho4 hg4 hb4 hx4
              refine hK _ _ ?_
              clear hK K
              refine wpAny_ready (rs := [8]) (by kernel_rfl) (by simp) (AllReady.cons rfl (fun K hK => ?_) (AllReady.nil))
              go_simp
              refine hK _ _ ?_
              clear hK K
              refine wpAny_done (by kernel_rfl) ?_ _
              refine ⟨rfl, ?_⟩
              gi_wp2
              exact ⟨HFin.out.2.2, HFin.out.2.1, HFin.out.1⟩
      · rw [hg] at d2 hs2
        have HN := Lib.hid (HNo.out (by rw [hs2]; rfl))
        clear hs2
        have HD := Lib.hid (And.intro hb1 d2)
        clear d0 d1 d2 d3 hV1 hb1 hxm
        gi_wp2_with (refine ⟨trivial, ?_⟩
                     gi_at_call 42
                     refine (CallsIn.inRound l2 (callsIn_wide.2 HNew.out)).mono ?_
                     rintro r w2 ⟨rfl, hb2⟩
                     have e2 := (below_cells hb2 b1 _ HD.out.1).trans HD.out.2
                     have HB2 := Lib.hid hb2
                     clear hb2)
        exact HN.out _ HB2.out
    · have q2 : decide ((n : Int) < (pl.length : Int)) = false := decide_eq_false (by omega)
      have q2n : decide (n < pl.length) = false := decide_eq_false (by omega)
      rw [List.getElem?_eq_none hge] at hs1
      have HN := Lib.hid (HNo.out hs1)
      clear hs1
      gi_wp2_with (refine ⟨trivial, ?_⟩
                   gi_at_call 42
                   refine (CallsIn.inRound l2 (callsIn_wide.2 HNew.out)).mono ?_
                   rintro r w2 ⟨rfl, hb2⟩
                   have HB2 := Lib.hid hb2
                   clear hb2)
      exact HN.out _ HB2.out
  case done =>
    rintro D ys W hD hS ⟨ts, hts, v', hbx, hrow, hq, hbw, hsz⟩ hK
    have hc := hbx.cell
    have hcm : Calm Y.heap.size W (W.putObj D (.deferred none)) := Calm.put _ hD hK rfl
    have htl : ts.map Prod.fst = seenE es up := hts.trans (seen_pcs HSrt.out hS up)
    have HEn : Hid (En (W.putObj D (.deferred none)) (fun k => w.heap.size ≤ k) v' (seenE es up) ∧ Below w.heap.size w (W.putObj D (.deferred none))) := Lib.hid (by
      have hlen : (seenE es up).length = ts.length := by rw [← htl, List.length_map]
      have hle : (seenE es up).length ≤ es.length := List.length_filter_le _ _
      refine ⟨⟨ts.map TEnt.u, by simp [hlen], ?_, fun k e u h1 h2 => ?_⟩, ?_⟩
      · rw [← htl, List.length_map]
        exact Cl.of_own (hcm.row hrow) (by omega) (fun k hk => by have := row_low hrow k hk; have := HwY.out.size; omega) (by rw [cellsE_length _ _ (by simp), List.length_map])
      · rw [← htl] at h1
        have hkl : k < ts.length := by
          have := (List.getElem?_eq_some_iff.1 h1).1
          rwa [List.length_map] at this
        have e1 : ts[k].1 = e := by simpa [hkl] using h1
        have e2 : ts[k].u = u := by simpa [hkl] using h2
        subst e1 e2
        have hin : ts[k].1 ∈ seenE es up := by rw [← htl]; exact List.mem_map_of_mem (List.getElem_mem hkl)
        have hf := HFit.out ts[k].1 (List.mem_filter.1 hin).1
        exact (hcm.ownS (hq ts[k] (List.getElem_mem hkl))).by_ (by have := hf.val; omega)
      · have h9 := hcm.below hbw H1Y.out.size (Nat.le_refl _)
        exact HB.out.trans ((HB1.out.trans (h9.mono HB1.out.size)).mono HB.out.size))
    have HK := Lib.hid hK
    clear hbx hrow hq hbw hK hcm hS hts htl
    gi_wp2
    refine ⟨by simp, .inl ⟨_, _, rfl, run_takeDeferred HK.out, ?_⟩⟩
    exact ⟨_, results_tmp2 rfl _ _ _, v', rfl, HEn.out⟩
  case stop =>
    rintro D c pre W _ _ h _
    exact h.elim
end Go.Proofs.Ytaomneenflkpeaa
