/-
  The walk over merge.Prune: what is left, collected from the pieces of a list.
-/
import Derived.Test.YteclnnjijfbfoaaMgG
namespace Go.Proofs.Yteclnnjijfbfoaa
open Go.RowKit Go.Shelf
attribute [local go_sem] Oper.semAt_some

/-- What is collected of the pieces so far. -/
def PrC (keep : Nat) (bot : Bool) (es : List Ent) (G : Nat → Prop) (b0 B : Nat) (w : World) (pre : List Pc) (W : World) : Prop :=
  ∃ ts : List TEnt, ts.map Prod.fst = (pre.map Prod.fst).flatMap (prn1 keep bot) ∧ ts.length ≤ pre.length * es.length ∧ Coll G b0 B w ts W
/-- Behind k entries of a piece. -/
def PrI (keep : Nat) (bot : Bool) (pl : List Ent) (pre : List Pc) (w Y w1 W : World) (k : Nat) (wr : World) : Prop :=
  ∃ ts : List TEnt, ts.map Prod.fst = (pre.map Prod.fst).flatMap (prn1 keep bot) ++ pl.take k ∧ Coll (fun k => w.heap.size ≤ k) w1.heap.size Y.heap.size w1 ts wr ∧ KpE (fun k => k = w1.heap.size) Y.heap.size W wr ∧ KeepsFrom Y.heap.size W wr
theorem end1_ways (keep : Nat) (bot : Bool) (p : List Ent) : (newN keep p < p.length → ∀ e, p[newN keep p]? = some e → end1 keep bot p = if (e.gone && bot) = true then newN keep p else newN keep p + 1) ∧ (p.length ≤ newN keep p → end1 keep bot p = newN keep p) := by
  constructor
  · intro h e he
    unfold end1
    rw [he]
  · intro h
    unfold end1
    rw [List.getElem?_eq_none h]

set_option maxRecDepth 100000 in
set_option maxHeartbeats 4000000 in
theorem mg_prune_no (w : World) (F : Nat → Prop) (v : Value) (es : List Ent) (h : En w F v es) (hR : rightE es = false) (keep : Nat) (bot : Bool) :
    Calls Try.prog 19 #[v, .int .u64 (keep : Int), .bool bot] w fun r w' => r = .returned (.tuple #[.slice none 0 0, .int .i64 15]) ∧ Below w.heap.size w w' := by
  obtain ⟨X, hX⟩ : ∃ X, (w.alloc (.cells #[.int .u64 (keep : Int)] 22)).alloc (.cells #[.bool bot] 4) = X := ⟨_, rfl⟩
  have hb : Below w.heap.size w X := by rw [← hX]; exact ((Below.refl _ _).alloc (Nat.le_refl _) _).alloc (by simp) _
  have HRt := Lib.hid (mg_right X F v es (h.below hb))
  rw [hR] at HRt
  have HB := Lib.hid hb
  obtain ⟨p, cap, rfl, hlc, hl47, hcm, _⟩ := h.form
  clear h hR hb
  go_enter Try.func19, Try.ntmps19
  go_wp2_with fail
  refine HRt.out.mono ?_
  rintro r w1 ⟨rfl, hb1⟩
  go_wp2_with fail
  go_ret2
  exact ⟨rfl, HB.out.trans (hb1.mono HB.out.size)⟩

set_option maxRecDepth 100000 in
set_option maxHeartbeats 4000000 in
theorem mg_prune (w : World) (F : Nat → Prop) (v : Value) (es : List Ent) (h0 : En w F v es) (hR : rightE es = true) (hfit : ∀ e ∈ es, FitE e) (hl : es.length ≤ 131072) (keep : Nat) (bot : Bool) :
    Calls Try.prog 19 #[v, .int .u64 (keep : Int), .bool bot] w fun r w' => ∃ u, r = .returned (.tuple #[u, .int .i64 0]) ∧ En w' (fun k => w.heap.size ≤ k) u (prnE es keep bot) ∧ Below w.heap.size w w' := by
  have h : En w (fun k => k < w.heap.size) v es := h0.mono fun k hk _ => hk
  obtain ⟨X, hX⟩ : ∃ X, (w.alloc (.cells #[.int .u64 (keep : Int)] 22)).alloc (.cells #[.bool bot] 4) = X := ⟨_, rfl⟩
  have hb : Below w.heap.size w X := by rw [← hX]; exact ((Below.refl _ _).alloc (Nat.le_refl _) _).alloc (by simp) _
  have hXs : X.heap.size = w.heap.size + 2 := by rw [← hX]; simp
  have hXa : X.heap[w.heap.size]? = some (.cells #[.int .u64 (keep : Int)] 22 (0, 0)) := by
    rw [← hX]
    exact (alloc_old (by simp) _).trans (heap_alloc_new w _)
  have hXb : X.heap[w.heap.size + 1]? = some (.cells #[.bool bot] 4 (0, 0)) := by rw [← hX]; exact heap_alloc2_new w _ _
  have HRt := Lib.hid (mg_right X _ v es (h.below hb))
  rw [hR] at HRt
  have HB := Lib.hid hb
  have HXa := Lib.hid hXa
  have HXb := Lib.hid hXb
  have HXs := Lib.hid hXs
  have HV := Lib.hid h
  have HSrt := Lib.hid (rightE_iff.1 hR).2
  have HFit := Lib.hid hfit
  obtain ⟨p, cap, rfl, hlc, hl47, hcm, _⟩ := h.form
  clear h h0 hR hb hXa hXb hXs hfit
  refine (callsIn_wide (n := 3)).1 ?_
  refine callsIn_of_wp_marks Try.func19 rfl trivial ?_ rfl
  simp only [Try.ntmps19, List.size_toArray, List.length_cons, List.length_nil, Nat.reduceAdd, Nat.reduceSub, Array.replicate_succ, Array.replicate_zero, List.push_toArray, List.append_toArray, List.nil_append, List.cons_append]
  gi_wp2_with (refine ⟨trivial, ?_⟩
               gi_at_call 29
               refine (callsIn_wide.2 HRt.out).mono ?_
               rintro r w1 ⟨rfl, hb1⟩
               have HB1 := Lib.hid hb1
               clear hb1
               obtain ⟨W2, hW2⟩ : ∃ W2, w1.alloc (.cells #[.slice none 0 0] 26) = W2 := ⟨_, rfl⟩
               have HW2 : Hid (Below w1.heap.size w1 W2 ∧ W2.heap.size = w1.heap.size + 1 ∧ Boxed W2 w1.heap.size 26 (.slice none 0 0)) := Lib.hid (by
                 rw [← hW2]
                 exact ⟨(Below.refl _ _).alloc (Nat.le_refl _) _, by simp, heap_alloc_new w1 _⟩))
  gi_wp2_with (refine ⟨trivial, ?_⟩
               gi_at_call 35
               refine (callsIn_wide.2 (mg_runs W2 _ rfl)).mono ?_
               rintro r Y ⟨rfl, hl1, hs1, hbY⟩)
  clear hW2
  have hYs := hbY.size
  have hw1s := HB1.out.size
  have hXs := HXs.out
  have hW2s := HW2.out.2.1
  have h1Y : Below w1.heap.size w1 Y := HW2.out.1.trans (hbY.mono HW2.out.1.size)
  have hwY : Below w.heap.size w Y := HB.out.trans ((HB1.out.trans (h1Y.mono HB1.out.size)).mono HB.out.size)
  have hY3 : w1.heap.size + 3 ≤ Y.heap.size := by
    have := block_lt hs1
    omega
  have HSeq := Lib.hid (runs1_seq Y (fun k => k < w.heap.size) (fun k => k = w1.heap.size) W2.heap.size (W2.heap.size + 1) (.slice p es.length cap) es hl1 hs1 (HV.out.step (Fr.of_below hwY) (fun k hk hF hle => by omega)) (fun k hk => ⟨by omega, by omega⟩) ⟨by omega, by omega⟩ HSrt.out)
  have HBox : Hid (Boxed Y w1.heap.size 26 (.slice none 0 0)) := Lib.hid ((hbY.block _ (by omega)).trans HW2.out.2.2)
  have HUp : Hid (∀ V, Below w1.heap.size w1 V → V.cell? ⟨w.heap.size, 0, none⟩ = some (.int .u64 (keep : Int)) ∧ V.cell? ⟨w.heap.size + 1, 0, none⟩ = some (.bool bot)) := Lib.hid (fun V hV => ⟨cell_of ((hV.block _ (by omega)).trans ((HB1.out.block _ (by omega)).trans HXa.out)) rfl, cell_of ((hV.block _ (by omega)).trans ((HB1.out.block _ (by omega)).trans HXb.out)) rfl⟩)
  have H1Y := Lib.hid h1Y
  have HwY := Lib.hid hwY
  have HSz : Hid (w.heap.size + 2 ≤ w1.heap.size ∧ w1.heap.size + 3 ≤ Y.heap.size) := Lib.hid ⟨by omega, hY3⟩
  generalize W2.heap.size = c2 at *
  clear hl1 hs1 hbY hYs hw1s hXs hW2s h1Y hwY hY3 HW2
  refine range_q (α := Pc) (encs := encP) (Kp := KpE (fun k => k = w1.heap.size) Y.heap.size) (Qx := QP (fun k => k < w.heap.size) es) rfl (by omega) (gf := 54) (lb := #[.pointer (some ⟨c2, 0, none⟩), .pointer (some ⟨c2 + 1, 0, none⟩)]) rfl trivial (enters_of Try.func54 (by kernel_rfl) rfl) HSeq.out (fun _ => rfl)
    (fun h k => h.trans k) (fun h => .of_calm h)
    (PrC keep bot es (fun k => w.heap.size ≤ k) w1.heap.size Y.heap.size w1) (fun _ _ _ => False) (fun pre A C ⟨ts, h1, h2, h3⟩ hc => ⟨ts, h1, h2, Coll.calm H1Y.out.size (Nat.le_refl _) _ _ _ h3 hc⟩) (fun _ _ _ _ h _ => h)
    ⟨[], rfl, by simp, _, HBox.out, World.ownsRow_nil _ _ _ _, (fun x hx => by cases hx), H1Y.out, Nat.le_refl _⟩
    (fun x a' W => QP (fun k => k < w.heap.size) es x W ∧ a' = { tmps := #[.slice p es.length cap, .int .u64 (keep : Int), .bool bot, undef, .pointer (some ⟨w.heap.size, 0, none⟩), .pointer (some ⟨w.heap.size + 1, 0, none⟩), .slice none 0 0, .int .i64 0, .pointer (some ⟨w1.heap.size, 0, none⟩), .slice x.2.1 x.1.length x.2.2, undef, undef, undef, .slice p es.length cap, .bool true, .bool false, .slice p es.length cap, .func (.func 54) #[] #[.pointer (some ⟨c2, 0, none⟩), .pointer (some ⟨c2 + 1, 0, none⟩)], .slice x.2.1 x.1.length x.2.2, undef, undef, undef, undef, undef, undef, undef, undef, undef, undef, undef, undef, undef, undef, undef, undef, undef, undef, undef, undef, undef, undef, undef, undef, undef, undef, undef, undef, undef, undef, undef, undef, undef, undef, undef], defers := [] })
    (fun x a' _ A C h hc => ⟨⟨hc.en h.1.1, h.1.2⟩, h.2⟩) ?assign ?body ?done ?stop
  case assign =>
    intro l2 pre x W K hi hq hK
    have HK := Lib.hid hK
    have Hi := Lib.hid hi
    have Hq := Lib.hid hq
    clear hi hq hK
    unfold encP
    gi_wp2
    exact HK.out _ _ (keeps_below' (Below.refl _ _)) (.of_below (Below.refl _ _)) Hi.out ⟨Hq.out, rfl⟩
  case body =>
    rintro l2 pre x a' W ⟨ts0, hts, htl, hcl⟩ ⟨hqp, rfl⟩ hlt
    obtain ⟨pl, q, c⟩ := x
    unfold QP at hqp
    dsimp only at hqp hlt ⊢
    obtain ⟨hen, hsp, hkp, hxl, hxm⟩ := hqp
    have hsz : Y.heap.size ≤ W.heap.size := by
      obtain ⟨_, _, _, _, _, h5⟩ := hcl
      exact h5
    have hbw : Below w1.heap.size w1 W := by
      obtain ⟨_, _, _, _, h4, _⟩ := hcl
      exact h4
    obtain ⟨u0, u1⟩ := HUp.out W hbw
    have HNew := Lib.hid (mg_newest W _ keep _ pl hen (by omega) hsp hkp)
    have HEn := Lib.hid hen
    have HI0 : Hid (∀ V, Below W.heap.size W V → PrI keep bot pl pre w Y w1 W 0 V) := Lib.hid (fun V hV => ⟨ts0, by rw [hts]; simp, hcl.after hV (by have := HSz.out; omega) (Nat.le_refl _), .of_below hV, keeps_below' hV⟩)
    have HMul : Hid (pre.length * es.length ≤ 17179869184) := Lib.hid (Nat.le_trans (Nat.mul_le_mul (show pre.length ≤ 131072 by omega) hl) (by decide))
    have HTl : Hid (((pre.map Prod.fst).flatMap (prn1 keep bot)).length ≤ pre.length * es.length) := Lib.hid (by rw [← hts, List.length_map]; exact htl)
    have HTh : Hid (∀ k, k ≤ pl.length → ((pre.map Prod.fst).flatMap (prn1 keep bot)).length + k ≤ (pre ++ [(pl, (q, c))]).length * es.length) := Lib.hid (fun k hk => by
      have h1 := htl
      have h2 : ((pre.map Prod.fst).flatMap (prn1 keep bot)).length = ts0.length := by rw [← hts, List.length_map]
      rw [List.length_append, List.length_singleton, Nat.add_mul, Nat.one_mul, h2]
      omega)
    obtain ⟨hw1, hw2⟩ := end1_ways keep bot pl
    have hel := end1_le keep bot pl
    have hnl := newN_le keep pl
    have HPr : Hid (prn1 keep bot pl = pl.take (end1 keep bot pl)) := Lib.hid rfl
    obtain ⟨pp, pc, hpe, hlc2, hl472, hcm2, _⟩ := hen.form
    injection hpe with hpe1 _ hpe2
    subst hpe1 hpe2
    generalize hn : newN keep pl = n at *
    generalize hE : end1 keep bot pl = E at *
    have HXm := Lib.hid hxm
    clear hen hcl hsz hbw hts htl hsp hkp hn hE hxm
    -- the four ways to the piece's end
    have hways : (n < pl.length ∧ ∃ e, pl[n]? = some e ∧ ((e.gone = false ∧ E = n + 1) ∨ (e.gone = true ∧ bot = false ∧ E = n + 1) ∨ (e.gone = true ∧ bot = true ∧ E = n))) ∨ (pl.length ≤ n ∧ E = n) := by
      rcases Nat.lt_or_ge n pl.length with h | h
      · refine .inl ⟨h, pl[n], List.getElem?_eq_getElem h, ?_⟩
        have h9 := hw1 h _ (List.getElem?_eq_getElem h)
        cases hg : pl[n].gone
        · rw [hg] at h9
          exact .inl ⟨rfl, by simpa using h9⟩
        · rw [hg] at h9
          cases bot
          · exact .inr (.inl ⟨rfl, rfl, by simpa using h9⟩)
          · exact .inr (.inr ⟨rfl, rfl, by simpa using h9⟩)
      · exact .inr ⟨h, hw2 h⟩
    clear hw1 hw2
    have HD : Hid (∀ e, pl[n]? = some e → ∃ b1 off1, q = some ⟨b1, off1, none⟩ ∧ b1 < W.heap.size ∧ W.cell? ⟨b1, off1 + n * 4 + 2, none⟩ = some (.bool e.gone)) := Lib.hid (fun e he => by
      obtain ⟨b1, off1, q1, c1, h1, h2, _, _, _, _, h3, _⟩ := HEn.out.at_ he
      exact ⟨b1, off1, h1, h2, h3⟩)
    have HTo' := HEn.out.to_ (k := E) (by omega)
    obtain ⟨qt, ct, hto, hrun⟩ := HTo'
    have HTo := Lib.hid hto
    have HRun := Lib.hid hrun
    have HIE := Lib.hid hel
    clear hto hrun
    rcases hways with ⟨hlt2, e0, he0, ⟨hg, hE⟩ | ⟨hg, hb, hE⟩ | ⟨hg, hb, hE⟩⟩ | ⟨hge, hE⟩
    · obtain ⟨b1, off1, rfl, hb1, hd2⟩ := HD.out _ he0
      have HD2 := Lib.hid (And.intro hb1 hd2)
      have qn : decide ((n : Int) < (pl.length : Int)) = true := decide_eq_true (by omega)
      have qnn : decide (n < pl.length) = true := decide_eq_true hlt2
      rw [hg] at HD2
      have HE := Lib.hid hE
      clear hE hg hd2 hb1 he0 HD
      gi_wp2_with (refine ⟨trivial, ?_⟩
                   gi_at_call 37
                   refine (CallsIn.inRound l2 (callsIn_wide.2 HNew.out)).mono ?_
                   rintro r w2 ⟨rfl, hb2⟩
                   have f2 := (below_cells hb2 b1 _ HD2.out.1).trans HD2.out.2
                   have f3 := (hb2.cell (p := ⟨w.heap.size + 1, 0, none⟩) (cell_lt u1)).trans u1
                   have hrun : ∀ V, (Instr.slice 26 (.slice (some ⟨b1, off1, none⟩) pl.length c) none (some (.int .i64 ((n : Int) + 1))) none).run Try.prog V = .ok (.slice qt E ct) V := (fun V => by
                     have h9 := HRun.out V
                     rw [HE.out] at h9 ⊢
                     exact h9)
                   have HB2 := Lib.hid hb2
                   clear hb2)
      gi_loopw [43] (fun i wr => ∃ k : Nat, k ≤ E ∧ i = .int .i64 (k : Int) ∧ PrI keep bot pl pre w Y w1 W k wr) (fun i _ => E - (intOf i).toNat)
      case atStart => exact ⟨0, by omega, rfl, HI0.out _ HB2.out⟩
      case round =>
        obtain ⟨k, hk, rfl, ts, htk, hcl, hkp, hkf⟩ := hrel
        obtain ⟨wr0, hwr0⟩ : ∃ wr0 : World, wr0 = wr := ⟨_, rfl⟩
        subst hwr0
        have HCl := Lib.hid hcl
        have HTs := Lib.hid htk
        have HKp := Lib.hid hkp
        have HKf := Lib.hid hkf
        by_cases hlt3 : k < E
        · have hkl : k < pl.length := by have := HIE.out; omega
          obtain ⟨vb, hbx, hrow, hq2, hbw2, hsz2⟩ := hcl
          obtain ⟨po, co, rfl, ho1, ho2⟩ := row_shape hrow
          have hto2 : En wr0 (fun k => k < w.heap.size) (.slice qt E ct) (pl.take E) := HTo.out.step hkp.fr (fun j hj hF e => e.elim (fun e => by have := HSz.out; omega) (fun hle => by have := HSz.out; omega))
          obtain ⟨b3, off3, q3, c3, rfl, hb3, _, hV3, d0, d1, d2, d3⟩ := hto2.at_ (k := k) (e := pl[k]) (by rw [List.getElem?_take_of_lt hlt3, List.getElem?_eq_getElem hkl])
          have hfx := HFit.out _ (HXm.out _ (List.getElem_mem hkl))
          have HTk : Hid (pl.take (k + 1) = pl.take k ++ [pl[k]]) := Lib.hid (take_snoc pl k _ (List.getElem?_eq_getElem hkl))
          generalize pl[k] = e at *
          obtain ⟨X1, hX1⟩ : ∃ X1, wr0.alloc (.cells #[.string ⟨e.key.toArray⟩, .int .u64 (e.seq : Int), .bool e.gone, .slice q3 e.val.length c3] 33) = X1 := ⟨_, rfl⟩
          have hbX1 : Below wr0.heap.size wr0 X1 := by rw [← hX1]; exact (Below.refl _ _).alloc (Nat.le_refl _) _
          have hX1b : X1.heap[wr0.heap.size]? = some (.cells #[.string ⟨e.key.toArray⟩, .int .u64 (e.seq : Int), .bool e.gone, .slice q3 e.val.length c3] 33 (0, 0)) := by rw [← hX1]; exact heap_alloc_new wr0 _
          have m0 := cell_of (i := 0) hX1b rfl
          have m1 := cell_of (i := 1) hX1b rfl
          have m2 := cell_of (i := 2) hX1b rfl
          have m3 := cell_of (i := 3) hX1b rfl
          have HMb := Lib.hid hX1b
          have hx1 := ((hbX1.block _ hbx.lt).trans hbx)
          have x0 := cell_of (i := 0) hx1 rfl
          have HBXd : Hid (Below wr0.heap.size wr0 X1.drew) := Lib.hid (below_drew hbX1)
          have HOwn : Hid (∀ V, Below wr0.heap.size wr0 V → Calls Try.prog 34 #[.agg #[.string ⟨e.key.toArray⟩, .int .u64 (e.seq : Int), .bool e.gone, .slice q3 e.val.length c3]] V fun r w' => ∃ p k, r = .returned (.agg #[.string ⟨e.key.toArray⟩, .int .u64 (e.seq : Int), .bool e.gone, .slice p e.val.length k]) ∧
              Own w' V.heap.size (.slice p e.val.length k) e.val ∧ Below V.heap.size V w') := Lib.hid (fun V hV => mg_own V _ e q3 c3 hfx (hV3.below hV))
          have HBx := Lib.hid hbx
          have HRow := Lib.hid hrow
          have HQ2 := Lib.hid hq2
          have HBw2 := Lib.hid hbw2
          have HSz3 := Lib.hid hsz2
          have HLn : Hid (ts.length + 1 ≤ 68719476736) := Lib.hid (by
            have h1 : ts.length = ((pre.map Prod.fst).flatMap (prn1 keep bot)).length + k := by
              have := congrArg List.length HTs.out
              rw [List.length_map, List.length_append, List.length_take] at this
              omega
            have := HTl.out
            have := HMul.out
            omega)
          clear htk hkp hkf hbx hrow hq2 hbw2 hsz2 hto2 hb3 hV3 hbX1 hX1b hx1 hfx hrun
          gi_wp2
          refine region_round (by kernel_rfl) (by kernel_rfl) ?_
          refine wpAny_ready (rs := [0, 1]) (by kernel_rfl) (by simp) (AllReady.cons rfl (fun K hK => ?_) (AllReady.cons rfl (fun K hK => ?_) (AllReady.nil)))
          · go_simp
            refine hK _ _ ?_
            clear hK K
            refine wpAny_ready (rs := [1]) (by kernel_rfl) (by simp) (AllReady.cons rfl (fun K hK => ?_) (AllReady.nil))
            go_simp
            refine hK _ _ ?_
            clear hK K
            refine wpAny_ready (rs := [2]) (by kernel_rfl) (by simp) (AllReady.cons rfl (fun K hK => ?_) (AllReady.nil))
            go_simp
            refine (HOwn.out _ HBXd.out).mono ?_
            rintro r w3 ⟨p3, k3, rfl, ho3, hb3'⟩
            have hb3 : Below wr0.heap.size wr0 w3 := HBXd.out.trans (hb3'.mono HBXd.out.size)
            obtain ⟨X3, hX3⟩ : ∃ X3, w3.alloc (.cells #[.string ⟨e.key.toArray⟩, .int .u64 (e.seq : Int), .bool e.gone, .slice p3 e.val.length k3] 33) = X3 := ⟨_, rfl⟩
            have hbX : Below wr0.heap.size wr0 X3 := (by rw [← hX3]; exact hb3.alloc hb3.size _)
            have hx3 := ((hb3.block _ HBx.out.lt).trans HBx.out)
            have x3 := cell_of (i := 0) hx3 rfl
            have hxX := ((hbX.block _ HBx.out.lt).trans HBx.out)
            have xX := cell_of (i := 0) hxX rfl
            have HXX := Lib.hid hxX
            have HRX : Hid (X3.ownsRow Y.heap.size 33 4 (.slice po ts.length co) ts.length (cellsE (ts.map Prod.fst) (ts.map TEnt.u))) := Lib.hid (row_keep HRow.out fun k hk => hbX.block k (row_lt HRow.out k hk))
            have HCX : Hid (Cl X3 (fun k => k = w3.heap.size) (.slice (some ⟨w3.heap.size, 0, none⟩) 1 1) 1 (cellsE [e] [.slice p3 e.val.length k3])) := Lib.hid (by
              have h9 := Cl.new w3 (fun k => k = w3.heap.size) 1 (cellsE [e] [.slice p3 e.val.length k3]) #[.string ⟨e.key.toArray⟩, .int .u64 (e.seq : Int), .bool e.gone, .slice p3 e.val.length k3] 33 rfl (by omega) rfl
              rw [hX3] at h9
              exact h9)
            have HSzX : Hid (Y.heap.size ≤ X3.heap.size) := Lib.hid (Nat.le_trans HSz3.out hbX.size)
            have HOne : Hid (∀ x ∈ cellsE [e] [.slice p3 e.val.length k3], x.oneCell' = true) := Lib.hid (cellsE_one _ _ (by simp [Value.oneCell']))
            have HBX := Lib.hid hbX
            have HO3 : Hid (Own X3 wr0.heap.size (.slice p3 e.val.length k3) e.val) := Lib.hid (by rw [← hX3]; exact (ho3.alloc _).more HBXd.out.size)
            clear hb3 hb3' ho3 hbX hx3 hxX
            dsimp only
            refine hK _ _ ?_
            clear hK K
            refine wpAny_ready (rs := [3]) (by kernel_rfl) (by simp) (AllReady.cons rfl (fun K hK => ?_) (AllReady.nil))
            go_simp
            refine hK _ _ ?_
            clear hK K
            refine wpAny_ready (rs := [4]) (by kernel_rfl) (by simp) (AllReady.cons rfl (fun K hK => ?_) (AllReady.nil))
            rw [if_pos (by rfl)]
            refine slEnt.wp_append (.tmp 47) (.tmp 50) rfl Y.heap.size (v := .slice po ts.length co) (u := .slice (some ⟨w3.heap.size, 0, none⟩) 1 1) rfl rfl HRX.out HCX.out rfl HOne.out HLn.out HSzX.out ?_
            intro v4 w4 ho4 hg4 _
            obtain ⟨p9, c9, rfl, _, _⟩ := row_shape ho4
            have hb4 : Below Y.heap.size X3 w4 := (Below.refl _ X3).grown hg4 HSzX.out (row_low HRX.out)
            have hx4 := ((hb4.block w1.heap.size (by have := HSz.out; omega)).trans HXX.out)
            have x4 := cell_of (i := 0) hx4 rfl
            have z4 := frozen_of (i := 0) hx4
            have HFin : Hid (PrI keep bot pl pre w Y w1 W (k + 1) (w4.setCell ⟨w1.heap.size, 0, none⟩ (.slice p9 (ts.length + 1) c9))) := Lib.hid (by
              have hq9 : ∀ y ∈ ts, QT (fun k => w.heap.size ≤ k) y X3 := fun y hy => (HQ2.out y hy).keep (fun j hj => by
                obtain ⟨cur, hcu⟩ := (HQ2.out y hy).1.heap hj
                exact HBX.out.block j (block_lt hcu)) (fun _ _ hs => hs)
              have hx9 : QT (fun k => w.heap.size ≤ k) (e, (p3, k3)) X3 := ⟨HO3.out.low, fun j hj => by have := HO3.out.block j hj; have := HSz.out; have := HSz3.out; omega⟩
              obtain ⟨k1, k2, k4⟩ := coll_add (x := (e, (p3, k3))) HXX.out HRX.out hq9 hx9 (HBw2.out.trans (HBX.out.mono HBw2.out.size)) HSzX.out (by have := HSz.out; omega) ho4 hg4
              exact ⟨ts ++ [(e, (p3, k3))], by rw [List.map_append, HTs.out, HTk.out, List.append_assoc]; rfl, k1, (HKp.out.trans (KpE.of_below HBX.out)).trans k2, (HKf.out.trans (keeps_below' HBX.out)).trans (k4 _)⟩)
            clear ho4 hg4 hb4 hx4
            refine hK _ _ ?_
            clear hK K
            refine wpAny_ready (rs := [5]) (by kernel_rfl) (by simp) (AllReady.cons rfl (fun K hK => ?_) (AllReady.nil))
            go_simp
            refine hK _ _ ?_
            clear hK K
            refine wpAny_done (by kernel_rfl) ?_ _
            refine ⟨rfl, ?_⟩
            gi_wp2
            go_roundw
            case rel => exact ⟨k + 1, by omega, by go_num, HFin.out⟩
            case measure => simp [intOf]; omega
          · go_simp
            refine hK _ _ ?_
            clear hK K
            refine wpAny_ready (rs := [0, 2]) (by kernel_rfl) (by simp) (AllReady.cons rfl (fun K hK => ?_) (AllReady.cons rfl (fun K hK => ?_) (AllReady.nil)))
            · go_simp
              refine hK _ _ ?_
              clear hK K
              refine wpAny_ready (rs := [2]) (by kernel_rfl) (by simp) (AllReady.cons rfl (fun K hK => ?_) (AllReady.nil))
              go_simp
              refine (HOwn.out _ HBXd.out).mono ?_
              rintro r w3 ⟨p3, k3, rfl, ho3, hb3'⟩
              have hb3 : Below wr0.heap.size wr0 w3 := HBXd.out.trans (hb3'.mono HBXd.out.size)
              obtain ⟨X3, hX3⟩ : ∃ X3, w3.alloc (.cells #[.string ⟨e.key.toArray⟩, .int .u64 (e.seq : Int), .bool e.gone, .slice p3 e.val.length k3] 33) = X3 := ⟨_, rfl⟩
              have hbX : Below wr0.heap.size wr0 X3 := (by rw [← hX3]; exact hb3.alloc hb3.size _)
              have hx3 := ((hb3.block _ HBx.out.lt).trans HBx.out)
              have x3 := cell_of (i := 0) hx3 rfl
              have hxX := ((hbX.block _ HBx.out.lt).trans HBx.out)
              have xX := cell_of (i := 0) hxX rfl
              have HXX := Lib.hid hxX
              have HRX : Hid (X3.ownsRow Y.heap.size 33 4 (.slice po ts.length co) ts.length (cellsE (ts.map Prod.fst) (ts.map TEnt.u))) := Lib.hid (row_keep HRow.out fun k hk => hbX.block k (row_lt HRow.out k hk))
              have HCX : Hid (Cl X3 (fun k => k = w3.heap.size) (.slice (some ⟨w3.heap.size, 0, none⟩) 1 1) 1 (cellsE [e] [.slice p3 e.val.length k3])) := Lib.hid (by
                have h9 := Cl.new w3 (fun k => k = w3.heap.size) 1 (cellsE [e] [.slice p3 e.val.length k3]) #[.string ⟨e.key.toArray⟩, .int .u64 (e.seq : Int), .bool e.gone, .slice p3 e.val.length k3] 33 rfl (by omega) rfl
                rw [hX3] at h9
                exact h9)
              have HSzX : Hid (Y.heap.size ≤ X3.heap.size) := Lib.hid (Nat.le_trans HSz3.out hbX.size)
              have HOne : Hid (∀ x ∈ cellsE [e] [.slice p3 e.val.length k3], x.oneCell' = true) := Lib.hid (cellsE_one _ _ (by simp [Value.oneCell']))
              have HBX := Lib.hid hbX
              have HO3 : Hid (Own X3 wr0.heap.size (.slice p3 e.val.length k3) e.val) := Lib.hid (by rw [← hX3]; exact (ho3.alloc _).more HBXd.out.size)
              clear hb3 hb3' ho3 hbX hx3 hxX
              dsimp only
              refine hK _ _ ?_
              clear hK K
              refine wpAny_ready (rs := [3]) (by kernel_rfl) (by simp) (AllReady.cons rfl (fun K hK => ?_) (AllReady.nil))
              go_simp
              refine hK _ _ ?_
              clear hK K
              refine wpAny_ready (rs := [4]) (by kernel_rfl) (by simp) (AllReady.cons rfl (fun K hK => ?_) (AllReady.nil))
              rw [if_pos (by rfl)]
              refine slEnt.wp_append (.tmp 47) (.tmp 50) rfl Y.heap.size (v := .slice po ts.length co) (u := .slice (some ⟨w3.heap.size, 0, none⟩) 1 1) rfl rfl HRX.out HCX.out rfl HOne.out HLn.out HSzX.out ?_
              intro v4 w4 ho4 hg4 _
              obtain ⟨p9, c9, rfl, _, _⟩ := row_shape ho4
              have hb4 : Below Y.heap.size X3 w4 := (Below.refl _ X3).grown hg4 HSzX.out (row_low HRX.out)
              have hx4 := ((hb4.block w1.heap.size (by have := HSz.out; omega)).trans HXX.out)
              have x4 := cell_of (i := 0) hx4 rfl
              have z4 := frozen_of (i := 0) hx4
              have HFin : Hid (PrI keep bot pl pre w Y w1 W (k + 1) (w4.setCell ⟨w1.heap.size, 0, none⟩ (.slice p9 (ts.length + 1) c9))) := Lib.hid (by
                have hq9 : ∀ y ∈ ts, QT (fun k => w.heap.size ≤ k) y X3 := fun y hy => (HQ2.out y hy).keep (fun j hj => by
                  obtain ⟨cur, hcu⟩ := (HQ2.out y hy).1.heap hj
                  exact HBX.out.block j (block_lt hcu)) (fun _ _ hs => hs)
                have hx9 : QT (fun k => w.heap.size ≤ k) (e, (p3, k3)) X3 := ⟨HO3.out.low, fun j hj => by have := HO3.out.block j hj; have := HSz.out; have := HSz3.out; omega⟩
                obtain ⟨k1, k2, k4⟩ := coll_add (x := (e, (p3, k3))) HXX.out HRX.out hq9 hx9 (HBw2.out.trans (HBX.out.mono HBw2.out.size)) HSzX.out (by have := HSz.out; omega) ho4 hg4
                exact ⟨ts ++ [(e, (p3, k3))], by rw [List.map_append, HTs.out, HTk.out, List.append_assoc]; rfl, k1, (HKp.out.trans (KpE.of_below HBX.out)).trans k2, (HKf.out.trans (keeps_below' HBX.out)).trans (k4 _)⟩)
              clear ho4 hg4 hb4 hx4
              refine hK _ _ ?_
              clear hK K
              refine wpAny_ready (rs := [5]) (by kernel_rfl) (by simp) (AllReady.cons rfl (fun K hK => ?_) (AllReady.nil))
              go_simp
              refine hK _ _ ?_
              clear hK K
              refine wpAny_done (by kernel_rfl) ?_ _
              refine ⟨rfl, ?_⟩
              gi_wp2
              go_roundw
              case rel => exact ⟨k + 1, by omega, by go_num, HFin.out⟩
              case measure => simp [intOf]; omega
            · go_simp
              refine (HOwn.out _ HBXd.out).mono ?_
              rintro r w3 ⟨p3, k3, rfl, ho3, hb3'⟩
              have hb3 : Below wr0.heap.size wr0 w3 := HBXd.out.trans (hb3'.mono HBXd.out.size)
              obtain ⟨X3, hX3⟩ : ∃ X3, w3.alloc (.cells #[.string ⟨e.key.toArray⟩, .int .u64 (e.seq : Int), .bool e.gone, .slice p3 e.val.length k3] 33) = X3 := ⟨_, rfl⟩
              have hbX : Below wr0.heap.size wr0 X3 := (by rw [← hX3]; exact hb3.alloc hb3.size _)
              have hx3 := ((hb3.block _ HBx.out.lt).trans HBx.out)
              have x3 := cell_of (i := 0) hx3 rfl
              have hxX := ((hbX.block _ HBx.out.lt).trans HBx.out)
              have xX := cell_of (i := 0) hxX rfl
              have HXX := Lib.hid hxX
              have HRX : Hid (X3.ownsRow Y.heap.size 33 4 (.slice po ts.length co) ts.length (cellsE (ts.map Prod.fst) (ts.map TEnt.u))) := Lib.hid (row_keep HRow.out fun k hk => hbX.block k (row_lt HRow.out k hk))
              have HCX : Hid (Cl X3 (fun k => k = w3.heap.size) (.slice (some ⟨w3.heap.size, 0, none⟩) 1 1) 1 (cellsE [e] [.slice p3 e.val.length k3])) := Lib.hid (by
                have h9 := Cl.new w3 (fun k => k = w3.heap.size) 1 (cellsE [e] [.slice p3 e.val.length k3]) #[.string ⟨e.key.toArray⟩, .int .u64 (e.seq : Int), .bool e.gone, .slice p3 e.val.length k3] 33 rfl (by omega) rfl
                rw [hX3] at h9
                exact h9)
              have HSzX : Hid (Y.heap.size ≤ X3.heap.size) := Lib.hid (Nat.le_trans HSz3.out hbX.size)
              have HOne : Hid (∀ x ∈ cellsE [e] [.slice p3 e.val.length k3], x.oneCell' = true) := Lib.hid (cellsE_one _ _ (by simp [Value.oneCell']))
              have HBX := Lib.hid hbX
              have HO3 : Hid (Own X3 wr0.heap.size (.slice p3 e.val.length k3) e.val) := Lib.hid (by rw [← hX3]; exact (ho3.alloc _).more HBXd.out.size)
              clear hb3 hb3' ho3 hbX hx3 hxX
              dsimp only
              refine hK _ _ ?_
              clear hK K
              refine wpAny_ready (rs := [0, 3]) (by kernel_rfl) (by simp) (AllReady.cons rfl (fun K hK => ?_) (AllReady.cons rfl (fun K hK => ?_) (AllReady.nil)))
              · go_simp
                refine hK _ _ ?_
                clear hK K
                refine wpAny_ready (rs := [3]) (by kernel_rfl) (by simp) (AllReady.cons rfl (fun K hK => ?_) (AllReady.nil))
                go_simp
                refine hK _ _ ?_
                clear hK K
                refine wpAny_ready (rs := [4]) (by kernel_rfl) (by simp) (AllReady.cons rfl (fun K hK => ?_) (AllReady.nil))
                rw [if_pos (by rfl)]
                refine slEnt.wp_append (.tmp 47) (.tmp 50) rfl Y.heap.size (v := .slice po ts.length co) (u := .slice (some ⟨w3.heap.size, 0, none⟩) 1 1) rfl rfl HRX.out HCX.out rfl HOne.out HLn.out HSzX.out ?_
                intro v4 w4 ho4 hg4 _
                obtain ⟨p9, c9, rfl, _, _⟩ := row_shape ho4
                have hb4 : Below Y.heap.size X3 w4 := (Below.refl _ X3).grown hg4 HSzX.out (row_low HRX.out)
                have hx4 := ((hb4.block w1.heap.size (by have := HSz.out; omega)).trans HXX.out)
                have x4 := cell_of (i := 0) hx4 rfl
                have z4 := frozen_of (i := 0) hx4
                have HFin : Hid (PrI keep bot pl pre w Y w1 W (k + 1) (w4.setCell ⟨w1.heap.size, 0, none⟩ (.slice p9 (ts.length + 1) c9))) := Lib.hid (by
                  have hq9 : ∀ y ∈ ts, QT (fun k => w.heap.size ≤ k) y X3 := fun y hy => (HQ2.out y hy).keep (fun j hj => by
                    obtain ⟨cur, hcu⟩ := (HQ2.out y hy).1.heap hj
                    exact HBX.out.block j (block_lt hcu)) (fun _ _ hs => hs)
                  have hx9 : QT (fun k => w.heap.size ≤ k) (e, (p3, k3)) X3 := ⟨HO3.out.low, fun j hj => by have := HO3.out.block j hj; have := HSz.out; have := HSz3.out; omega⟩
                  obtain ⟨k1, k2, k4⟩ := coll_add (x := (e, (p3, k3))) HXX.out HRX.out hq9 hx9 (HBw2.out.trans (HBX.out.mono HBw2.out.size)) HSzX.out (by have := HSz.out; omega) ho4 hg4
                  exact ⟨ts ++ [(e, (p3, k3))], by rw [List.map_append, HTs.out, HTk.out, List.append_assoc]; rfl, k1, (HKp.out.trans (KpE.of_below HBX.out)).trans k2, (HKf.out.trans (keeps_below' HBX.out)).trans (k4 _)⟩)
                clear ho4 hg4 hb4 hx4
                refine hK _ _ ?_
                clear hK K
                refine wpAny_ready (rs := [5]) (by kernel_rfl) (by simp) (AllReady.cons rfl (fun K hK => ?_) (AllReady.nil))
                go_simp
                refine hK _ _ ?_
                clear hK K
                refine wpAny_done (by kernel_rfl) ?_ _
                refine ⟨rfl, ?_⟩
                gi_wp2
                go_roundw
                case rel => exact ⟨k + 1, by omega, by go_num, HFin.out⟩
                case measure => simp [intOf]; omega
              · go_simp
                refine hK _ _ ?_
                clear hK K
                refine wpAny_ready (rs := [0]) (by kernel_rfl) (by simp) (AllReady.cons rfl (fun K hK => ?_) (AllReady.nil))
                go_simp
                refine hK _ _ ?_
                clear hK K
                refine wpAny_ready (rs := [4]) (by kernel_rfl) (by simp) (AllReady.cons rfl (fun K hK => ?_) (AllReady.nil))
                rw [if_pos (by rfl)]
                refine slEnt.wp_append (.tmp 47) (.tmp 50) rfl Y.heap.size (v := .slice po ts.length co) (u := .slice (some ⟨w3.heap.size, 0, none⟩) 1 1) rfl rfl HRX.out HCX.out rfl HOne.out HLn.out HSzX.out ?_
                intro v4 w4 ho4 hg4 _
                obtain ⟨p9, c9, rfl, _, _⟩ := row_shape ho4
                have hb4 : Below Y.heap.size X3 w4 := (Below.refl _ X3).grown hg4 HSzX.out (row_low HRX.out)
                have hx4 := ((hb4.block w1.heap.size (by have := HSz.out; omega)).trans HXX.out)
                have x4 := cell_of (i := 0) hx4 rfl
                have z4 := frozen_of (i := 0) hx4
                have HFin : Hid (PrI keep bot pl pre w Y w1 W (k + 1) (w4.setCell ⟨w1.heap.size, 0, none⟩ (.slice p9 (ts.length + 1) c9))) := Lib.hid (by
                  have hq9 : ∀ y ∈ ts, QT (fun k => w.heap.size ≤ k) y X3 := fun y hy => (HQ2.out y hy).keep (fun j hj => by
                    obtain ⟨cur, hcu⟩ := (HQ2.out y hy).1.heap hj
                    exact HBX.out.block j (block_lt hcu)) (fun _ _ hs => hs)
                  have hx9 : QT (fun k => w.heap.size ≤ k) (e, (p3, k3)) X3 := ⟨HO3.out.low, fun j hj => by have := HO3.out.block j hj; have := HSz.out; have := HSz3.out; omega⟩
                  obtain ⟨k1, k2, k4⟩ := coll_add (x := (e, (p3, k3))) HXX.out HRX.out hq9 hx9 (HBw2.out.trans (HBX.out.mono HBw2.out.size)) HSzX.out (by have := HSz.out; omega) ho4 hg4
                  exact ⟨ts ++ [(e, (p3, k3))], by rw [List.map_append, HTs.out, HTk.out, List.append_assoc]; rfl, k1, (HKp.out.trans (KpE.of_below HBX.out)).trans k2, (HKf.out.trans (keeps_below' HBX.out)).trans (k4 _)⟩)
                clear ho4 hg4 hb4 hx4
                refine hK _ _ ?_
                clear hK K
                refine wpAny_ready (rs := [5]) (by kernel_rfl) (by simp) (AllReady.cons rfl (fun K hK => ?_) (AllReady.nil))
                go_simp
                refine hK _ _ ?_
                clear hK K
                refine wpAny_done (by kernel_rfl) ?_ _
                refine ⟨rfl, ?_⟩
                gi_wp2
                go_roundw
                case rel => exact ⟨k + 1, by omega, by go_num, HFin.out⟩
                case measure => simp [intOf]; omega
        · obtain rfl : k = E := by omega
          have HFinE : Hid (KeepsFrom Y.heap.size W wr0 ∧ KpE (fun k => k = w1.heap.size) Y.heap.size W wr0 ∧ PrC keep bot es (fun k => w.heap.size ≤ k) w1.heap.size Y.heap.size w1 (pre ++ [(pl, ((some ⟨b1, off1, none⟩), c))]) wr0) := Lib.hid (by
            have hts9 : ts.map Prod.fst = ((pre ++ [((pl, ((some ⟨b1, off1, none⟩), c)) : Pc)]).map Prod.fst).flatMap (prn1 keep bot) := by
              rw [HTs.out, List.map_append, List.flatMap_append]
              simp [HPr.out]
            refine ⟨hkf, hkp, ts, hts9, ?_, HCl.out⟩
            have h1 := HTh.out k HIE.out
            have h2 := congrArg List.length HTs.out
            rw [List.length_map, List.length_append, List.length_take] at h2
            have := HIE.out
            omega)
          clear htk hcl hkp hkf
          gi_wp2
          exact HFinE.out
    · obtain ⟨b1, off1, rfl, hb1, hd2⟩ := HD.out _ he0
      have HD2 := Lib.hid (And.intro hb1 hd2)
      have qn : decide ((n : Int) < (pl.length : Int)) = true := decide_eq_true (by omega)
      have qnn : decide (n < pl.length) = true := decide_eq_true hlt2
      subst hb
      rw [hg] at HD2
      have HE := Lib.hid hE
      clear hE hg hd2 hb1 he0 HD
      gi_wp2_with (refine ⟨trivial, ?_⟩
                   gi_at_call 37
                   refine (CallsIn.inRound l2 (callsIn_wide.2 HNew.out)).mono ?_
                   rintro r w2 ⟨rfl, hb2⟩
                   have f2 := (below_cells hb2 b1 _ HD2.out.1).trans HD2.out.2
                   have f3 := (hb2.cell (p := ⟨w.heap.size + 1, 0, none⟩) (cell_lt u1)).trans u1
                   have hrun : ∀ V, (Instr.slice 26 (.slice (some ⟨b1, off1, none⟩) pl.length c) none (some (.int .i64 ((n : Int) + 1))) none).run Try.prog V = .ok (.slice qt E ct) V := (fun V => by
                     have h9 := HRun.out V
                     rw [HE.out] at h9 ⊢
                     exact h9)
                   have HB2 := Lib.hid hb2
                   clear hb2)
      gi_loopw [43] (fun i wr => ∃ k : Nat, k ≤ E ∧ i = .int .i64 (k : Int) ∧ PrI keep false pl pre w Y w1 W k wr) (fun i _ => E - (intOf i).toNat)
      case atStart => exact ⟨0, by omega, rfl, HI0.out _ HB2.out⟩
      case round =>
        obtain ⟨k, hk, rfl, ts, htk, hcl, hkp, hkf⟩ := hrel
        obtain ⟨wr0, hwr0⟩ : ∃ wr0 : World, wr0 = wr := ⟨_, rfl⟩
        subst hwr0
        have HCl := Lib.hid hcl
        have HTs := Lib.hid htk
        have HKp := Lib.hid hkp
        have HKf := Lib.hid hkf
        by_cases hlt3 : k < E
        · have hkl : k < pl.length := by have := HIE.out; omega
          obtain ⟨vb, hbx, hrow, hq2, hbw2, hsz2⟩ := hcl
          obtain ⟨po, co, rfl, ho1, ho2⟩ := row_shape hrow
          have hto2 : En wr0 (fun k => k < w.heap.size) (.slice qt E ct) (pl.take E) := HTo.out.step hkp.fr (fun j hj hF e => e.elim (fun e => by have := HSz.out; omega) (fun hle => by have := HSz.out; omega))
          obtain ⟨b3, off3, q3, c3, rfl, hb3, _, hV3, d0, d1, d2, d3⟩ := hto2.at_ (k := k) (e := pl[k]) (by rw [List.getElem?_take_of_lt hlt3, List.getElem?_eq_getElem hkl])
          have hfx := HFit.out _ (HXm.out _ (List.getElem_mem hkl))
          have HTk : Hid (pl.take (k + 1) = pl.take k ++ [pl[k]]) := Lib.hid (take_snoc pl k _ (List.getElem?_eq_getElem hkl))
          generalize pl[k] = e at *
          obtain ⟨X1, hX1⟩ : ∃ X1, wr0.alloc (.cells #[.string ⟨e.key.toArray⟩, .int .u64 (e.seq : Int), .bool e.gone, .slice q3 e.val.length c3] 33) = X1 := ⟨_, rfl⟩
          have hbX1 : Below wr0.heap.size wr0 X1 := by rw [← hX1]; exact (Below.refl _ _).alloc (Nat.le_refl _) _
          have hX1b : X1.heap[wr0.heap.size]? = some (.cells #[.string ⟨e.key.toArray⟩, .int .u64 (e.seq : Int), .bool e.gone, .slice q3 e.val.length c3] 33 (0, 0)) := by rw [← hX1]; exact heap_alloc_new wr0 _
          have m0 := cell_of (i := 0) hX1b rfl
          have m1 := cell_of (i := 1) hX1b rfl
          have m2 := cell_of (i := 2) hX1b rfl
          have m3 := cell_of (i := 3) hX1b rfl
          have HMb := Lib.hid hX1b
          have hx1 := ((hbX1.block _ hbx.lt).trans hbx)
          have x0 := cell_of (i := 0) hx1 rfl
          have HBXd : Hid (Below wr0.heap.size wr0 X1.drew) := Lib.hid (below_drew hbX1)
          have HOwn : Hid (∀ V, Below wr0.heap.size wr0 V → Calls Try.prog 34 #[.agg #[.string ⟨e.key.toArray⟩, .int .u64 (e.seq : Int), .bool e.gone, .slice q3 e.val.length c3]] V fun r w' => ∃ p k, r = .returned (.agg #[.string ⟨e.key.toArray⟩, .int .u64 (e.seq : Int), .bool e.gone, .slice p e.val.length k]) ∧
              Own w' V.heap.size (.slice p e.val.length k) e.val ∧ Below V.heap.size V w') := Lib.hid (fun V hV => mg_own V _ e q3 c3 hfx (hV3.below hV))
          have HBx := Lib.hid hbx
          have HRow := Lib.hid hrow
          have HQ2 := Lib.hid hq2
          have HBw2 := Lib.hid hbw2
          have HSz3 := Lib.hid hsz2
          have HLn : Hid (ts.length + 1 ≤ 68719476736) := Lib.hid (by
            have h1 : ts.length = ((pre.map Prod.fst).flatMap (prn1 keep false)).length + k := by
              have := congrArg List.length HTs.out
              rw [List.length_map, List.length_append, List.length_take] at this
              omega
            have := HTl.out
            have := HMul.out
            omega)
          clear htk hkp hkf hbx hrow hq2 hbw2 hsz2 hto2 hb3 hV3 hbX1 hX1b hx1 hfx hrun
          gi_wp2
          refine region_round (by kernel_rfl) (by kernel_rfl) ?_
          refine wpAny_ready (rs := [0, 1]) (by kernel_rfl) (by simp) (AllReady.cons rfl (fun K hK => ?_) (AllReady.cons rfl (fun K hK => ?_) (AllReady.nil)))
          · go_simp
            refine hK _ _ ?_
            clear hK K
            refine wpAny_ready (rs := [1]) (by kernel_rfl) (by simp) (AllReady.cons rfl (fun K hK => ?_) (AllReady.nil))
            go_simp
            refine hK _ _ ?_
            clear hK K
            refine wpAny_ready (rs := [2]) (by kernel_rfl) (by simp) (AllReady.cons rfl (fun K hK => ?_) (AllReady.nil))
            go_simp
            refine (HOwn.out _ HBXd.out).mono ?_
            rintro r w3 ⟨p3, k3, rfl, ho3, hb3'⟩
            have hb3 : Below wr0.heap.size wr0 w3 := HBXd.out.trans (hb3'.mono HBXd.out.size)
            obtain ⟨X3, hX3⟩ : ∃ X3, w3.alloc (.cells #[.string ⟨e.key.toArray⟩, .int .u64 (e.seq : Int), .bool e.gone, .slice p3 e.val.length k3] 33) = X3 := ⟨_, rfl⟩
            have hbX : Below wr0.heap.size wr0 X3 := (by rw [← hX3]; exact hb3.alloc hb3.size _)
            have hx3 := ((hb3.block _ HBx.out.lt).trans HBx.out)
            have x3 := cell_of (i := 0) hx3 rfl
            have hxX := ((hbX.block _ HBx.out.lt).trans HBx.out)
            have xX := cell_of (i := 0) hxX rfl
            have HXX := Lib.hid hxX
            have HRX : Hid (X3.ownsRow Y.heap.size 33 4 (.slice po ts.length co) ts.length (cellsE (ts.map Prod.fst) (ts.map TEnt.u))) := Lib.hid (row_keep HRow.out fun k hk => hbX.block k (row_lt HRow.out k hk))
            have HCX : Hid (Cl X3 (fun k => k = w3.heap.size) (.slice (some ⟨w3.heap.size, 0, none⟩) 1 1) 1 (cellsE [e] [.slice p3 e.val.length k3])) := Lib.hid (by
              have h9 := Cl.new w3 (fun k => k = w3.heap.size) 1 (cellsE [e] [.slice p3 e.val.length k3]) #[.string ⟨e.key.toArray⟩, .int .u64 (e.seq : Int), .bool e.gone, .slice p3 e.val.length k3] 33 rfl (by omega) rfl
              rw [hX3] at h9
              exact h9)
            have HSzX : Hid (Y.heap.size ≤ X3.heap.size) := Lib.hid (Nat.le_trans HSz3.out hbX.size)
            have HOne : Hid (∀ x ∈ cellsE [e] [.slice p3 e.val.length k3], x.oneCell' = true) := Lib.hid (cellsE_one _ _ (by simp [Value.oneCell']))
            have HBX := Lib.hid hbX
            have HO3 : Hid (Own X3 wr0.heap.size (.slice p3 e.val.length k3) e.val) := Lib.hid (by rw [← hX3]; exact (ho3.alloc _).more HBXd.out.size)
            clear hb3 hb3' ho3 hbX hx3 hxX
            dsimp only
            refine hK _ _ ?_
            clear hK K
            refine wpAny_ready (rs := [3]) (by kernel_rfl) (by simp) (AllReady.cons rfl (fun K hK => ?_) (AllReady.nil))
            go_simp
            refine hK _ _ ?_
            clear hK K
            refine wpAny_ready (rs := [4]) (by kernel_rfl) (by simp) (AllReady.cons rfl (fun K hK => ?_) (AllReady.nil))
            rw [if_pos (by rfl)]
            refine slEnt.wp_append (.tmp 47) (.tmp 50) rfl Y.heap.size (v := .slice po ts.length co) (u := .slice (some ⟨w3.heap.size, 0, none⟩) 1 1) rfl rfl HRX.out HCX.out rfl HOne.out HLn.out HSzX.out ?_
            intro v4 w4 ho4 hg4 _
            obtain ⟨p9, c9, rfl, _, _⟩ := row_shape ho4
            have hb4 : Below Y.heap.size X3 w4 := (Below.refl _ X3).grown hg4 HSzX.out (row_low HRX.out)
            have hx4 := ((hb4.block w1.heap.size (by have := HSz.out; omega)).trans HXX.out)
            have x4 := cell_of (i := 0) hx4 rfl
            have z4 := frozen_of (i := 0) hx4
            have HFin : Hid (PrI keep false pl pre w Y w1 W (k + 1) (w4.setCell ⟨w1.heap.size, 0, none⟩ (.slice p9 (ts.length + 1) c9))) := Lib.hid (by
              have hq9 : ∀ y ∈ ts, QT (fun k => w.heap.size ≤ k) y X3 := fun y hy => (HQ2.out y hy).keep (fun j hj => by
                obtain ⟨cur, hcu⟩ := (HQ2.out y hy).1.heap hj
                exact HBX.out.block j (block_lt hcu)) (fun _ _ hs => hs)
              have hx9 : QT (fun k => w.heap.size ≤ k) (e, (p3, k3)) X3 := ⟨HO3.out.low, fun j hj => by have := HO3.out.block j hj; have := HSz.out; have := HSz3.out; omega⟩
              obtain ⟨k1, k2, k4⟩ := coll_add (x := (e, (p3, k3))) HXX.out HRX.out hq9 hx9 (HBw2.out.trans (HBX.out.mono HBw2.out.size)) HSzX.out (by have := HSz.out; omega) ho4 hg4
              exact ⟨ts ++ [(e, (p3, k3))], by rw [List.map_append, HTs.out, HTk.out, List.append_assoc]; rfl, k1, (HKp.out.trans (KpE.of_below HBX.out)).trans k2, (HKf.out.trans (keeps_below' HBX.out)).trans (k4 _)⟩)
            clear ho4 hg4 hb4 hx4
            refine hK _ _ ?_
            clear hK K
            refine wpAny_ready (rs := [5]) (by kernel_rfl) (by simp) (AllReady.cons rfl (fun K hK => ?_) (AllReady.nil))
            go_simp
            refine hK _ _ ?_
            clear hK K
            refine wpAny_done (by kernel_rfl) ?_ _
            refine ⟨rfl, ?_⟩
            gi_wp2
            go_roundw
            case rel => exact ⟨k + 1, by omega, by go_num, HFin.out⟩
            case measure => simp [intOf]; omega
          · go_simp
            refine hK _ _ ?_
            clear hK K
            refine wpAny_ready (rs := [0, 2]) (by kernel_rfl) (by simp) (AllReady.cons rfl (fun K hK => ?_) (AllReady.cons rfl (fun K hK => ?_) (AllReady.nil)))
            · go_simp
              refine hK _ _ ?_
              clear hK K
              refine wpAny_ready (rs := [2]) (by kernel_rfl) (by simp) (AllReady.cons rfl (fun K hK => ?_) (AllReady.nil))
              go_simp
              refine (HOwn.out _ HBXd.out).mono ?_
              rintro r w3 ⟨p3, k3, rfl, ho3, hb3'⟩
              have hb3 : Below wr0.heap.size wr0 w3 := HBXd.out.trans (hb3'.mono HBXd.out.size)
              obtain ⟨X3, hX3⟩ : ∃ X3, w3.alloc (.cells #[.string ⟨e.key.toArray⟩, .int .u64 (e.seq : Int), .bool e.gone, .slice p3 e.val.length k3] 33) = X3 := ⟨_, rfl⟩
              have hbX : Below wr0.heap.size wr0 X3 := (by rw [← hX3]; exact hb3.alloc hb3.size _)
              have hx3 := ((hb3.block _ HBx.out.lt).trans HBx.out)
              have x3 := cell_of (i := 0) hx3 rfl
              have hxX := ((hbX.block _ HBx.out.lt).trans HBx.out)
              have xX := cell_of (i := 0) hxX rfl
              have HXX := Lib.hid hxX
              have HRX : Hid (X3.ownsRow Y.heap.size 33 4 (.slice po ts.length co) ts.length (cellsE (ts.map Prod.fst) (ts.map TEnt.u))) := Lib.hid (row_keep HRow.out fun k hk => hbX.block k (row_lt HRow.out k hk))
              have HCX : Hid (Cl X3 (fun k => k = w3.heap.size) (.slice (some ⟨w3.heap.size, 0, none⟩) 1 1) 1 (cellsE [e] [.slice p3 e.val.length k3])) := Lib.hid (by
                have h9 := Cl.new w3 (fun k => k = w3.heap.size) 1 (cellsE [e] [.slice p3 e.val.length k3]) #[.string ⟨e.key.toArray⟩, .int .u64 (e.seq : Int), .bool e.gone, .slice p3 e.val.length k3] 33 rfl (by omega) rfl
                rw [hX3] at h9
                exact h9)
              have HSzX : Hid (Y.heap.size ≤ X3.heap.size) := Lib.hid (Nat.le_trans HSz3.out hbX.size)
              have HOne : Hid (∀ x ∈ cellsE [e] [.slice p3 e.val.length k3], x.oneCell' = true) := Lib.hid (cellsE_one _ _ (by simp [Value.oneCell']))
              have HBX := Lib.hid hbX
              have HO3 : Hid (Own X3 wr0.heap.size (.slice p3 e.val.length k3) e.val) := Lib.hid (by rw [← hX3]; exact (ho3.alloc _).more HBXd.out.size)
              clear hb3 hb3' ho3 hbX hx3 hxX
              dsimp only
              refine hK _ _ ?_
              clear hK K
              refine wpAny_ready (rs := [3]) (by kernel_rfl) (by simp) (AllReady.cons rfl (fun K hK => ?_) (AllReady.nil))
              go_simp
              refine hK _ _ ?_
              clear hK K
              refine wpAny_ready (rs := [4]) (by kernel_rfl) (by simp) (AllReady.cons rfl (fun K hK => ?_) (AllReady.nil))
              rw [if_pos (by rfl)]
              refine slEnt.wp_append (.tmp 47) (.tmp 50) rfl Y.heap.size (v := .slice po ts.length co) (u := .slice (some ⟨w3.heap.size, 0, none⟩) 1 1) rfl rfl HRX.out HCX.out rfl HOne.out HLn.out HSzX.out ?_
              intro v4 w4 ho4 hg4 _
              obtain ⟨p9, c9, rfl, _, _⟩ := row_shape ho4
              have hb4 : Below Y.heap.size X3 w4 := (Below.refl _ X3).grown hg4 HSzX.out (row_low HRX.out)
              have hx4 := ((hb4.block w1.heap.size (by have := HSz.out; omega)).trans HXX.out)
              have x4 := cell_of (i := 0) hx4 rfl
              have z4 := frozen_of (i := 0) hx4
              have HFin : Hid (PrI keep false pl pre w Y w1 W (k + 1) (w4.setCell ⟨w1.heap.size, 0, none⟩ (.slice p9 (ts.length + 1) c9))) := Lib.hid (by
                have hq9 : ∀ y ∈ ts, QT (fun k => w.heap.size ≤ k) y X3 := fun y hy => (HQ2.out y hy).keep (fun j hj => by
                  obtain ⟨cur, hcu⟩ := (HQ2.out y hy).1.heap hj
                  exact HBX.out.block j (block_lt hcu)) (fun _ _ hs => hs)
                have hx9 : QT (fun k => w.heap.size ≤ k) (e, (p3, k3)) X3 := ⟨HO3.out.low, fun j hj => by have := HO3.out.block j hj; have := HSz.out; have := HSz3.out; omega⟩
                obtain ⟨k1, k2, k4⟩ := coll_add (x := (e, (p3, k3))) HXX.out HRX.out hq9 hx9 (HBw2.out.trans (HBX.out.mono HBw2.out.size)) HSzX.out (by have := HSz.out; omega) ho4 hg4
                exact ⟨ts ++ [(e, (p3, k3))], by rw [List.map_append, HTs.out, HTk.out, List.append_assoc]; rfl, k1, (HKp.out.trans (KpE.of_below HBX.out)).trans k2, (HKf.out.trans (keeps_below' HBX.out)).trans (k4 _)⟩)
              clear ho4 hg4 hb4 hx4
              refine hK _ _ ?_
              clear hK K
              refine wpAny_ready (rs := [5]) (by kernel_rfl) (by simp) (AllReady.cons rfl (fun K hK => ?_) (AllReady.nil))
              go_simp
              refine hK _ _ ?_
              clear hK K
              refine wpAny_done (by kernel_rfl) ?_ _
              refine ⟨rfl, ?_⟩
              gi_wp2
              go_roundw
              case rel => exact ⟨k + 1, by omega, by go_num, HFin.out⟩
              case measure => simp [intOf]; omega
            · go_simp
              refine (HOwn.out _ HBXd.out).mono ?_
              rintro r w3 ⟨p3, k3, rfl, ho3, hb3'⟩
              have hb3 : Below wr0.heap.size wr0 w3 := HBXd.out.trans (hb3'.mono HBXd.out.size)
              obtain ⟨X3, hX3⟩ : ∃ X3, w3.alloc (.cells #[.string ⟨e.key.toArray⟩, .int .u64 (e.seq : Int), .bool e.gone, .slice p3 e.val.length k3] 33) = X3 := ⟨_, rfl⟩
              have hbX : Below wr0.heap.size wr0 X3 := (by rw [← hX3]; exact hb3.alloc hb3.size _)
              have hx3 := ((hb3.block _ HBx.out.lt).trans HBx.out)
              have x3 := cell_of (i := 0) hx3 rfl
              have hxX := ((hbX.block _ HBx.out.lt).trans HBx.out)
              have xX := cell_of (i := 0) hxX rfl
              have HXX := Lib.hid hxX
              have HRX : Hid (X3.ownsRow Y.heap.size 33 4 (.slice po ts.length co) ts.length (cellsE (ts.map Prod.fst) (ts.map TEnt.u))) := Lib.hid (row_keep HRow.out fun k hk => hbX.block k (row_lt HRow.out k hk))
              have HCX : Hid (Cl X3 (fun k => k = w3.heap.size) (.slice (some ⟨w3.heap.size, 0, none⟩) 1 1) 1 (cellsE [e] [.slice p3 e.val.length k3])) := Lib.hid (by
                have h9 := Cl.new w3 (fun k => k = w3.heap.size) 1 (cellsE [e] [.slice p3 e.val.length k3]) #[.string ⟨e.key.toArray⟩, .int .u64 (e.seq : Int), .bool e.gone, .slice p3 e.val.length k3] 33 rfl (by omega) rfl
                rw [hX3] at h9
                exact h9)
              have HSzX : Hid (Y.heap.size ≤ X3.heap.size) := Lib.hid (Nat.le_trans HSz3.out hbX.size)
              have HOne : Hid (∀ x ∈ cellsE [e] [.slice p3 e.val.length k3], x.oneCell' = true) := Lib.hid (cellsE_one _ _ (by simp [Value.oneCell']))
              have HBX := Lib.hid hbX
              have HO3 : Hid (Own X3 wr0.heap.size (.slice p3 e.val.length k3) e.val) := Lib.hid (by rw [← hX3]; exact (ho3.alloc _).more HBXd.out.size)
              clear hb3 hb3' ho3 hbX hx3 hxX
              dsimp only
              refine hK _ _ ?_
              clear hK K
              refine wpAny_ready (rs := [0, 3]) (by kernel_rfl) (by simp) (AllReady.cons rfl (fun K hK => ?_) (AllReady.cons rfl (fun K hK => ?_) (AllReady.nil)))
              · go_simp
                refine hK _ _ ?_
                clear hK K
                refine wpAny_ready (rs := [3]) (by kernel_rfl) (by simp) (AllReady.cons rfl (fun K hK => ?_) (AllReady.nil))
                go_simp
                refine hK _ _ ?_
                clear hK K
                refine wpAny_ready (rs := [4]) (by kernel_rfl) (by simp) (AllReady.cons rfl (fun K hK => ?_) (AllReady.nil))
                rw [if_pos (by rfl)]
                refine slEnt.wp_append (.tmp 47) (.tmp 50) rfl Y.heap.size (v := .slice po ts.length co) (u := .slice (some ⟨w3.heap.size, 0, none⟩) 1 1) rfl rfl HRX.out HCX.out rfl HOne.out HLn.out HSzX.out ?_
                intro v4 w4 ho4 hg4 _
                obtain ⟨p9, c9, rfl, _, _⟩ := row_shape ho4
                have hb4 : Below Y.heap.size X3 w4 := (Below.refl _ X3).grown hg4 HSzX.out (row_low HRX.out)
                have hx4 := ((hb4.block w1.heap.size (by have := HSz.out; omega)).trans HXX.out)
                have x4 := cell_of (i := 0) hx4 rfl
                have z4 := frozen_of (i := 0) hx4
                have HFin : Hid (PrI keep false pl pre w Y w1 W (k + 1) (w4.setCell ⟨w1.heap.size, 0, none⟩ (.slice p9 (ts.length + 1) c9))) := Lib.hid (by
                  have hq9 : ∀ y ∈ ts, QT (fun k => w.heap.size ≤ k) y X3 := fun y hy => (HQ2.out y hy).keep (fun j hj => by
                    obtain ⟨cur, hcu⟩ := (HQ2.out y hy).1.heap hj
                    exact HBX.out.block j (block_lt hcu)) (fun _ _ hs => hs)
                  have hx9 : QT (fun k => w.heap.size ≤ k) (e, (p3, k3)) X3 := ⟨HO3.out.low, fun j hj => by have := HO3.out.block j hj; have := HSz.out; have := HSz3.out; omega⟩
                  obtain ⟨k1, k2, k4⟩ := coll_add (x := (e, (p3, k3))) HXX.out HRX.out hq9 hx9 (HBw2.out.trans (HBX.out.mono HBw2.out.size)) HSzX.out (by have := HSz.out; omega) ho4 hg4
                  exact ⟨ts ++ [(e, (p3, k3))], by rw [List.map_append, HTs.out, HTk.out, List.append_assoc]; rfl, k1, (HKp.out.trans (KpE.of_below HBX.out)).trans k2, (HKf.out.trans (keeps_below' HBX.out)).trans (k4 _)⟩)
                clear ho4 hg4 hb4 hx4
                refine hK _ _ ?_
                clear hK K
                refine wpAny_ready (rs := [5]) (by kernel_rfl) (by simp) (AllReady.cons rfl (fun K hK => ?_) (AllReady.nil))
                go_simp
                refine hK _ _ ?_
                clear hK K
                refine wpAny_done (by kernel_rfl) ?_ _
                refine ⟨rfl, ?_⟩
                gi_wp2
                go_roundw
                case rel => exact ⟨k + 1, by omega, by go_num, HFin.out⟩
                case measure => simp [intOf]; omega
              · go_simp
                refine hK _ _ ?_
                clear hK K
                refine wpAny_ready (rs := [0]) (by kernel_rfl) (by simp) (AllReady.cons rfl (fun K hK => ?_) (AllReady.nil))
                go_simp
                refine hK _ _ ?_
                clear hK K
                refine wpAny_ready (rs := [4]) (by kernel_rfl) (by simp) (AllReady.cons rfl (fun K hK => ?_) (AllReady.nil))
                rw [if_pos (by rfl)]
                refine slEnt.wp_append (.tmp 47) (.tmp 50) rfl Y.heap.size (v := .slice po ts.length co) (u := .slice (some ⟨w3.heap.size, 0, none⟩) 1 1) rfl rfl HRX.out HCX.out rfl HOne.out HLn.out HSzX.out ?_
                intro v4 w4 ho4 hg4 _
                obtain ⟨p9, c9, rfl, _, _⟩ := row_shape ho4
                have hb4 : Below Y.heap.size X3 w4 := (Below.refl _ X3).grown hg4 HSzX.out (row_low HRX.out)
                have hx4 := ((hb4.block w1.heap.size (by have := HSz.out; omega)).trans HXX.out)
                have x4 := cell_of (i := 0) hx4 rfl
                have z4 := frozen_of (i := 0) hx4
                have HFin : Hid (PrI keep false pl pre w Y w1 W (k + 1) (w4.setCell ⟨w1.heap.size, 0, none⟩ (.slice p9 (ts.length + 1) c9))) := Lib.hid (by
                  have hq9 : ∀ y ∈ ts, QT (fun k => w.heap.size ≤ k) y X3 := fun y hy => (HQ2.out y hy).keep (fun j hj => by
                    obtain ⟨cur, hcu⟩ := (HQ2.out y hy).1.heap hj
                    exact HBX.out.block j (block_lt hcu)) (fun _ _ hs => hs)
                  have hx9 : QT (fun k => w.heap.size ≤ k) (e, (p3, k3)) X3 := ⟨HO3.out.low, fun j hj => by have := HO3.out.block j hj; have := HSz.out; have := HSz3.out; omega⟩
                  obtain ⟨k1, k2, k4⟩ := coll_add (x := (e, (p3, k3))) HXX.out HRX.out hq9 hx9 (HBw2.out.trans (HBX.out.mono HBw2.out.size)) HSzX.out (by have := HSz.out; omega) ho4 hg4
                  exact ⟨ts ++ [(e, (p3, k3))], by rw [List.map_append, HTs.out, HTk.out, List.append_assoc]; rfl, k1, (HKp.out.trans (KpE.of_below HBX.out)).trans k2, (HKf.out.trans (keeps_below' HBX.out)).trans (k4 _)⟩)
                clear ho4 hg4 hb4 hx4
                refine hK _ _ ?_
                clear hK K
                refine wpAny_ready (rs := [5]) (by kernel_rfl) (by simp) (AllReady.cons rfl (fun K hK => ?_) (AllReady.nil))
                go_simp
                refine hK _ _ ?_
                clear hK K
                refine wpAny_done (by kernel_rfl) ?_ _
                refine ⟨rfl, ?_⟩
                gi_wp2
                go_roundw
                case rel => exact ⟨k + 1, by omega, by go_num, HFin.out⟩
                case measure => simp [intOf]; omega
        · obtain rfl : k = E := by omega
          have HFinE : Hid (KeepsFrom Y.heap.size W wr0 ∧ KpE (fun k => k = w1.heap.size) Y.heap.size W wr0 ∧ PrC keep false es (fun k => w.heap.size ≤ k) w1.heap.size Y.heap.size w1 (pre ++ [(pl, ((some ⟨b1, off1, none⟩), c))]) wr0) := Lib.hid (by
            have hts9 : ts.map Prod.fst = ((pre ++ [((pl, ((some ⟨b1, off1, none⟩), c)) : Pc)]).map Prod.fst).flatMap (prn1 keep false) := by
              rw [HTs.out, List.map_append, List.flatMap_append]
              simp [HPr.out]
            refine ⟨hkf, hkp, ts, hts9, ?_, HCl.out⟩
            have h1 := HTh.out k HIE.out
            have h2 := congrArg List.length HTs.out
            rw [List.length_map, List.length_append, List.length_take] at h2
            have := HIE.out
            omega)
          clear htk hcl hkp hkf
          gi_wp2
          exact HFinE.out
    · obtain ⟨b1, off1, rfl, hb1, hd2⟩ := HD.out _ he0
      have HD2 := Lib.hid (And.intro hb1 hd2)
      have qn : decide ((n : Int) < (pl.length : Int)) = true := decide_eq_true (by omega)
      have qnn : decide (n < pl.length) = true := decide_eq_true hlt2
      subst hb
      rw [hg] at HD2
      have HE := Lib.hid hE
      clear hE hg hd2 hb1 he0 HD
      gi_wp2_with (refine ⟨trivial, ?_⟩
                   gi_at_call 37
                   refine (CallsIn.inRound l2 (callsIn_wide.2 HNew.out)).mono ?_
                   rintro r w2 ⟨rfl, hb2⟩
                   have f2 := (below_cells hb2 b1 _ HD2.out.1).trans HD2.out.2
                   have f3 := (hb2.cell (p := ⟨w.heap.size + 1, 0, none⟩) (cell_lt u1)).trans u1
                   have hrun : ∀ V, (Instr.slice 26 (.slice (some ⟨b1, off1, none⟩) pl.length c) none (some (.int .i64 (n : Int))) none).run Try.prog V = .ok (.slice qt E ct) V := (fun V => by
                     have h9 := HRun.out V
                     rw [HE.out] at h9 ⊢
                     exact h9)
                   have HB2 := Lib.hid hb2
                   clear hb2)
      gi_loopw [43] (fun i wr => ∃ k : Nat, k ≤ E ∧ i = .int .i64 (k : Int) ∧ PrI keep true pl pre w Y w1 W k wr) (fun i _ => E - (intOf i).toNat)
      case atStart => exact ⟨0, by omega, rfl, HI0.out _ HB2.out⟩
      case round =>
        obtain ⟨k, hk, rfl, ts, htk, hcl, hkp, hkf⟩ := hrel
        obtain ⟨wr0, hwr0⟩ : ∃ wr0 : World, wr0 = wr := ⟨_, rfl⟩
        subst hwr0
        have HCl := Lib.hid hcl
        have HTs := Lib.hid htk
        have HKp := Lib.hid hkp
        have HKf := Lib.hid hkf
        by_cases hlt3 : k < E
        · have hkl : k < pl.length := by have := HIE.out; omega
          obtain ⟨vb, hbx, hrow, hq2, hbw2, hsz2⟩ := hcl
          obtain ⟨po, co, rfl, ho1, ho2⟩ := row_shape hrow
          have hto2 : En wr0 (fun k => k < w.heap.size) (.slice qt E ct) (pl.take E) := HTo.out.step hkp.fr (fun j hj hF e => e.elim (fun e => by have := HSz.out; omega) (fun hle => by have := HSz.out; omega))
          obtain ⟨b3, off3, q3, c3, rfl, hb3, _, hV3, d0, d1, d2, d3⟩ := hto2.at_ (k := k) (e := pl[k]) (by rw [List.getElem?_take_of_lt hlt3, List.getElem?_eq_getElem hkl])
          have hfx := HFit.out _ (HXm.out _ (List.getElem_mem hkl))
          have HTk : Hid (pl.take (k + 1) = pl.take k ++ [pl[k]]) := Lib.hid (take_snoc pl k _ (List.getElem?_eq_getElem hkl))
          generalize pl[k] = e at *
          obtain ⟨X1, hX1⟩ : ∃ X1, wr0.alloc (.cells #[.string ⟨e.key.toArray⟩, .int .u64 (e.seq : Int), .bool e.gone, .slice q3 e.val.length c3] 33) = X1 := ⟨_, rfl⟩
          have hbX1 : Below wr0.heap.size wr0 X1 := by rw [← hX1]; exact (Below.refl _ _).alloc (Nat.le_refl _) _
          have hX1b : X1.heap[wr0.heap.size]? = some (.cells #[.string ⟨e.key.toArray⟩, .int .u64 (e.seq : Int), .bool e.gone, .slice q3 e.val.length c3] 33 (0, 0)) := by rw [← hX1]; exact heap_alloc_new wr0 _
          have m0 := cell_of (i := 0) hX1b rfl
          have m1 := cell_of (i := 1) hX1b rfl
          have m2 := cell_of (i := 2) hX1b rfl
          have m3 := cell_of (i := 3) hX1b rfl
          have HMb := Lib.hid hX1b
          have hx1 := ((hbX1.block _ hbx.lt).trans hbx)
          have x0 := cell_of (i := 0) hx1 rfl
          have HBXd : Hid (Below wr0.heap.size wr0 X1.drew) := Lib.hid (below_drew hbX1)
          have HOwn : Hid (∀ V, Below wr0.heap.size wr0 V → Calls Try.prog 34 #[.agg #[.string ⟨e.key.toArray⟩, .int .u64 (e.seq : Int), .bool e.gone, .slice q3 e.val.length c3]] V fun r w' => ∃ p k, r = .returned (.agg #[.string ⟨e.key.toArray⟩, .int .u64 (e.seq : Int), .bool e.gone, .slice p e.val.length k]) ∧
              Own w' V.heap.size (.slice p e.val.length k) e.val ∧ Below V.heap.size V w') := Lib.hid (fun V hV => mg_own V _ e q3 c3 hfx (hV3.below hV))
          have HBx := Lib.hid hbx
          have HRow := Lib.hid hrow
          have HQ2 := Lib.hid hq2
          have HBw2 := Lib.hid hbw2
          have HSz3 := Lib.hid hsz2
          have HLn : Hid (ts.length + 1 ≤ 68719476736) := Lib.hid (by
            have h1 : ts.length = ((pre.map Prod.fst).flatMap (prn1 keep true)).length + k := by
              have := congrArg List.length HTs.out
              rw [List.length_map, List.length_append, List.length_take] at this
              omega
            have := HTl.out
            have := HMul.out
            omega)
          clear htk hkp hkf hbx hrow hq2 hbw2 hsz2 hto2 hb3 hV3 hbX1 hX1b hx1 hfx hrun
          gi_wp2
          refine region_round (by kernel_rfl) (by kernel_rfl) ?_
          refine wpAny_ready (rs := [0, 1]) (by kernel_rfl) (by simp) (AllReady.cons rfl (fun K hK => ?_) (AllReady.cons rfl (fun K hK => ?_) (AllReady.nil)))
          · go_simp
            refine hK _ _ ?_
            clear hK K
            refine wpAny_ready (rs := [1]) (by kernel_rfl) (by simp) (AllReady.cons rfl (fun K hK => ?_) (AllReady.nil))
            go_simp
            refine hK _ _ ?_
            clear hK K
            refine wpAny_ready (rs := [2]) (by kernel_rfl) (by simp) (AllReady.cons rfl (fun K hK => ?_) (AllReady.nil))
            go_simp
            refine (HOwn.out _ HBXd.out).mono ?_
            rintro r w3 ⟨p3, k3, rfl, ho3, hb3'⟩
            have hb3 : Below wr0.heap.size wr0 w3 := HBXd.out.trans (hb3'.mono HBXd.out.size)
            obtain ⟨X3, hX3⟩ : ∃ X3, w3.alloc (.cells #[.string ⟨e.key.toArray⟩, .int .u64 (e.seq : Int), .bool e.gone, .slice p3 e.val.length k3] 33) = X3 := ⟨_, rfl⟩
            have hbX : Below wr0.heap.size wr0 X3 := (by rw [← hX3]; exact hb3.alloc hb3.size _)
            have hx3 := ((hb3.block _ HBx.out.lt).trans HBx.out)
            have x3 := cell_of (i := 0) hx3 rfl
            have hxX := ((hbX.block _ HBx.out.lt).trans HBx.out)
            have xX := cell_of (i := 0) hxX rfl
            have HXX := Lib.hid hxX
            have HRX : Hid (X3.ownsRow Y.heap.size 33 4 (.slice po ts.length co) ts.length (cellsE (ts.map Prod.fst) (ts.map TEnt.u))) := Lib.hid (row_keep HRow.out fun k hk => hbX.block k (row_lt HRow.out k hk))
            have HCX : Hid (Cl X3 (fun k => k = w3.heap.size) (.slice (some ⟨w3.heap.size, 0, none⟩) 1 1) 1 (cellsE [e] [.slice p3 e.val.length k3])) := Lib.hid (by
              have h9 := Cl.new w3 (fun k => k = w3.heap.size) 1 (cellsE [e] [.slice p3 e.val.length k3]) #[.string ⟨e.key.toArray⟩, .int .u64 (e.seq : Int), .bool e.gone, .slice p3 e.val.length k3] 33 rfl (by omega) rfl
              rw [hX3] at h9
              exact h9)
            have HSzX : Hid (Y.heap.size ≤ X3.heap.size) := Lib.hid (Nat.le_trans HSz3.out hbX.size)
            have HOne : Hid (∀ x ∈ cellsE [e] [.slice p3 e.val.length k3], x.oneCell' = true) := Lib.hid (cellsE_one _ _ (by simp [Value.oneCell']))
            have HBX := Lib.hid hbX
            have HO3 : Hid (Own X3 wr0.heap.size (.slice p3 e.val.length k3) e.val) := Lib.hid (by rw [← hX3]; exact (ho3.alloc _).more HBXd.out.size)
            clear hb3 hb3' ho3 hbX hx3 hxX
            dsimp only
            refine hK _ _ ?_
            clear hK K
            refine wpAny_ready (rs := [3]) (by kernel_rfl) (by simp) (AllReady.cons rfl (fun K hK => ?_) (AllReady.nil))
            go_simp
            refine hK _ _ ?_
            clear hK K
            refine wpAny_ready (rs := [4]) (by kernel_rfl) (by simp) (AllReady.cons rfl (fun K hK => ?_) (AllReady.nil))
            rw [if_pos (by rfl)]
            refine slEnt.wp_append (.tmp 47) (.tmp 50) rfl Y.heap.size (v := .slice po ts.length co) (u := .slice (some ⟨w3.heap.size, 0, none⟩) 1 1) rfl rfl HRX.out HCX.out rfl HOne.out HLn.out HSzX.out ?_
            intro v4 w4 ho4 hg4 _
            obtain ⟨p9, c9, rfl, _, _⟩ := row_shape ho4
            have hb4 : Below Y.heap.size X3 w4 := (Below.refl _ X3).grown hg4 HSzX.out (row_low HRX.out)
            have hx4 := ((hb4.block w1.heap.size (by have := HSz.out; omega)).trans HXX.out)
            have x4 := cell_of (i := 0) hx4 rfl
            have z4 := frozen_of (i := 0) hx4
            have HFin : Hid (PrI keep true pl pre w Y w1 W (k + 1) (w4.setCell ⟨w1.heap.size, 0, none⟩ (.slice p9 (ts.length + 1) c9))) := Lib.hid (by
              have hq9 : ∀ y ∈ ts, QT (fun k => w.heap.size ≤ k) y X3 := fun y hy => (HQ2.out y hy).keep (fun j hj => by
                obtain ⟨cur, hcu⟩ := (HQ2.out y hy).1.heap hj
                exact HBX.out.block j (block_lt hcu)) (fun _ _ hs => hs)
              have hx9 : QT (fun k => w.heap.size ≤ k) (e, (p3, k3)) X3 := ⟨HO3.out.low, fun j hj => by have := HO3.out.block j hj; have := HSz.out; have := HSz3.out; omega⟩
              obtain ⟨k1, k2, k4⟩ := coll_add (x := (e, (p3, k3))) HXX.out HRX.out hq9 hx9 (HBw2.out.trans (HBX.out.mono HBw2.out.size)) HSzX.out (by have := HSz.out; omega) ho4 hg4
              exact ⟨ts ++ [(e, (p3, k3))], by rw [List.map_append, HTs.out, HTk.out, List.append_assoc]; rfl, k1, (HKp.out.trans (KpE.of_below HBX.out)).trans k2, (HKf.out.trans (keeps_below' HBX.out)).trans (k4 _)⟩)
            clear ho4 hg4 hb4 hx4
            refine hK _ _ ?_
            clear hK K
            refine wpAny_ready (rs := [5]) (by kernel_rfl) (by simp) (AllReady.cons rfl (fun K hK => ?_) (AllReady.nil))
            go_simp
            refine hK _ _ ?_
            clear hK K
            refine wpAny_done (by kernel_rfl) ?_ _
            refine ⟨rfl, ?_⟩
            gi_wp2
            go_roundw
            case rel => exact ⟨k + 1, by omega, by go_num, HFin.out⟩
            case measure => simp [intOf]; omega
          · go_simp
            refine hK _ _ ?_
            clear hK K
            refine wpAny_ready (rs := [0, 2]) (by kernel_rfl) (by simp) (AllReady.cons rfl (fun K hK => ?_) (AllReady.cons rfl (fun K hK => ?_) (AllReady.nil)))
            · go_simp
              refine hK _ _ ?_
              clear hK K
              refine wpAny_ready (rs := [2]) (by kernel_rfl) (by simp) (AllReady.cons rfl (fun K hK => ?_) (AllReady.nil))
              go_simp
              refine (HOwn.out _ HBXd.out).mono ?_
              rintro r w3 ⟨p3, k3, rfl, ho3, hb3'⟩
              have hb3 : Below wr0.heap.size wr0 w3 := HBXd.out.trans (hb3'.mono HBXd.out.size)
              obtain ⟨X3, hX3⟩ : ∃ X3, w3.alloc (.cells #[.string ⟨e.key.toArray⟩, .int .u64 (e.seq : Int), .bool e.gone, .slice p3 e.val.length k3] 33) = X3 := ⟨_, rfl⟩
              have hbX : Below wr0.heap.size wr0 X3 := (by rw [← hX3]; exact hb3.alloc hb3.size _)
              have hx3 := ((hb3.block _ HBx.out.lt).trans HBx.out)
              have x3 := cell_of (i := 0) hx3 rfl
              have hxX := ((hbX.block _ HBx.out.lt).trans HBx.out)
              have xX := cell_of (i := 0) hxX rfl
              have HXX := Lib.hid hxX
              have HRX : Hid (X3.ownsRow Y.heap.size 33 4 (.slice po ts.length co) ts.length (cellsE (ts.map Prod.fst) (ts.map TEnt.u))) := Lib.hid (row_keep HRow.out fun k hk => hbX.block k (row_lt HRow.out k hk))
              have HCX : Hid (Cl X3 (fun k => k = w3.heap.size) (.slice (some ⟨w3.heap.size, 0, none⟩) 1 1) 1 (cellsE [e] [.slice p3 e.val.length k3])) := Lib.hid (by
                have h9 := Cl.new w3 (fun k => k = w3.heap.size) 1 (cellsE [e] [.slice p3 e.val.length k3]) #[.string ⟨e.key.toArray⟩, .int .u64 (e.seq : Int), .bool e.gone, .slice p3 e.val.length k3] 33 rfl (by omega) rfl
                rw [hX3] at h9
                exact h9)
              have HSzX : Hid (Y.heap.size ≤ X3.heap.size) := Lib.hid (Nat.le_trans HSz3.out hbX.size)
              have HOne : Hid (∀ x ∈ cellsE [e] [.slice p3 e.val.length k3], x.oneCell' = true) := Lib.hid (cellsE_one _ _ (by simp [Value.oneCell']))
              have HBX := Lib.hid hbX
              have HO3 : Hid (Own X3 wr0.heap.size (.slice p3 e.val.length k3) e.val) := Lib.hid (by rw [← hX3]; exact (ho3.alloc _).more HBXd.out.size)
              clear hb3 hb3' ho3 hbX hx3 hxX
              dsimp only
              refine hK _ _ ?_
              clear hK K
              refine wpAny_ready (rs := [3]) (by kernel_rfl) (by simp) (AllReady.cons rfl (fun K hK => ?_) (AllReady.nil))
              go_simp
              refine hK _ _ ?_
              clear hK K
              refine wpAny_ready (rs := [4]) (by kernel_rfl) (by simp) (AllReady.cons rfl (fun K hK => ?_) (AllReady.nil))
              rw [if_pos (by rfl)]
              refine slEnt.wp_append (.tmp 47) (.tmp 50) rfl Y.heap.size (v := .slice po ts.length co) (u := .slice (some ⟨w3.heap.size, 0, none⟩) 1 1) rfl rfl HRX.out HCX.out rfl HOne.out HLn.out HSzX.out ?_
              intro v4 w4 ho4 hg4 _
              obtain ⟨p9, c9, rfl, _, _⟩ := row_shape ho4
              have hb4 : Below Y.heap.size X3 w4 := (Below.refl _ X3).grown hg4 HSzX.out (row_low HRX.out)
              have hx4 := ((hb4.block w1.heap.size (by have := HSz.out; omega)).trans HXX.out)
              have x4 := cell_of (i := 0) hx4 rfl
              have z4 := frozen_of (i := 0) hx4
              have HFin : Hid (PrI keep true pl pre w Y w1 W (k + 1) (w4.setCell ⟨w1.heap.size, 0, none⟩ (.slice p9 (ts.length + 1) c9))) := Lib.hid (by
                have hq9 : ∀ y ∈ ts, QT (fun k => w.heap.size ≤ k) y X3 := fun y hy => (HQ2.out y hy).keep (fun j hj => by
                  obtain ⟨cur, hcu⟩ := (HQ2.out y hy).1.heap hj
                  exact HBX.out.block j (block_lt hcu)) (fun _ _ hs => hs)
                have hx9 : QT (fun k => w.heap.size ≤ k) (e, (p3, k3)) X3 := ⟨HO3.out.low, fun j hj => by have := HO3.out.block j hj; have := HSz.out; have := HSz3.out; omega⟩
                obtain ⟨k1, k2, k4⟩ := coll_add (x := (e, (p3, k3))) HXX.out HRX.out hq9 hx9 (HBw2.out.trans (HBX.out.mono HBw2.out.size)) HSzX.out (by have := HSz.out; omega) ho4 hg4
                exact ⟨ts ++ [(e, (p3, k3))], by rw [List.map_append, HTs.out, HTk.out, List.append_assoc]; rfl, k1, (HKp.out.trans (KpE.of_below HBX.out)).trans k2, (HKf.out.trans (keeps_below' HBX.out)).trans (k4 _)⟩)
              clear ho4 hg4 hb4 hx4
              refine hK _ _ ?_
              clear hK K
              refine wpAny_ready (rs := [5]) (by kernel_rfl) (by simp) (AllReady.cons rfl (fun K hK => ?_) (AllReady.nil))
              go_simp
              refine hK _ _ ?_
              clear hK K
              refine wpAny_done (by kernel_rfl) ?_ _
              refine ⟨rfl, ?_⟩
              gi_wp2
              go_roundw
              case rel => exact ⟨k + 1, by omega, by go_num, HFin.out⟩
              case measure => simp [intOf]; omega
            · go_simp
              refine (HOwn.out _ HBXd.out).mono ?_
              rintro r w3 ⟨p3, k3, rfl, ho3, hb3'⟩
              have hb3 : Below wr0.heap.size wr0 w3 := HBXd.out.trans (hb3'.mono HBXd.out.size)
              obtain ⟨X3, hX3⟩ : ∃ X3, w3.alloc (.cells #[.string ⟨e.key.toArray⟩, .int .u64 (e.seq : Int), .bool e.gone, .slice p3 e.val.length k3] 33) = X3 := ⟨_, rfl⟩
              have hbX : Below wr0.heap.size wr0 X3 := (by rw [← hX3]; exact hb3.alloc hb3.size _)
              have hx3 := ((hb3.block _ HBx.out.lt).trans HBx.out)
              have x3 := cell_of (i := 0) hx3 rfl
              have hxX := ((hbX.block _ HBx.out.lt).trans HBx.out)
              have xX := cell_of (i := 0) hxX rfl
              have HXX := Lib.hid hxX
              have HRX : Hid (X3.ownsRow Y.heap.size 33 4 (.slice po ts.length co) ts.length (cellsE (ts.map Prod.fst) (ts.map TEnt.u))) := Lib.hid (row_keep HRow.out fun k hk => hbX.block k (row_lt HRow.out k hk))
              have HCX : Hid (Cl X3 (fun k => k = w3.heap.size) (.slice (some ⟨w3.heap.size, 0, none⟩) 1 1) 1 (cellsE [e] [.slice p3 e.val.length k3])) := Lib.hid (by
                have h9 := Cl.new w3 (fun k => k = w3.heap.size) 1 (cellsE [e] [.slice p3 e.val.length k3]) #[.string ⟨e.key.toArray⟩, .int .u64 (e.seq : Int), .bool e.gone, .slice p3 e.val.length k3] 33 rfl (by omega) rfl
                rw [hX3] at h9
                exact h9)
              have HSzX : Hid (Y.heap.size ≤ X3.heap.size) := Lib.hid (Nat.le_trans HSz3.out hbX.size)
              have HOne : Hid (∀ x ∈ cellsE [e] [.slice p3 e.val.length k3], x.oneCell' = true) := Lib.hid (cellsE_one _ _ (by simp [Value.oneCell']))
              have HBX := Lib.hid hbX
              have HO3 : Hid (Own X3 wr0.heap.size (.slice p3 e.val.length k3) e.val) := Lib.hid (by rw [← hX3]; exact (ho3.alloc _).more HBXd.out.size)
              clear hb3 hb3' ho3 hbX hx3 hxX
              dsimp only
              refine hK _ _ ?_
              clear hK K
              refine wpAny_ready (rs := [0, 3]) (by kernel_rfl) (by simp) (AllReady.cons rfl (fun K hK => ?_) (AllReady.cons rfl (fun K hK => ?_) (AllReady.nil)))
              · go_simp
                refine hK _ _ ?_
                clear hK K
                refine wpAny_ready (rs := [3]) (by kernel_rfl) (by simp) (AllReady.cons rfl (fun K hK => ?_) (AllReady.nil))
                go_simp
                refine hK _ _ ?_
                clear hK K
                refine wpAny_ready (rs := [4]) (by kernel_rfl) (by simp) (AllReady.cons rfl (fun K hK => ?_) (AllReady.nil))
                rw [if_pos (by rfl)]
                refine slEnt.wp_append (.tmp 47) (.tmp 50) rfl Y.heap.size (v := .slice po ts.length co) (u := .slice (some ⟨w3.heap.size, 0, none⟩) 1 1) rfl rfl HRX.out HCX.out rfl HOne.out HLn.out HSzX.out ?_
                intro v4 w4 ho4 hg4 _
                obtain ⟨p9, c9, rfl, _, _⟩ := row_shape ho4
                have hb4 : Below Y.heap.size X3 w4 := (Below.refl _ X3).grown hg4 HSzX.out (row_low HRX.out)
                have hx4 := ((hb4.block w1.heap.size (by have := HSz.out; omega)).trans HXX.out)
                have x4 := cell_of (i := 0) hx4 rfl
                have z4 := frozen_of (i := 0) hx4
                have HFin : Hid (PrI keep true pl pre w Y w1 W (k + 1) (w4.setCell ⟨w1.heap.size, 0, none⟩ (.slice p9 (ts.length + 1) c9))) := Lib.hid (by
                  have hq9 : ∀ y ∈ ts, QT (fun k => w.heap.size ≤ k) y X3 := fun y hy => (HQ2.out y hy).keep (fun j hj => by
                    obtain ⟨cur, hcu⟩ := (HQ2.out y hy).1.heap hj
                    exact HBX.out.block j (block_lt hcu)) (fun _ _ hs => hs)
                  have hx9 : QT (fun k => w.heap.size ≤ k) (e, (p3, k3)) X3 := ⟨HO3.out.low, fun j hj => by have := HO3.out.block j hj; have := HSz.out; have := HSz3.out; omega⟩
                  obtain ⟨k1, k2, k4⟩ := coll_add (x := (e, (p3, k3))) HXX.out HRX.out hq9 hx9 (HBw2.out.trans (HBX.out.mono HBw2.out.size)) HSzX.out (by have := HSz.out; omega) ho4 hg4
                  exact ⟨ts ++ [(e, (p3, k3))], by rw [List.map_append, HTs.out, HTk.out, List.append_assoc]; rfl, k1, (HKp.out.trans (KpE.of_below HBX.out)).trans k2, (HKf.out.trans (keeps_below' HBX.out)).trans (k4 _)⟩)
                clear ho4 hg4 hb4 hx4
                refine hK _ _ ?_
                clear hK K
                refine wpAny_ready (rs := [5]) (by kernel_rfl) (by simp) (AllReady.cons rfl (fun K hK => ?_) (AllReady.nil))
                go_simp
                refine hK _ _ ?_
                clear hK K
                refine wpAny_done (by kernel_rfl) ?_ _
                refine ⟨rfl, ?_⟩
                gi_wp2
                go_roundw
                case rel => exact ⟨k + 1, by omega, by go_num, HFin.out⟩
                case measure => simp [intOf]; omega
              · go_simp
                refine hK _ _ ?_
                clear hK K
                refine wpAny_ready (rs := [0]) (by kernel_rfl) (by simp) (AllReady.cons rfl (fun K hK => ?_) (AllReady.nil))
                go_simp
                refine hK _ _ ?_
                clear hK K
                refine wpAny_ready (rs := [4]) (by kernel_rfl) (by simp) (AllReady.cons rfl (fun K hK => ?_) (AllReady.nil))
                rw [if_pos (by rfl)]
                refine slEnt.wp_append (.tmp 47) (.tmp 50) rfl Y.heap.size (v := .slice po ts.length co) (u := .slice (some ⟨w3.heap.size, 0, none⟩) 1 1) rfl rfl HRX.out HCX.out rfl HOne.out HLn.out HSzX.out ?_
                intro v4 w4 ho4 hg4 _
                obtain ⟨p9, c9, rfl, _, _⟩ := row_shape ho4
                have hb4 : Below Y.heap.size X3 w4 := (Below.refl _ X3).grown hg4 HSzX.out (row_low HRX.out)
                have hx4 := ((hb4.block w1.heap.size (by have := HSz.out; omega)).trans HXX.out)
                have x4 := cell_of (i := 0) hx4 rfl
                have z4 := frozen_of (i := 0) hx4
                have HFin : Hid (PrI keep true pl pre w Y w1 W (k + 1) (w4.setCell ⟨w1.heap.size, 0, none⟩ (.slice p9 (ts.length + 1) c9))) := Lib.hid (by
                  have hq9 : ∀ y ∈ ts, QT (fun k => w.heap.size ≤ k) y X3 := fun y hy => (HQ2.out y hy).keep (fun j hj => by
                    obtain ⟨cur, hcu⟩ := (HQ2.out y hy).1.heap hj
                    exact HBX.out.block j (block_lt hcu)) (fun _ _ hs => hs)
                  have hx9 : QT (fun k => w.heap.size ≤ k) (e, (p3, k3)) X3 := ⟨HO3.out.low, fun j hj => by have := HO3.out.block j hj; have := HSz.out; have := HSz3.out; omega⟩
                  obtain ⟨k1, k2, k4⟩ := coll_add (x := (e, (p3, k3))) HXX.out HRX.out hq9 hx9 (HBw2.out.trans (HBX.out.mono HBw2.out.size)) HSzX.out (by have := HSz.out; omega) ho4 hg4
                  exact ⟨ts ++ [(e, (p3, k3))], by rw [List.map_append, HTs.out, HTk.out, List.append_assoc]; rfl, k1, (HKp.out.trans (KpE.of_below HBX.out)).trans k2, (HKf.out.trans (keeps_below' HBX.out)).trans (k4 _)⟩)
                clear ho4 hg4 hb4 hx4
                refine hK _ _ ?_
                clear hK K
                refine wpAny_ready (rs := [5]) (by kernel_rfl) (by simp) (AllReady.cons rfl (fun K hK => ?_) (AllReady.nil))
                go_simp
                refine hK _ _ ?_
                clear hK K
                refine wpAny_done (by kernel_rfl) ?_ _
                refine ⟨rfl, ?_⟩
                gi_wp2
                go_roundw
                case rel => exact ⟨k + 1, by omega, by go_num, HFin.out⟩
                case measure => simp [intOf]; omega
        · obtain rfl : k = E := by omega
          have HFinE : Hid (KeepsFrom Y.heap.size W wr0 ∧ KpE (fun k => k = w1.heap.size) Y.heap.size W wr0 ∧ PrC keep true es (fun k => w.heap.size ≤ k) w1.heap.size Y.heap.size w1 (pre ++ [(pl, ((some ⟨b1, off1, none⟩), c))]) wr0) := Lib.hid (by
            have hts9 : ts.map Prod.fst = ((pre ++ [((pl, ((some ⟨b1, off1, none⟩), c)) : Pc)]).map Prod.fst).flatMap (prn1 keep true) := by
              rw [HTs.out, List.map_append, List.flatMap_append]
              simp [HPr.out]
            refine ⟨hkf, hkp, ts, hts9, ?_, HCl.out⟩
            have h1 := HTh.out k HIE.out
            have h2 := congrArg List.length HTs.out
            rw [List.length_map, List.length_append, List.length_take] at h2
            have := HIE.out
            omega)
          clear htk hcl hkp hkf
          gi_wp2
          exact HFinE.out
    · have qn : decide ((n : Int) < (pl.length : Int)) = false := decide_eq_false (by omega)
      have qnn : decide (n < pl.length) = false := decide_eq_false (by omega)
      have HE := Lib.hid hE
      clear hE HD
      gi_wp2_with (refine ⟨trivial, ?_⟩
                   gi_at_call 37
                   refine (CallsIn.inRound l2 (callsIn_wide.2 HNew.out)).mono ?_
                   rintro r w2 ⟨rfl, hb2⟩
                   have hrun : ∀ V, (Instr.slice 26 (.slice q pl.length c) none (some (.int .i64 (n : Int))) none).run Try.prog V = .ok (.slice qt E ct) V := (fun V => by
                     have h9 := HRun.out V
                     rw [HE.out] at h9 ⊢
                     exact h9)
                   have HB2 := Lib.hid hb2
                   clear hb2)
      gi_loopw [43] (fun i wr => ∃ k : Nat, k ≤ E ∧ i = .int .i64 (k : Int) ∧ PrI keep bot pl pre w Y w1 W k wr) (fun i _ => E - (intOf i).toNat)
      case atStart => exact ⟨0, by omega, rfl, HI0.out _ HB2.out⟩
      case round =>
        obtain ⟨k, hk, rfl, ts, htk, hcl, hkp, hkf⟩ := hrel
        obtain ⟨wr0, hwr0⟩ : ∃ wr0 : World, wr0 = wr := ⟨_, rfl⟩
        subst hwr0
        have HCl := Lib.hid hcl
        have HTs := Lib.hid htk
        have HKp := Lib.hid hkp
        have HKf := Lib.hid hkf
        by_cases hlt3 : k < E
        · have hkl : k < pl.length := by have := HIE.out; omega
          obtain ⟨vb, hbx, hrow, hq2, hbw2, hsz2⟩ := hcl
          obtain ⟨po, co, rfl, ho1, ho2⟩ := row_shape hrow
          have hto2 : En wr0 (fun k => k < w.heap.size) (.slice qt E ct) (pl.take E) := HTo.out.step hkp.fr (fun j hj hF e => e.elim (fun e => by have := HSz.out; omega) (fun hle => by have := HSz.out; omega))
          obtain ⟨b3, off3, q3, c3, rfl, hb3, _, hV3, d0, d1, d2, d3⟩ := hto2.at_ (k := k) (e := pl[k]) (by rw [List.getElem?_take_of_lt hlt3, List.getElem?_eq_getElem hkl])
          have hfx := HFit.out _ (HXm.out _ (List.getElem_mem hkl))
          have HTk : Hid (pl.take (k + 1) = pl.take k ++ [pl[k]]) := Lib.hid (take_snoc pl k _ (List.getElem?_eq_getElem hkl))
          generalize pl[k] = e at *
          obtain ⟨X1, hX1⟩ : ∃ X1, wr0.alloc (.cells #[.string ⟨e.key.toArray⟩, .int .u64 (e.seq : Int), .bool e.gone, .slice q3 e.val.length c3] 33) = X1 := ⟨_, rfl⟩
          have hbX1 : Below wr0.heap.size wr0 X1 := by rw [← hX1]; exact (Below.refl _ _).alloc (Nat.le_refl _) _
          have hX1b : X1.heap[wr0.heap.size]? = some (.cells #[.string ⟨e.key.toArray⟩, .int .u64 (e.seq : Int), .bool e.gone, .slice q3 e.val.length c3] 33 (0, 0)) := by rw [← hX1]; exact heap_alloc_new wr0 _
          have m0 := cell_of (i := 0) hX1b rfl
          have m1 := cell_of (i := 1) hX1b rfl
          have m2 := cell_of (i := 2) hX1b rfl
          have m3 := cell_of (i := 3) hX1b rfl
          have HMb := Lib.hid hX1b
          have hx1 := ((hbX1.block _ hbx.lt).trans hbx)
          have x0 := cell_of (i := 0) hx1 rfl
          have HBXd : Hid (Below wr0.heap.size wr0 X1.drew) := Lib.hid (below_drew hbX1)
          have HOwn : Hid (∀ V, Below wr0.heap.size wr0 V → Calls Try.prog 34 #[.agg #[.string ⟨e.key.toArray⟩, .int .u64 (e.seq : Int), .bool e.gone, .slice q3 e.val.length c3]] V fun r w' => ∃ p k, r = .returned (.agg #[.string ⟨e.key.toArray⟩, .int .u64 (e.seq : Int), .bool e.gone, .slice p e.val.length k]) ∧
              Own w' V.heap.size (.slice p e.val.length k) e.val ∧ Below V.heap.size V w') := Lib.hid (fun V hV => mg_own V _ e q3 c3 hfx (hV3.below hV))
          have HBx := Lib.hid hbx
          have HRow := Lib.hid hrow
          have HQ2 := Lib.hid hq2
          have HBw2 := Lib.hid hbw2
          have HSz3 := Lib.hid hsz2
          have HLn : Hid (ts.length + 1 ≤ 68719476736) := Lib.hid (by
            have h1 : ts.length = ((pre.map Prod.fst).flatMap (prn1 keep bot)).length + k := by
              have := congrArg List.length HTs.out
              rw [List.length_map, List.length_append, List.length_take] at this
              omega
            have := HTl.out
            have := HMul.out
            omega)
          clear htk hkp hkf hbx hrow hq2 hbw2 hsz2 hto2 hb3 hV3 hbX1 hX1b hx1 hfx hrun
          gi_wp2
          refine region_round (by kernel_rfl) (by kernel_rfl) ?_
          refine wpAny_ready (rs := [0, 1]) (by kernel_rfl) (by simp) (AllReady.cons rfl (fun K hK => ?_) (AllReady.cons rfl (fun K hK => ?_) (AllReady.nil)))
          · go_simp
            refine hK _ _ ?_
            clear hK K
            refine wpAny_ready (rs := [1]) (by kernel_rfl) (by simp) (AllReady.cons rfl (fun K hK => ?_) (AllReady.nil))
            go_simp
            refine hK _ _ ?_
            clear hK K
            refine wpAny_ready (rs := [2]) (by kernel_rfl) (by simp) (AllReady.cons rfl (fun K hK => ?_) (AllReady.nil))
            go_simp
            refine (HOwn.out _ HBXd.out).mono ?_
            rintro r w3 ⟨p3, k3, rfl, ho3, hb3'⟩
            have hb3 : Below wr0.heap.size wr0 w3 := HBXd.out.trans (hb3'.mono HBXd.out.size)
            obtain ⟨X3, hX3⟩ : ∃ X3, w3.alloc (.cells #[.string ⟨e.key.toArray⟩, .int .u64 (e.seq : Int), .bool e.gone, .slice p3 e.val.length k3] 33) = X3 := ⟨_, rfl⟩
            have hbX : Below wr0.heap.size wr0 X3 := (by rw [← hX3]; exact hb3.alloc hb3.size _)
            have hx3 := ((hb3.block _ HBx.out.lt).trans HBx.out)
            have x3 := cell_of (i := 0) hx3 rfl
            have hxX := ((hbX.block _ HBx.out.lt).trans HBx.out)
            have xX := cell_of (i := 0) hxX rfl
            have HXX := Lib.hid hxX
            have HRX : Hid (X3.ownsRow Y.heap.size 33 4 (.slice po ts.length co) ts.length (cellsE (ts.map Prod.fst) (ts.map TEnt.u))) := Lib.hid (row_keep HRow.out fun k hk => hbX.block k (row_lt HRow.out k hk))
            have HCX : Hid (Cl X3 (fun k => k = w3.heap.size) (.slice (some ⟨w3.heap.size, 0, none⟩) 1 1) 1 (cellsE [e] [.slice p3 e.val.length k3])) := Lib.hid (by
              have h9 := Cl.new w3 (fun k => k = w3.heap.size) 1 (cellsE [e] [.slice p3 e.val.length k3]) #[.string ⟨e.key.toArray⟩, .int .u64 (e.seq : Int), .bool e.gone, .slice p3 e.val.length k3] 33 rfl (by omega) rfl
              rw [hX3] at h9
              exact h9)
            have HSzX : Hid (Y.heap.size ≤ X3.heap.size) := Lib.hid (Nat.le_trans HSz3.out hbX.size)
            have HOne : Hid (∀ x ∈ cellsE [e] [.slice p3 e.val.length k3], x.oneCell' = true) := Lib.hid (cellsE_one _ _ (by simp [Value.oneCell']))
            have HBX := Lib.hid hbX
            have HO3 : Hid (Own X3 wr0.heap.size (.slice p3 e.val.length k3) e.val) := Lib.hid (by rw [← hX3]; exact (ho3.alloc _).more HBXd.out.size)
            clear hb3 hb3' ho3 hbX hx3 hxX
            dsimp only
            refine hK _ _ ?_
            clear hK K
            refine wpAny_ready (rs := [3]) (by kernel_rfl) (by simp) (AllReady.cons rfl (fun K hK => ?_) (AllReady.nil))
            go_simp
            refine hK _ _ ?_
            clear hK K
            refine wpAny_ready (rs := [4]) (by kernel_rfl) (by simp) (AllReady.cons rfl (fun K hK => ?_) (AllReady.nil))
            rw [if_pos (by rfl)]
            refine slEnt.wp_append (.tmp 47) (.tmp 50) rfl Y.heap.size (v := .slice po ts.length co) (u := .slice (some ⟨w3.heap.size, 0, none⟩) 1 1) rfl rfl HRX.out HCX.out rfl HOne.out HLn.out HSzX.out ?_
            intro v4 w4 ho4 hg4 _
            obtain ⟨p9, c9, rfl, _, _⟩ := row_shape ho4
            have hb4 : Below Y.heap.size X3 w4 := (Below.refl _ X3).grown hg4 HSzX.out (row_low HRX.out)
            have hx4 := ((hb4.block w1.heap.size (by have := HSz.out; omega)).trans HXX.out)
            have x4 := cell_of (i := 0) hx4 rfl
            have z4 := frozen_of (i := 0) hx4
            have HFin : Hid (PrI keep bot pl pre w Y w1 W (k + 1) (w4.setCell ⟨w1.heap.size, 0, none⟩ (.slice p9 (ts.length + 1) c9))) := Lib.hid (by
              have hq9 : ∀ y ∈ ts, QT (fun k => w.heap.size ≤ k) y X3 := fun y hy => (HQ2.out y hy).keep (fun j hj => by
                obtain ⟨cur, hcu⟩ := (HQ2.out y hy).1.heap hj
                exact HBX.out.block j (block_lt hcu)) (fun _ _ hs => hs)
              have hx9 : QT (fun k => w.heap.size ≤ k) (e, (p3, k3)) X3 := ⟨HO3.out.low, fun j hj => by have := HO3.out.block j hj; have := HSz.out; have := HSz3.out; omega⟩
              obtain ⟨k1, k2, k4⟩ := coll_add (x := (e, (p3, k3))) HXX.out HRX.out hq9 hx9 (HBw2.out.trans (HBX.out.mono HBw2.out.size)) HSzX.out (by have := HSz.out; omega) ho4 hg4
              exact ⟨ts ++ [(e, (p3, k3))], by rw [List.map_append, HTs.out, HTk.out, List.append_assoc]; rfl, k1, (HKp.out.trans (KpE.of_below HBX.out)).trans k2, (HKf.out.trans (keeps_below' HBX.out)).trans (k4 _)⟩)
            clear ho4 hg4 hb4 hx4
            refine hK _ _ ?_
            clear hK K
            refine wpAny_ready (rs := [5]) (by kernel_rfl) (by simp) (AllReady.cons rfl (fun K hK => ?_) (AllReady.nil))
            go_simp
            refine hK _ _ ?_
            clear hK K
            refine wpAny_done (by kernel_rfl) ?_ _
            refine ⟨rfl, ?_⟩
            gi_wp2
            go_roundw
            case rel => exact ⟨k + 1, by omega, by go_num, HFin.out⟩
            case measure => simp [intOf]; omega
          · go_simp
            refine hK _ _ ?_
            clear hK K
            refine wpAny_ready (rs := [0, 2]) (by kernel_rfl) (by simp) (AllReady.cons rfl (fun K hK => ?_) (AllReady.cons rfl (fun K hK => ?_) (AllReady.nil)))
            · go_simp
              refine hK _ _ ?_
              clear hK K
              refine wpAny_ready (rs := [2]) (by kernel_rfl) (by simp) (AllReady.cons rfl (fun K hK => ?_) (AllReady.nil))
              go_simp
              refine (HOwn.out _ HBXd.out).mono ?_
              rintro r w3 ⟨p3, k3, rfl, ho3, hb3'⟩
              have hb3 : Below wr0.heap.size wr0 w3 := HBXd.out.trans (hb3'.mono HBXd.out.size)
              obtain ⟨X3, hX3⟩ : ∃ X3, w3.alloc (.cells #[.string ⟨e.key.toArray⟩, .int .u64 (e.seq : Int), .bool e.gone, .slice p3 e.val.length k3] 33) = X3 := ⟨_, rfl⟩
              have hbX : Below wr0.heap.size wr0 X3 := (by rw [← hX3]; exact hb3.alloc hb3.size _)
              have hx3 := ((hb3.block _ HBx.out.lt).trans HBx.out)
              have x3 := cell_of (i := 0) hx3 rfl
              have hxX := ((hbX.block _ HBx.out.lt).trans HBx.out)
              have xX := cell_of (i := 0) hxX rfl
              have HXX := Lib.hid hxX
              have HRX : Hid (X3.ownsRow Y.heap.size 33 4 (.slice po ts.length co) ts.length (cellsE (ts.map Prod.fst) (ts.map TEnt.u))) := Lib.hid (row_keep HRow.out fun k hk => hbX.block k (row_lt HRow.out k hk))
              have HCX : Hid (Cl X3 (fun k => k = w3.heap.size) (.slice (some ⟨w3.heap.size, 0, none⟩) 1 1) 1 (cellsE [e] [.slice p3 e.val.length k3])) := Lib.hid (by
                have h9 := Cl.new w3 (fun k => k = w3.heap.size) 1 (cellsE [e] [.slice p3 e.val.length k3]) #[.string ⟨e.key.toArray⟩, .int .u64 (e.seq : Int), .bool e.gone, .slice p3 e.val.length k3] 33 rfl (by omega) rfl
                rw [hX3] at h9
                exact h9)
              have HSzX : Hid (Y.heap.size ≤ X3.heap.size) := Lib.hid (Nat.le_trans HSz3.out hbX.size)
              have HOne : Hid (∀ x ∈ cellsE [e] [.slice p3 e.val.length k3], x.oneCell' = true) := Lib.hid (cellsE_one _ _ (by simp [Value.oneCell']))
              have HBX := Lib.hid hbX
              have HO3 : Hid (Own X3 wr0.heap.size (.slice p3 e.val.length k3) e.val) := Lib.hid (by rw [← hX3]; exact (ho3.alloc _).more HBXd.out.size)
              clear hb3 hb3' ho3 hbX hx3 hxX
              dsimp only
              refine hK _ _ ?_
              clear hK K
              refine wpAny_ready (rs := [3]) (by kernel_rfl) (by simp) (AllReady.cons rfl (fun K hK => ?_) (AllReady.nil))
              go_simp
              refine hK _ _ ?_
              clear hK K
              refine wpAny_ready (rs := [4]) (by kernel_rfl) (by simp) (AllReady.cons rfl (fun K hK => ?_) (AllReady.nil))
              rw [if_pos (by rfl)]
              refine slEnt.wp_append (.tmp 47) (.tmp 50) rfl Y.heap.size (v := .slice po ts.length co) (u := .slice (some ⟨w3.heap.size, 0, none⟩) 1 1) rfl rfl HRX.out HCX.out rfl HOne.out HLn.out HSzX.out ?_
              intro v4 w4 ho4 hg4 _
              obtain ⟨p9, c9, rfl, _, _⟩ := row_shape ho4
              have hb4 : Below Y.heap.size X3 w4 := (Below.refl _ X3).grown hg4 HSzX.out (row_low HRX.out)
              have hx4 := ((hb4.block w1.heap.size (by have := HSz.out; omega)).trans HXX.out)
              have x4 := cell_of (i := 0) hx4 rfl
              have z4 := frozen_of (i := 0) hx4
              have HFin : Hid (PrI keep bot pl pre w Y w1 W (k + 1) (w4.setCell ⟨w1.heap.size, 0, none⟩ (.slice p9 (ts.length + 1) c9))) := Lib.hid (by
                have hq9 : ∀ y ∈ ts, QT (fun k => w.heap.size ≤ k) y X3 := fun y hy => (HQ2.out y hy).keep (fun j hj => by
                  obtain ⟨cur, hcu⟩ := (HQ2.out y hy).1.heap hj
                  exact HBX.out.block j (block_lt hcu)) (fun _ _ hs => hs)
                have hx9 : QT (fun k => w.heap.size ≤ k) (e, (p3, k3)) X3 := ⟨HO3.out.low, fun j hj => by have := HO3.out.block j hj; have := HSz.out; have := HSz3.out; omega⟩
                obtain ⟨k1, k2, k4⟩ := coll_add (x := (e, (p3, k3))) HXX.out HRX.out hq9 hx9 (HBw2.out.trans (HBX.out.mono HBw2.out.size)) HSzX.out (by have := HSz.out; omega) ho4 hg4
                exact ⟨ts ++ [(e, (p3, k3))], by rw [List.map_append, HTs.out, HTk.out, List.append_assoc]; rfl, k1, (HKp.out.trans (KpE.of_below HBX.out)).trans k2, (HKf.out.trans (keeps_below' HBX.out)).trans (k4 _)⟩)
              clear ho4 hg4 hb4 hx4
              refine hK _ _ ?_
              clear hK K
              refine wpAny_ready (rs := [5]) (by kernel_rfl) (by simp) (AllReady.cons rfl (fun K hK => ?_) (AllReady.nil))
              go_simp
              refine hK _ _ ?_
              clear hK K
              refine wpAny_done (by kernel_rfl) ?_ _
              refine ⟨rfl, ?_⟩
              gi_wp2
              go_roundw
              case rel => exact ⟨k + 1, by omega, by go_num, HFin.out⟩
              case measure => simp [intOf]; omega
            · go_simp
              refine (HOwn.out _ HBXd.out).mono ?_
              rintro r w3 ⟨p3, k3, rfl, ho3, hb3'⟩
              have hb3 : Below wr0.heap.size wr0 w3 := HBXd.out.trans (hb3'.mono HBXd.out.size)
              obtain ⟨X3, hX3⟩ : ∃ X3, w3.alloc (.cells #[.string ⟨e.key.toArray⟩, .int .u64 (e.seq : Int), .bool e.gone, .slice p3 e.val.length k3] 33) = X3 := ⟨_, rfl⟩
              have hbX : Below wr0.heap.size wr0 X3 := (by rw [← hX3]; exact hb3.alloc hb3.size _)
              have hx3 := ((hb3.block _ HBx.out.lt).trans HBx.out)
              have x3 := cell_of (i := 0) hx3 rfl
              have hxX := ((hbX.block _ HBx.out.lt).trans HBx.out)
              have xX := cell_of (i := 0) hxX rfl
              have HXX := Lib.hid hxX
              have HRX : Hid (X3.ownsRow Y.heap.size 33 4 (.slice po ts.length co) ts.length (cellsE (ts.map Prod.fst) (ts.map TEnt.u))) := Lib.hid (row_keep HRow.out fun k hk => hbX.block k (row_lt HRow.out k hk))
              have HCX : Hid (Cl X3 (fun k => k = w3.heap.size) (.slice (some ⟨w3.heap.size, 0, none⟩) 1 1) 1 (cellsE [e] [.slice p3 e.val.length k3])) := Lib.hid (by
                have h9 := Cl.new w3 (fun k => k = w3.heap.size) 1 (cellsE [e] [.slice p3 e.val.length k3]) #[.string ⟨e.key.toArray⟩, .int .u64 (e.seq : Int), .bool e.gone, .slice p3 e.val.length k3] 33 rfl (by omega) rfl
                rw [hX3] at h9
                exact h9)
              have HSzX : Hid (Y.heap.size ≤ X3.heap.size) := Lib.hid (Nat.le_trans HSz3.out hbX.size)
              have HOne : Hid (∀ x ∈ cellsE [e] [.slice p3 e.val.length k3], x.oneCell' = true) := Lib.hid (cellsE_one _ _ (by simp [Value.oneCell']))
              have HBX := Lib.hid hbX
              have HO3 : Hid (Own X3 wr0.heap.size (.slice p3 e.val.length k3) e.val) := Lib.hid (by rw [← hX3]; exact (ho3.alloc _).more HBXd.out.size)
              clear hb3 hb3' ho3 hbX hx3 hxX
              dsimp only
              refine hK _ _ ?_
              clear hK K
              refine wpAny_ready (rs := [0, 3]) (by kernel_rfl) (by simp) (AllReady.cons rfl (fun K hK => ?_) (AllReady.cons rfl (fun K hK => ?_) (AllReady.nil)))
              · go_simp
                refine hK _ _ ?_
                clear hK K
                refine wpAny_ready (rs := [3]) (by kernel_rfl) (by simp) (AllReady.cons rfl (fun K hK => ?_) (AllReady.nil))
                go_simp
                refine hK _ _ ?_
                clear hK K
                refine wpAny_ready (rs := [4]) (by kernel_rfl) (by simp) (AllReady.cons rfl (fun K hK => ?_) (AllReady.nil))
                rw [if_pos (by rfl)]
                refine slEnt.wp_append (.tmp 47) (.tmp 50) rfl Y.heap.size (v := .slice po ts.length co) (u := .slice (some ⟨w3.heap.size, 0, none⟩) 1 1) rfl rfl HRX.out HCX.out rfl HOne.out HLn.out HSzX.out ?_
                intro v4 w4 ho4 hg4 _
                obtain ⟨p9, c9, rfl, _, _⟩ := row_shape ho4
                have hb4 : Below Y.heap.size X3 w4 := (Below.refl _ X3).grown hg4 HSzX.out (row_low HRX.out)
                have hx4 := ((hb4.block w1.heap.size (by have := HSz.out; omega)).trans HXX.out)
                have x4 := cell_of (i := 0) hx4 rfl
                have z4 := frozen_of (i := 0) hx4
                have HFin : Hid (PrI keep bot pl pre w Y w1 W (k + 1) (w4.setCell ⟨w1.heap.size, 0, none⟩ (.slice p9 (ts.length + 1) c9))) := Lib.hid (by
                  have hq9 : ∀ y ∈ ts, QT (fun k => w.heap.size ≤ k) y X3 := fun y hy => (HQ2.out y hy).keep (fun j hj => by
                    obtain ⟨cur, hcu⟩ := (HQ2.out y hy).1.heap hj
                    exact HBX.out.block j (block_lt hcu)) (fun _ _ hs => hs)
                  have hx9 : QT (fun k => w.heap.size ≤ k) (e, (p3, k3)) X3 := ⟨HO3.out.low, fun j hj => by have := HO3.out.block j hj; have := HSz.out; have := HSz3.out; omega⟩
                  obtain ⟨k1, k2, k4⟩ := coll_add (x := (e, (p3, k3))) HXX.out HRX.out hq9 hx9 (HBw2.out.trans (HBX.out.mono HBw2.out.size)) HSzX.out (by have := HSz.out; omega) ho4 hg4
                  exact ⟨ts ++ [(e, (p3, k3))], by rw [List.map_append, HTs.out, HTk.out, List.append_assoc]; rfl, k1, (HKp.out.trans (KpE.of_below HBX.out)).trans k2, (HKf.out.trans (keeps_below' HBX.out)).trans (k4 _)⟩)
                clear ho4 hg4 hb4 hx4
                refine hK _ _ ?_
                clear hK K
                refine wpAny_ready (rs := [5]) (by kernel_rfl) (by simp) (AllReady.cons rfl (fun K hK => ?_) (AllReady.nil))
                go_simp
                refine hK _ _ ?_
                clear hK K
                refine wpAny_done (by kernel_rfl) ?_ _
                refine ⟨rfl, ?_⟩
                gi_wp2
                go_roundw
                case rel => exact ⟨k + 1, by omega, by go_num, HFin.out⟩
                case measure => simp [intOf]; omega
              · go_simp
                refine hK _ _ ?_
                clear hK K
                refine wpAny_ready (rs := [0]) (by kernel_rfl) (by simp) (AllReady.cons rfl (fun K hK => ?_) (AllReady.nil))
                go_simp
                refine hK _ _ ?_
                clear hK K
                refine wpAny_ready (rs := [4]) (by kernel_rfl) (by simp) (AllReady.cons rfl (fun K hK => ?_) (AllReady.nil))
                rw [if_pos (by rfl)]
                refine slEnt.wp_append (.tmp 47) (.tmp 50) rfl Y.heap.size (v := .slice po ts.length co) (u := .slice (some ⟨w3.heap.size, 0, none⟩) 1 1) rfl rfl HRX.out HCX.out rfl HOne.out HLn.out HSzX.out ?_
                intro v4 w4 ho4 hg4 _
                obtain ⟨p9, c9, rfl, _, _⟩ := row_shape ho4
                have hb4 : Below Y.heap.size X3 w4 := (Below.refl _ X3).grown hg4 HSzX.out (row_low HRX.out)
                have hx4 := ((hb4.block w1.heap.size (by have := HSz.out; omega)).trans HXX.out)
                have x4 := cell_of (i := 0) hx4 rfl
                have z4 := frozen_of (i := 0) hx4
                have HFin : Hid (PrI keep bot pl pre w Y w1 W (k + 1) (w4.setCell ⟨w1.heap.size, 0, none⟩ (.slice p9 (ts.length + 1) c9))) := Lib.hid (by
                  have hq9 : ∀ y ∈ ts, QT (fun k => w.heap.size ≤ k) y X3 := fun y hy => (HQ2.out y hy).keep (fun j hj => by
                    obtain ⟨cur, hcu⟩ := (HQ2.out y hy).1.heap hj
                    exact HBX.out.block j (block_lt hcu)) (fun _ _ hs => hs)
                  have hx9 : QT (fun k => w.heap.size ≤ k) (e, (p3, k3)) X3 := ⟨HO3.out.low, fun j hj => by have := HO3.out.block j hj; have := HSz.out; have := HSz3.out; omega⟩
                  obtain ⟨k1, k2, k4⟩ := coll_add (x := (e, (p3, k3))) HXX.out HRX.out hq9 hx9 (HBw2.out.trans (HBX.out.mono HBw2.out.size)) HSzX.out (by have := HSz.out; omega) ho4 hg4
                  exact ⟨ts ++ [(e, (p3, k3))], by rw [List.map_append, HTs.out, HTk.out, List.append_assoc]; rfl, k1, (HKp.out.trans (KpE.of_below HBX.out)).trans k2, (HKf.out.trans (keeps_below' HBX.out)).trans (k4 _)⟩)
                clear ho4 hg4 hb4 hx4
                refine hK _ _ ?_
                clear hK K
                refine wpAny_ready (rs := [5]) (by kernel_rfl) (by simp) (AllReady.cons rfl (fun K hK => ?_) (AllReady.nil))
                go_simp
                refine hK _ _ ?_
                clear hK K
                refine wpAny_done (by kernel_rfl) ?_ _
                refine ⟨rfl, ?_⟩
                gi_wp2
                go_roundw
                case rel => exact ⟨k + 1, by omega, by go_num, HFin.out⟩
                case measure => simp [intOf]; omega
        · obtain rfl : k = E := by omega
          have HFinE : Hid (KeepsFrom Y.heap.size W wr0 ∧ KpE (fun k => k = w1.heap.size) Y.heap.size W wr0 ∧ PrC keep bot es (fun k => w.heap.size ≤ k) w1.heap.size Y.heap.size w1 (pre ++ [(pl, (q, c))]) wr0) := Lib.hid (by
            have hts9 : ts.map Prod.fst = ((pre ++ [((pl, (q, c)) : Pc)]).map Prod.fst).flatMap (prn1 keep bot) := by
              rw [HTs.out, List.map_append, List.flatMap_append]
              simp [HPr.out]
            refine ⟨hkf, hkp, ts, hts9, ?_, HCl.out⟩
            have h1 := HTh.out k HIE.out
            have h2 := congrArg List.length HTs.out
            rw [List.length_map, List.length_append, List.length_take] at h2
            have := HIE.out
            omega)
          clear htk hcl hkp hkf
          gi_wp2
          exact HFinE.out
  case done =>
    rintro D ys W hD hS ⟨ts, hts, _, v', hbx, hrow, hq, hbw, hsz⟩ hK
    have hc := hbx.cell
    have hcm : Calm Y.heap.size W (W.putObj D (.deferred none)) := Calm.put _ hD hK rfl
    have htl : ts.map Prod.fst = prnE es keep bot := hts.trans (prn_pcs HSrt.out hS keep bot)
    have HEn : Hid (En (W.putObj D (.deferred none)) (fun k => w.heap.size ≤ k) v' (prnE es keep bot) ∧ Below w.heap.size w (W.putObj D (.deferred none))) := Lib.hid (by
      have hlen : (prnE es keep bot).length = ts.length := by rw [← htl, List.length_map]
      have hle : (prnE es keep bot).length ≤ es.length := List.length_filter_le _ _
      refine ⟨⟨ts.map TEnt.u, by simp [hlen], ?_, fun k e u h1 h2 => ?_⟩, ?_⟩
      · rw [← htl, List.length_map]
        exact Cl.of_own (hcm.row hrow) (by omega) (fun k hk => by have := row_low hrow k hk; have := HwY.out.size; omega) (by rw [cellsE_length _ _ (by simp), List.length_map])
      · rw [← htl] at h1
        have hkl : k < ts.length := by
          have := (List.getElem?_eq_some_iff.1 h1).1
          rwa [List.length_map] at this
        have e1 : ts[k].1 = e := by simpa [hkl] using h1
        have e2 : ts[k].u = u := by simpa [hkl] using h2
        subst e1 e2
        have hin : ts[k].1 ∈ prnE es keep bot := by rw [← htl]; exact List.mem_map_of_mem (List.getElem_mem hkl)
        have hf := HFit.out ts[k].1 (List.mem_filter.1 hin).1
        exact (hcm.ownS (hq ts[k] (List.getElem_mem hkl))).by_ (by have := hf.val; omega)
      · have h9 := hcm.below hbw H1Y.out.size (Nat.le_refl _)
        exact HB.out.trans ((HB1.out.trans (h9.mono HB1.out.size)).mono HB.out.size))
    have HK := Lib.hid hK
    clear hbx hrow hq hbw hK hcm hS hts htl
    gi_wp2
    refine ⟨by simp, .inl ⟨_, _, rfl, run_takeDeferred HK.out, ?_⟩⟩
    exact ⟨_, results_tmp2 rfl _ _ _, v', rfl, HEn.out⟩
  case stop =>
    rintro D c pre W _ _ h _
    exact h.elim
end Go.Proofs.Yteclnnjijfbfoaa
