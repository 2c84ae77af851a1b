import Derived.Test.YtagehnclkneolaaGreatDoorGSd

/-
  The walk over glacierref7.ending.
-/
namespace Go.Proofs.YtagehnclkneolaaGreatDoor
open Go.RowKit

theorem filB_len {es : List Ent} (hs : ShL es) : (filB es).length ≤ 1099511627776 := by
  have h1 := cntK_le es es.length
  have h2 := wgt_len es
  have h3 := hs.2
  unfold filB
  rw [filF_len, List.length_replicate]
  unfold filN
  omega

set_option maxRecDepth 100000 in
set_option maxHeartbeats 2000000 in
theorem refEnding_any (w : World) (F G : Nat → Prop) (q pb p : Option Addr) (c cb cap : Nat) (bl : List UInt8) (bks : List TBk) (es : List Ent) (base : Nat)
    (hown : Own w base (.slice q bl.length c) bl) (hbase : base ≤ w.heap.size) (hB : BkM w G (.slice pb bks.length cb) bks) (hE : En w F (.slice p es.length cap) es) (hs : ShL es)
    (hF : ∀ k, (Value.slice q bl.length c).ownBlock = some k → ¬ F k)
    (hbk : ∀ b ∈ bks, b.at_ < 4611686018427387904 ∧ b.len < 4611686018427387904) (hr : (idxR bks).length ≤ 8796093022208) (hbl : bl.length ≤ 8796093022208) :
    Calls Tryz.prog 33 #[.slice q bl.length c, .slice pb bks.length cb, .slice p es.length cap] w fun x w' => ∃ v', x = .returned v' ∧
      Own w' base v' (bl ++ frame (idxR bks) ++ frame (filB es) ++ footB bl.length (bl.length + (frame (idxR bks)).length) es.length) ∧ Below base w w' := by
  have HI := Lib.hid (refIndex_any w G pb cb bks hB hbk (by omega))
  have HE := Lib.hid hE
  have HO := Lib.hid hown
  have HF := Lib.hid hF
  have HS := Lib.hid hs
  have hlt0 : ∀ k, (Value.slice q bl.length c).ownBlock = some k → k < w.heap.size := fun k hk => (World.ownsRow.lt hown k hk).2
  have HLt0 := Lib.hid hlt0
  have hfb := filB_len hs
  have hel : es.length ≤ 1099511627776 := hs.len
  have hfi := (frame_length (idxR bks) (by omega)).1
  have hff := (frame_length (filB es) (by omega)).1
  have hl2 : (bl ++ frame (idxR bks)).length = bl.length + (frame (idxR bks)).length := List.length_append
  obtain ⟨L2, hL2⟩ : ∃ L2, bl ++ frame (idxR bks) = L2 := ⟨_, rfl⟩
  rw [hL2] at hl2
  have hl4 : (L2 ++ frame (filB es)).length = L2.length + (frame (filB es)).length := List.length_append
  obtain ⟨L4, hL4⟩ : ∃ L4, L2 ++ frame (filB es) = L4 := ⟨_, rfl⟩
  rw [hL4] at hl4
  rw [hL2, ← hl2, hL4]
  have hb2 : L2.length ≤ 20000000000000 := by omega
  have hb4 : L4.length ≤ 40000000000000 := by omega
  have HL2 := Lib.hid hL2
  have HL4 := Lib.hid hL4
  have HFt : Hid (footB bl.length L2.length es.length = footL bl.length L2.length es.length ++ four (crc (footL bl.length L2.length es.length))) := Lib.hid rfl
  have hftl := footB_len bl.length L2.length es.length
  generalize footB bl.length L2.length es.length = ft at *
  have hb5 : ft.length ≤ 28 := by omega
  clear hE hown hF hs hB hbk hlt0 hL2 hL4 hl2 hl4 hftl
  go_enter Tryz.func33, Tryz.ntmps33
  go_wp2_with fail
  refine HI.out.mono ?_
  rintro e w1 ⟨u1, rfl, hown1, hb1⟩
  have HU1 : Hid (By w1 (fun k => w.heap.size ≤ k ∧ k < w1.heap.size) u1 (idxR bks)) := Lib.hid (By.of_own hown1 (by omega) (fun k hk => World.ownsRow.lt hown1 k hk))
  have HO1 := Lib.hid (HO.out.after hb1)
  have HE1 := Lib.hid (HE.out.below hb1)
  have HB1 := Lib.hid hb1
  have hs1 := hb1.size
  have HC2 := Lib.hid (refFrame_only (.slice q bl.length c) u1 bl (idxR bks) base (fun k => w.heap.size ≤ k ∧ k < w1.heap.size) w1 HO1.out HU1.out (fun k hk h => by have := HLt0.out k hk; omega) (fun k h => h.2) (by omega) (by omega))
  rw [HL2.out] at HC2
  clear hown1 hb1 HU1 HI
  go_wp2_with fail
  refine HC2.out.mono ?_
  rintro e w2 ⟨v2, rfl, hown2, hon2⟩
  obtain ⟨q2, c2, rfl, _, _⟩ := hown2.shp
  have HO2 := Lib.hid hown2
  have HB2 : Hid (Below base w w2) := Lib.hid ((HB1.out.mono hbase).trans (hon2.below HO1.out (by omega)))
  have HE2 : Hid (En w2 F (.slice p es.length cap) es) := Lib.hid (HE1.out.step (Fr.grown (S := fun k => (Value.slice q bl.length c).ownBlock = some k) hon2.1 (fun _ hk => hk)) (fun k _ hFk hS => HF.out k hS hFk))
  have HC3 := Lib.hid (refFilter_any w2 F p cap es HE2.out HS.out)
  have hs2 := hon2.1.size
  have hlt2 : ∀ k, (Value.slice q2 L2.length c2).ownBlock = some k → k < w2.heap.size := fun k hk => (World.ownsRow.lt HO2.out k hk).2
  have HLt2 := Lib.hid hlt2
  clear hown2 hon2 HC2 hlt2
  go_wp2_with fail
  refine HC3.out.mono ?_
  rintro e w3 ⟨u3, rfl, hown3, hb3⟩
  have HU3 : Hid (By w3 (fun k => w2.heap.size ≤ k ∧ k < w3.heap.size) u3 (filB es)) := Lib.hid (By.of_own hown3 (by omega) (fun k hk => World.ownsRow.lt hown3 k hk))
  have HO3 := Lib.hid (HO2.out.after hb3)
  have HB3 := Lib.hid (HB2.out.trans (hb3.mono (by have := HB2.out.size; omega)))
  have hs3 := hb3.size
  have hB2s := HB2.out.size
  have HC4 := Lib.hid (refFrame_only (.slice q2 L2.length c2) u3 L2 (filB es) base (fun k => w2.heap.size ≤ k ∧ k < w3.heap.size) w3 HO3.out HU3.out (fun k hk h => by have := HLt2.out k hk; omega) (fun k h => h.2) (by omega) (by omega))
  rw [HL4.out] at HC4
  clear hown3 hb3 HU3 HC3
  go_wp2_with fail
  refine HC4.out.mono ?_
  rintro e w4 ⟨v4, rfl, hown4, hon4⟩
  obtain ⟨q4, c4, rfl, _, _⟩ := hown4.shp
  have HO4 := Lib.hid hown4
  have HB4 : Hid (Below base w w4) := Lib.hid (HB3.out.trans (hon4.below HO3.out (by omega)))
  have hs4 := hon4.1.size
  clear hown4 hon4 HC4
  have HC5 := Lib.hid (eight_any (.slice none 0 0) [] bl.length w4.heap.size w4 (own_nil _ _) (Nat.le_refl _) (by omega) (by simp))
  go_wp2_with fail
  refine HC5.out.mono ?_
  rintro e w5 ⟨f5, rfl, hown5, hon5⟩
  rw [List.nil_append] at hown5
  have HO5 := Lib.hid hown5
  have HB5 : Hid (Below w4.heap.size w4 w5) := Lib.hid (hon5.below (own_nil _ _) (Nat.le_refl _))
  have hs5 := HB5.out.size
  clear hown5 hon5 HC5
  have HC6 := Lib.hid (eight_any f5 (lowB 8 bl.length) L2.length w4.heap.size w5 HO5.out hs5 (by omega) (by rw [lowB_len]; omega))
  go_wp2_with fail
  refine HC6.out.mono ?_
  rintro e w6 ⟨f6, rfl, hown6, hon6⟩
  have HO6 := Lib.hid hown6
  have HB6 : Hid (Below w4.heap.size w4 w6) := Lib.hid (HB5.out.trans (hon6.below HO5.out hs5))
  have hs6 := HB6.out.size
  clear hown6 hon6 HC6
  have HC7 := Lib.hid (eight_any f6 (lowB 8 bl.length ++ lowB 8 L2.length) es.length w4.heap.size w6 HO6.out hs6 (by omega) (by simp [lowB_len]))
  go_wp2_with fail
  refine HC7.out.mono ?_
  rintro e w7 ⟨f7, rfl, hown7, hon7⟩
  have hfl : lowB 8 bl.length ++ lowB 8 L2.length ++ lowB 8 es.length = footL bl.length L2.length es.length := by simp [footL]
  rw [hfl] at hown7
  have HO7 := Lib.hid hown7
  have HB7 : Hid (Below w4.heap.size w4 w7) := Lib.hid (HB6.out.trans (hon7.below HO6.out hs6))
  have hs7 := HB7.out.size
  have hfll : (footL bl.length L2.length es.length).length ≤ 24 := by simp [footL, lowB_len]
  generalize footL bl.length L2.length es.length = fl at *
  clear hown7 hon7 HC7 hfl
  go_wp2_with fail
  refine (refSum_any f7 fl w7.heap.size w7 (HO7.out.rd (by omega))).mono ?_
  rintro e w7' ⟨rfl, rfl⟩
  have HC8 := Lib.hid (refFour_only f7 fl (crc fl) w4.heap.size w7 (crc_lt fl) HO7.out hs7 (by omega))
  rw [← HFt.out] at HC8
  go_wp2_with fail
  refine HC8.out.mono ?_
  rintro e w8 ⟨f8, rfl, hown8, hon8⟩
  have HO8 := Lib.hid (hown8.rd (by omega))
  have HB8 : Hid (Below w4.heap.size w4 w8) := Lib.hid (HB7.out.trans (hon8.below HO7.out hs7))
  have HO48 := Lib.hid (HO4.out.after HB8.out)
  have HB48 := Lib.hid (HB4.out.trans (HB8.out.mono (by have := HB4.out.size; omega)))
  have hs8 := HB48.out.size
  clear hown8 hon8 HC8
  go_wp2_with (at_builtin; refine wpList_append_rd rfl _ _ rfl base w8.heap.size _ _ _ ft rfl HO48.out rfl HO8.out (by omega) (by omega) ?_; intro v9 w9 hown9 hb9; have HO9 := Lib.hid hown9; have HB9 := Lib.hid (HB48.out.trans hb9); clear hown9 hb9)
  go_ret
  exact ⟨v9, rfl, HO9.out, HB9.out⟩
end Go.Proofs.YtagehnclkneolaaGreatDoor

/-
  The walk over glacierref7.Build.
-/
namespace Go.Proofs.YtagehnclkneolaaGreatDoor
open Go.RowKit

theorem slBk : SlT 44 76 3 32 :=
  ⟨Tryz.underlying44, by simp [Program.elem, Tryz.underlying44], fun _ => by kernel_rfl, ⟨.agg #[.int .i64 0, .int .i64 0, .string ⟨#[]⟩], by kernel_rfl, rfl⟩, by omega, by omega⟩
theorem row_after {w w' : World} {base : Nat} {e : TypeId} {s n : Nat} {v : Value} {xs : List Value} (h : w.ownsRow base e s v n xs) (hb : Below w.heap.size w w') : w'.ownsRow base e s v n xs :=
  row_keep h fun k hk => hb.block k (World.ownsRow.lt h k hk).2
theorem bkOf_len : ∀ (cs : List (List Ent)) (a : Nat), (bkOf a cs).length = cs.length
  | [], _ => rfl
  | c :: r, a => by simp only [bkOf, List.length_cons, bkOf_len r]
theorem bkOf_small : ∀ (cs : List (List Ent)) (a : Nat), ∀ b ∈ bkOf a cs, b.at_ + b.len ≤ a + (tabB cs).length
  | [], _, b, h => by cases h
  | c :: r, a, b, h => by
    simp only [bkOf, List.mem_cons] at h
    simp only [tabB, List.length_append]
    rcases h with rfl | h
    · simp only; omega
    · have := bkOf_small r _ b h
      omega
theorem flat_len : ∀ (cs : List (List Ent)), (∀ d ∈ cs, d ≠ []) → cs.length ≤ cs.flatten.length
  | [], _ => by simp
  | c :: r, h => by
    have h1 := flat_len r (fun d hd => h d (.tail _ hd))
    have h2 := List.length_pos_iff.2 (h c (.head _))
    simp only [List.length_cons, List.flatten_cons, List.length_append]
    omega
theorem cutE_go {block : Nat} {q r : List Ent} {e : Ent} (h : (pay (q ++ [e])).length < block) : cutE block q (e :: r) = cutE block (q ++ [e]) r := by
  simp only [cutE]; rw [if_neg (by omega)]
theorem cutE_cut {block : Nat} {q r : List Ent} {e : Ent} (h : block ≤ (pay (q ++ [e])).length ∨ r = []) : cutE block q (e :: r) = (q ++ [e]) :: cutE block [] r := by
  simp only [cutE]
  split
  · rfl
  · rcases h with h | h
    · omega
    · subst h; simp [cutE]
theorem hdK_at {es a q : List Ent} {e : Ent} {k : Nat} (h : es.take k = a ++ q) (hk : es[k]? = some e) : (es[a.length]?).map Ent.key = some (hdK (q ++ [e])) := by
  have h1 : es.take (k + 1) = a ++ (q ++ [e]) := by rw [List.take_add_one, hk, h]; simp
  have hl := congrArg List.length h1
  simp only [List.length_take, List.length_append, List.length_cons, List.length_nil] at hl
  have h2 : (es.take (k + 1))[a.length]? = (q ++ [e])[0]? := by
    rw [h1, List.getElem?_append_right (Nat.le_refl _), Nat.sub_self]
  rw [List.getElem?_take_of_lt (by omega)] at h2
  rw [h2]
  cases q with
  | nil => rfl
  | cons x r => rfl
theorem bkV_one (b : TBk) : ∀ x ∈ bkV b, x.oneCell' = true := by
  intro x hx
  simp only [bkV, List.mem_cons, List.not_mem_nil, or_false] at hx
  rcases hx with rfl | rfl | rfl <;> rfl

/-- The three rows that Build goes on with: the table so far, the block in the making, the blocks. -/
structure R3 (base : Nat) (w : World) (bv pv kv : Value) (L P : List UInt8) (bs : List TBk) : Prop where
  b : Own w base bv L
  p : Own w base pv P
  ne : ∀ j, bv.ownBlock = some j → pv.ownBlock ≠ some j
  k : w.ownsRow base 76 3 kv bs.length (cellsBk bs)
section
variable {base : Nat} {w w' : World} {bv pv kv b' p' k' : Value} {L P L' P' : List UInt8} {bs : List TBk}
theorem R3.bk (h : Own w base bv L) (k : w.ownsRow base 76 3 kv bs.length (cellsBk bs)) {j : Nat} (hb : bv.ownBlock = some j) (hk : kv.ownBlock = some j) : False := by
  obtain ⟨c1, h1⟩ := h.heap hb
  obtain ⟨c2, h2⟩ := row_heap k hk
  exact kind_ne h1 h2 (by decide) rfl
theorem R3.p_step (h : R3 base w bv pv kv L P bs) (ho : Own w' base p' P') (hon : Only w pv w' p') : R3 base w' bv p' kv L P' bs := by
  refine ⟨h.b.keep fun j hj => hon.1.block j (World.ownsRow.lt h.b j hj).2 (fun e => h.ne j hj e.symm), ho, fun j hj e => ?_, row_keep h.k fun j hj => hon.1.block j (World.ownsRow.lt h.k j hj).2 (fun e => R3.bk h.p h.k e.symm hj)⟩
  rcases hon.2 with h1 | h1
  · exact h.ne j hj (h1 ▸ e)
  · have h2 := h1 j e
    have h3 := (World.ownsRow.lt h.b j hj).2
    omega
theorem R3.b_step (h : R3 base w bv pv kv L P bs) (ho : Own w' base b' L') (hon : Only w bv w' b') : R3 base w' b' (.slice none 0 0) kv L' [] bs :=
  ⟨ho, own_nil _ _, fun j _ e => by simp [Value.ownBlock] at e, row_keep h.k fun j hj => hon.1.block j (World.ownsRow.lt h.k j hj).2 (fun e => R3.bk h.b h.k e.symm hj)⟩
theorem R3.k_step (h : R3 base w bv pv kv L P bs) (o : Obj) {n : Nat} {x : TBk} (hk : w'.ownsRow base 76 3 k' n (cellsBk bs ++ bkV x)) (hn : n = bs.length + 1) (hg : (w.alloc o).grownBy w' kv.ownBlock) : R3 base w' bv (.slice none 0 0) k' L [] (bs ++ [x]) := by
  have ha : ∀ j, bv.ownBlock = some j → w'.heap[j]? = w.heap[j]? := fun j hj => by
    have hl := (World.ownsRow.lt h.b j hj).2
    exact (hg.block j (Nat.lt_of_lt_of_le hl (by simp)) (fun e => R3.bk h.b h.k hj e.symm)).trans (alloc_old hl o)
  refine ⟨h.b.keep ha, own_nil _ _, fun j _ e => by simp [Value.ownBlock] at e, ?_⟩
  rw [List.length_append, List.length_singleton, ← hn]
  have e : cellsBk (bs ++ [x]) = cellsBk bs ++ bkV x := by simp [cellsBk]
  rw [e]
  exact hk
end

set_option maxRecDepth 100000 in
set_option maxHeartbeats 2000000 in
theorem refBuild_any (w : World) (F : Nat → Prop) (p : Option Addr) (cap : Nat) (es : List Ent) (block : Int) (h : En w F (.slice p es.length cap) es) (hs : ShL es) (hb1 : -9223372036854775808 ≤ block) (hb2 : block ≤ 9223372036854775807) :
    Calls Tryz.prog 9 #[.slice p es.length cap, .int .i64 block] w fun x w' => (∃ u, x = .returned (.tuple #[u, .int .i64 (refN block es : Int)]) ∧
      ((refN block es = 0 ∧ Own w' w.heap.size u (tblB block.toNat es)) ∨ (refN block es ≠ 0 ∧ u = .slice none 0 0))) ∧ Below w.heap.size w w' := by
  have hR := r6_right w F _ es h
  have hE0 : En w (fun k => F k ∧ k < w.heap.size) (.slice p es.length cap) es := h.mono (fun k hk hF => ⟨hF, hk⟩)
  obtain ⟨_, _, he, hlc, hl47, hcm, _⟩ := h.form
  simp only [Value.slice.injEq] at he
  obtain ⟨rfl, _, rfl⟩ := he
  have HE := Lib.hid hE0
  have HR := Lib.hid hR
  have HS := Lib.hid hs
  have hel := hs.len
  have hel31 : 31 * es.length ≤ 1099511627776 := Nat.le_trans (wgt_len es) hs.2
  have HR15 := Lib.hid (@refN_order block es)
  have HR3 := Lib.hid (@refN_long block es)
  have HR0 := Lib.hid (@refN_ok block es)
  have HR1 := Lib.hid (@refN_arg block es)
  clear h hs hR hE0
  generalize refN block es = rn at *
  by_cases h1 : block < 1
  · have d1 : decide (block < 1) = true := decide_eq_true h1
    have HN := Lib.hid (HR1.out (.inl h1))
    clear h1
    go_enter Tryz.func9, Tryz.ntmps9
    go_wp2_with fail
    refine Go.bodyPost_ret (Go.results_tmp2 rfl _ _ _) rfl ?_
    rw [HN.out]
    exact ⟨⟨_, rfl, .inr ⟨by omega, rfl⟩⟩, Below.refl _ _⟩
  · have d1 : decide (block < 1) = false := decide_eq_false h1
    by_cases h2 : 67108864 < block
    · have d2 : decide ((67108864 : Int) < block) = true := decide_eq_true h2
      have HN := Lib.hid (HR1.out (.inr h2))
      clear h1 h2
      go_enter Tryz.func9, Tryz.ntmps9
      go_wp2_with fail
      refine Go.bodyPost_ret (Go.results_tmp2 rfl _ _ _) rfl ?_
      rw [HN.out]
      exact ⟨⟨_, rfl, .inr ⟨by omega, rfl⟩⟩, Below.refl _ _⟩
    · have d2 : decide ((67108864 : Int) < block) = false := decide_eq_false h2
      have HBd := Lib.hid (And.intro (show 1 ≤ block by omega) (show block ≤ 67108864 by omega))
      clear h1 h2
      generalize hrt : rightE es = rt at *
      cases rt
      · have HN := Lib.hid (HR15.out HBd.out.1 HBd.out.2 rfl)
        go_enter Tryz.func9, Tryz.ntmps9
        go_wp2_with fail
        refine HR.out.mono ?_
        rintro y w1 ⟨rfl, hb⟩
        have HB := Lib.hid hb
        clear hb
        go_wp2_with fail
        refine Go.bodyPost_ret (Go.results_tmp2 rfl _ _ _) rfl ?_
        rw [HN.out]
        exact ⟨⟨_, rfl, .inr ⟨by omega, rfl⟩⟩, HB.out⟩
      · clear hrt
        obtain ⟨bn, rfl⟩ : ∃ bn : Nat, block = (bn : Int) := ⟨block.toNat, by have := HBd.out.1; omega⟩
        rw [Int.toNat_natCast]
        go_enter Tryz.func9, Tryz.ntmps9
        go_wp2_with fail
        refine HR.out.mono ?_
        rintro y w1 ⟨rfl, hb⟩
        have HB := Lib.hid hb
        clear hb
        go_wp2_with fail
        go_loopw [6] (fun i wr => ∃ k : Nat, k ≤ es.length ∧ i = .int .i64 (k : Int) ∧ Below w.heap.size w wr ∧ (es.take k).any longE = false) (fun i _ => es.length - (intOf i).toNat)
        case atStart => exact ⟨0, by omega, rfl, HB.out, by simp⟩
        case round =>
          obtain ⟨k, hk, rfl, hb, hno⟩ := hrel
          have HB1 := Lib.hid hb
          have HNo := Lib.hid hno
          clear hno
          by_cases hlt : k < es.length
          · have d3 : decide ((k : Int) < (es.length : Int)) = true := decide_eq_true (by omega)
            obtain ⟨b1, off1, q2, c2, rfl, hbl, _, hV1, e0, e1, e2, e3⟩ := (HE.out.below hb).at_ (List.getElem?_eq_getElem hlt)
            have HSn : Hid ((es.take (k + 1)).any longE = longE es[k]) := Lib.hid (by rw [List.take_add_one, List.getElem?_eq_getElem hlt, List.any_append, HNo.out]; simp)
            have HAny : Hid (longE es[k] = true → es.any longE = true) := Lib.hid (fun h => List.any_eq_true.2 ⟨es[k], List.getElem_mem hlt, h⟩)
            generalize es[k] = x at *
            clear hb hV1 e1 e2
            have hsz : (⟨x.key.toArray⟩ : ByteArray).size = x.key.length := by simp [ByteArray.size]
            by_cases g1 : 65535 < x.key.length
            · have d4 : decide ((65535 : Int) < (x.key.length : Int)) = true := decide_eq_true (by omega)
              have HN := Lib.hid (HR3.out HBd.out.1 HBd.out.2 (by first | rfl | trivial) (HAny.out (by simp [longE, g1])))
              clear g1
              go_wp2_with fail
              refine Go.bodyPost_ret (Go.results_tmp2 rfl _ _ _) rfl ?_
              rw [HN.out]
              exact ⟨⟨_, rfl, .inr ⟨by omega, rfl⟩⟩, HB1.out⟩
            · have d4 : decide ((65535 : Int) < (x.key.length : Int)) = false := decide_eq_false (by omega)
              by_cases g2 : 33554432 < x.val.length
              · have d5 : decide ((33554432 : Int) < (x.val.length : Int)) = true := decide_eq_true (by omega)
                have HN := Lib.hid (HR3.out HBd.out.1 HBd.out.2 (by first | rfl | trivial) (HAny.out (by simp [longE, g2])))
                clear g1 g2
                go_wp2_with fail
                refine Go.bodyPost_ret (Go.results_tmp2 rfl _ _ _) rfl ?_
                rw [HN.out]
                exact ⟨⟨_, rfl, .inr ⟨by omega, rfl⟩⟩, HB1.out⟩
              · have d5 : decide ((33554432 : Int) < (x.val.length : Int)) = false := decide_eq_false (by omega)
                have HL : Hid (longE x = false) := Lib.hid (by simp [longE]; omega)
                clear g1 g2
                go_wp2_with fail
                go_roundw
                case rel => exact ⟨k + 1, by omega, by go_num, HB1.out, by rw [HSn.out, HL.out]⟩
                case measure => simp [intOf]; omega
          · obtain rfl : k = es.length := by omega
            have hno := HNo.out
            rw [List.take_length] at hno
            have HN := Lib.hid (HR0.out HBd.out.1 HBd.out.2 (by first | rfl | trivial) hno)
            clear hb hno HNo HR0 HR1 HR15 HR3 HR
            go_wp2_with fail
            generalize wr = wA at *
            go_loopw [7, 8, 9, 10, 11] (fun bv pv kv fv iv wr => ∃ (k n0 : Nat) (cs : List (List Ent)) (q : List Ent), k ≤ es.length ∧ iv = .int .i64 (k : Int) ∧ fv = .int .i64 (n0 : Int) ∧ cs.flatten.length = n0 ∧ es.take k = cs.flatten ++ q ∧ cutE bn [] es = cs ++ cutE bn q (es.drop k) ∧ (∀ d ∈ cs, d ≠ []) ∧ (k = es.length → q = []) ∧ R3 w.heap.size wr bv pv kv (tabB cs) (pay q) (bkOf 0 cs) ∧ Below w.heap.size w wr) (fun _ _ _ _ iv _ => es.length - (intOf iv).toNat)
            case atStart => exact ⟨0, 0, [], [], by omega, rfl, rfl, rfl, by simp, by simp, by simp, fun _ => rfl, ⟨own_nil _ _, own_nil _ _, fun j hj => by simp [Value.ownBlock] at hj, World.ownsRow_nil _ _ _ _⟩, HB1.out⟩
            case round =>
              obtain ⟨k, n0, cs, q, hk, rfl, rfl, hn0, htk, hcut, hne, hq0, hr3, hb⟩ := hrel
              generalize wr = wz at *
              have HTk := Lib.hid htk
              have HN0 := Lib.hid hn0
              have HCut := Lib.hid hcut
              have HNe := Lib.hid hne
              have HQ0 := Lib.hid hq0
              have HR := Lib.hid hr3
              have HBz := Lib.hid hb
              have HSk : Hid (ShL cs.flatten) := Lib.hid (by have h := HS.out.take k; rw [htk] at h; exact h.left)
              have htl := tab_room cs hne HSk.out
              have hcw := HSk.out.2
              have hfk : n0 ≤ k := by have := congrArg List.length htk; simp only [List.length_take, List.length_append] at this; omega
              have hcl := flat_len cs hne
              rw [hn0] at hcl
              have hbs := hb.size
              obtain ⟨qb, cb, rfl, _, _⟩ := hr3.b.shp
              obtain ⟨qp, cp, rfl, _, _⟩ := hr3.p.shp
              clear htk hcut hne hq0 hr3 hn0
              by_cases hlt : k < es.length
              · have d3 : decide ((k : Int) < (es.length : Int)) = true := decide_eq_true (by omega)
                obtain ⟨b1, off1, q2, c2, rfl, hbl, _, hV1, e0, e1, e2, e3⟩ := (HE.out.below hb).at_ (List.getElem?_eq_getElem hlt)
                have HDr : Hid (es.drop k = es[k] :: es.drop (k + 1)) := Lib.hid (List.drop_eq_getElem_cons hlt)
                have htk1 : es.take (k + 1) = cs.flatten ++ (q ++ [es[k]]) := by rw [List.take_add_one, List.getElem?_eq_getElem hlt, HTk.out]; simp
                have HTk1 := Lib.hid htk1
                have HHd : Hid ((es[n0]?).map Ent.key = some (hdK (q ++ [es[k]]))) := Lib.hid (by rw [← HN0.out]; exact hdK_at HTk.out (List.getElem?_eq_getElem hlt))
                have HSm := Lib.hid (HS.out.small (List.getElem_mem hlt))
                have HSe := Lib.hid (HS.out.e (List.getElem_mem hlt))
                have HPs := Lib.hid (pay_snoc q es[k])
                have HPl : Hid ((pay (q ++ [es[k]])).length ≤ 1099511627776) := Lib.hid (by have h := HS.out.take (k + 1); rw [htk1] at h; exact h.right.pay)
                have hpl := HPl.out
                rw [HPs.out, List.length_append] at hpl
                have HC1 := Lib.hid (refEntry_only wz (.slice qp (pay q).length cp) (pay q) w.heap.size (fun k => F k ∧ k < w.heap.size) es[k] q2 c2 HR.out.p hV1 (fun j hj hF => by have := (World.ownsRow.lt HR.out.p j hj).1; omega) (fun j hj => by omega) hbs HSe.out.2.1 (by have := HSm.out; omega))
                rw [← HPs.out] at HC1
                generalize es[k] = x at *
                have HVz := Lib.hid hV1
                have HTn := Lib.hid (tabB_snoc cs (q ++ [x]))
                have HBn := Lib.hid (bkOf_snoc cs 0 (q ++ [x]))
                have HGo := Lib.hid (@cutE_go bn q (es.drop (k + 1)) x)
                have HCu := Lib.hid (@cutE_cut bn q (es.drop (k + 1)) x)
                have HFl : Hid ((cs ++ [q ++ [x]]).flatten = es.take (k + 1)) := Lib.hid (by rw [htk1]; simp)
                have hq1 : (q ++ [x]) ≠ [] := by simp
                have HQ1 := Lib.hid hq1
                obtain ⟨P1, hP1⟩ : ∃ P1, pay (q ++ [x]) = P1 := ⟨_, rfl⟩
                have HPy := Lib.hid hP1
                rw [hP1] at HC1 HPl HTn HBn HGo HCu
                clear hP1 HPs
                have hpl1 := HPl.out
                have hfr := (frame_length P1 (by omega)).1
                have hwl : IntKind.i64.wrap ((es.length : Int) - 1) = (es.length : Int) - 1 := IntWalk.i64_in _ (by omega)
                clear hb hV1 htk1 hpl hq1
                go_wp2_with fail
                refine HC1.out.mono ?_
                rintro y w1 ⟨p1, rfl, hown1, hon1⟩
                have HR1 := Lib.hid (HR.out.p_step hown1 hon1)
                have HBw1 : Hid (Below w.heap.size w w1) := Lib.hid (HBz.out.trans (hon1.below HR.out.p hbs))
                have hs1 := HBw1.out.size
                obtain ⟨q1, c1, rfl, _, _⟩ := hown1.shp
                clear hown1 hon1 HC1 e0 e1 e2 e3
                by_cases g1 : bn ≤ P1.length ∨ k + 1 = es.length
                · have hways : (decide ((bn : Int) ≤ (P1.length : Int)) = true ∧ decide (bn ≤ P1.length) = true) ∨ (decide ((bn : Int) ≤ (P1.length : Int)) = false ∧ decide (bn ≤ P1.length) = false ∧ ((k : Int) == (es.length : Int) - 1) = true) := by
                    rcases Nat.lt_or_ge P1.length bn with h1 | h1
                    · right
                      refine ⟨decide_eq_false (by omega), decide_eq_false (by omega), ?_⟩
                      rcases g1 with g1 | g1
                      · omega
                      · simp; omega
                    · left; exact ⟨decide_eq_true (by omega), decide_eq_true (by omega)⟩
                  have HCn : Hid (cutE bn [] es = (cs ++ [q ++ [x]]) ++ cutE bn [] (es.drop (k + 1))) := Lib.hid (by
                    rw [HCut.out, HDr.out, HCu.out (g1.imp id fun h => by rw [h, List.drop_length])]
                    simp)
                  have HC2 := Lib.hid (refFrame_only (.slice qb (tabB cs).length cb) (.slice q1 P1.length c1) (tabB cs) P1 w.heap.size (fun j => (Value.slice q1 P1.length c1).ownBlock = some j) w1 HR1.out.b (By.of_own HR1.out.p (by omega) (fun _ h => h)) (fun j hj e => HR1.out.ne j hj e) (fun j hj => (World.ownsRow.lt HR1.out.p j hj).2) hs1 (by omega))
                  rw [← HTn.out] at HC2
                  have hT2 : (tabB (cs ++ [q ++ [x]])).length = (tabB cs).length + (frame P1).length := by rw [HTn.out, List.length_append]
                  have hwS : IntKind.i64.wrap (((tabB (cs ++ [q ++ [x]])).length : Int) - ((tabB cs).length : Int)) = ((frame P1).length : Int) := by rw [IntWalk.i64_in _ (by omega)]; omega
                  have hfk2 : n0 < es.length := by omega
                  have hkey : (es[n0]).key = hdK (q ++ [x]) := by have h := HHd.out; rw [List.getElem?_eq_getElem hfk2] at h; simpa using h
                  have HCn2 := HCn
                  have HKl : Hid ((bkOf 0 cs).length = cs.length) := Lib.hid (bkOf_len cs 0)
                  rw [Nat.zero_add] at HBn
                  clear hT2 g1
                  rcases hways with ⟨d5, d5n⟩ | ⟨d5, d5n, d6⟩
                  all_goals
                    go_wp2_with fail
                    refine HC2.out.mono ?_
                    rintro y w2 ⟨b2, rfl, hown2, hon2⟩
                    have HR2 := Lib.hid (HR1.out.b_step hown2 hon2)
                    have HBw2 : Hid (Below w.heap.size w w2) := Lib.hid (HBw1.out.trans (hon2.below HR1.out.b hs1))
                    have hs2 := HBw2.out.size
                    obtain ⟨qb2, cb2, rfl, _, _⟩ := hown2.shp
                    obtain ⟨b3, off3, q3, c3, hp3, hbl3, _, _, e0, _, _, _⟩ := (HE.out.below HBw2.out).at_ (List.getElem?_eq_getElem hfk2)
                    obtain ⟨rfl, rfl⟩ : b1 = b3 ∧ off1 = off3 := by simpa using hp3
                    rw [hkey] at e0
                    have HRow := Lib.hid ((row_after HR2.out.k (below_alloc w2 (.cells #[.int .i64 ((tabB cs).length : Int), .int .i64 ((frame P1).length : Int), .string ⟨(hdK (q ++ [x])).toArray⟩] 76))))
                    have HNew := Lib.hid (Cl.new w2 (fun _ => True) 1 (bkV ⟨(tabB cs).length, (frame P1).length, hdK (q ++ [x])⟩) #[.int .i64 ((tabB cs).length : Int), .int .i64 ((frame P1).length : Int), .string ⟨(hdK (q ++ [x])).toArray⟩] 76 rfl (by omega) trivial)
                    have HOne := Lib.hid (bkV_one ⟨(tabB cs).length, (frame P1).length, hdK (q ++ [x])⟩)
                    have HLn : Hid ((bkOf 0 cs).length + 1 ≤ 68719476736) := Lib.hid (by rw [HKl.out]; omega)
                    clear hown2 hon2 hp3 hbl3
                    go_wp2_with (at_builtin; refine slBk.wpList_append rfl (.tmp 72) (.tmp 84) rfl w.heap.size (v := _) (u := .slice (some ⟨w2.heap.size, 0, none⟩) 1 1) rfl rfl HRow.out HNew.out rfl HOne.out HLn.out (Nat.le_trans hs2 (by simp)) ?_; intro k3 w3 hok3 hg3 ha3; have HR3' := Lib.hid (HR2.out.k_step _ hok3 rfl hg3); have HBw3 := Lib.hid ((HBw2.out.alloc HBw2.out.size _).grown hg3 (Nat.le_trans hs2 (by simp)) (fun j hj => (World.ownsRow.lt HR2.out.k j hj).1)); clear hok3 hg3 ha3)
                    go_roundw
                    case rel =>
                      refine ⟨k + 1, k + 1, cs ++ [q ++ [x]], [], by omega, by go_num, by go_num, ?_, by rw [List.append_nil, HFl.out], HCn.out, ?_, fun _ => rfl, ?_, HBw3.out⟩
                      · rw [HFl.out, List.length_take, Nat.min_eq_left (by omega)]
                      · intro d hd
                        rcases List.mem_append.1 hd with h | h
                        · exact HNe.out d h
                        · rw [List.mem_singleton.1 h]; exact HQ1.out
                      · rw [HBn.out]
                        exact HR3'.out
                    case measure => simp [intOf]; omega
                · have d5 : decide ((bn : Int) ≤ (P1.length : Int)) = false := decide_eq_false (by omega)
                  have d5n : decide (bn ≤ P1.length) = false := decide_eq_false (by omega)
                  have d6 : ((k : Int) == (es.length : Int) - 1) = false := by simp; omega
                  have HCn : Hid (cutE bn [] es = cs ++ cutE bn (q ++ [x]) (es.drop (k + 1))) := Lib.hid (by rw [HCut.out, HDr.out, HGo.out (by omega)])
                  have HK1 : Hid (k + 1 ≠ es.length) := Lib.hid (fun e => g1 (.inr e))
                  clear g1
                  go_wp2_with fail
                  go_roundw
                  case rel => exact ⟨k + 1, n0, cs, q ++ [x], by omega, by go_num, rfl, HN0.out, HTk1.out, HCn.out, HNe.out, fun e => absurd e HK1.out, by rw [HPy.out]; exact HR1.out, HBw1.out⟩
                  case measure => simp [intOf]; omega
              · obtain rfl : k = es.length := by omega
                obtain rfl := HQ0.out rfl
                have hcs : cutE bn [] es = cs := by rw [HCut.out, List.drop_length]; simp [cutE]
                have hfl : cs.flatten = es := by have := HTk.out; rw [List.take_length, List.append_nil] at this; exact this.symm
                have HTbl : Hid (tblB bn es = tabB cs ++ frame (idxR (bkOf 0 cs)) ++ frame (filB es) ++ footB (tabB cs).length ((tabB cs).length + (frame (idxR (bkOf 0 cs))).length) es.length) := Lib.hid (by unfold tblB endB; rw [hcs, idxR_bk]; simp [List.append_assoc])
                have hil := idx_room cs 0 HNe.out HSk.out (by omega)
                have hsm := bkOf_small cs 0
                have HCl : Hid (BkM wz (fun _ => True) _ (bkOf 0 cs)) := Lib.hid (Cl.of_own HR.out.k (by rw [bkOf_len]; omega) (fun _ _ => trivial) (cellsBk_len _))
                obtain ⟨pk, ck, rfl, _⟩ := Cl.form HCl.out
                have HEnd := Lib.hid (refEnding_any wz (fun k => F k ∧ k < w.heap.size) (fun _ => True) qb pk p cb ck cap (tabB cs) (bkOf 0 cs) es w.heap.size HR.out.b hbs HCl.out (HE.out.below hb) HS.out (fun j hj hF => by have := (World.ownsRow.lt HR.out.b j hj).1; omega) (fun b hm => by have := hsm b hm; omega) (by rw [idxR_bk]; omega) (by omega))
                rw [← HTbl.out] at HEnd
                clear hb hcs hfl hil hsm
                go_wp2_with fail
                refine HEnd.out.mono ?_
                rintro y w9 ⟨v9, rfl, hown9, hb9⟩
                have HO9 := Lib.hid hown9
                have HB9 := Lib.hid hb9
                clear hown9 hb9
                go_wp2_with fail
                refine Go.bodyPost_ret (Go.results_tmp2 rfl _ _ _) rfl ?_
                rw [HN.out]
                exact ⟨⟨v9, rfl, .inl ⟨rfl, HO9.out⟩⟩, HBz.out.trans HB9.out⟩
end Go.Proofs.YtagehnclkneolaaGreatDoor
