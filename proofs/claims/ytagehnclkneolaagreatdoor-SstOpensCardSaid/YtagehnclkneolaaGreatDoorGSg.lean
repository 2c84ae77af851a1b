import Derived.Test.YtagehnclkneolaaGreatDoorGSf
import Derived.Test.YtagehnclkneolaaGreatDoorMgB
import Derived.Test.YtagehnclkneolaaGreatDoorEnH
import Derived.Test.YtagehnclkneolaaGreatDoorGQb

/-
  The entries that a table reads, in memory: a row of the call's own with values of its own; one more is laid behind.
-/
namespace Go.Proofs.YtagehnclkneolaaGreatDoor
open Go.RowKit

/-- A row of versions of the call's own, each value a row of the call's own. -/
structure EnR (w : World) (base : Nat) (v : Value) (es : List Ent) (us : List Value) : Prop where
  len : us.length = es.length
  row : w.ownsRow base 37 4 v es.length (cellsE es us)
  val : ∀ (k : Nat) (e : Ent) (u : Value), es[k]? = some e → us[k]? = some u → Own w base u e.val
section
variable {w w' : World} {base : Nat} {v : Value} {es : List Ent} {us : List Value}
theorem EnR.nil (w : World) (base : Nat) : EnR w base (.slice none 0 0) [] [] := ⟨rfl, World.ownsRow_nil _ _ _ _, fun k e u h => by simp at h⟩
theorem EnR.keep (h : EnR w base v es us) (hk : ∀ k, v.ownBlock = some k → w'.heap[k]? = w.heap[k]?) (hu : ∀ u ∈ us, ∀ k, u.ownBlock = some k → w'.heap[k]? = w.heap[k]?) : EnR w' base v es us :=
  ⟨h.len, row_keep h.row hk, fun k e u h1 h2 => (h.val k e u h1 h2).keep (hu u (List.mem_of_getElem? h2))⟩
theorem EnR.mem (h : EnR w base v es us) {u : Value} (hu : u ∈ us) : ∃ l, Own w base u l := by
  obtain ⟨k, hk, rfl⟩ := List.getElem_of_mem hu
  have hk2 : k < es.length := by rw [← h.len]; exact hk
  exact ⟨_, h.val k _ _ (List.getElem?_eq_getElem hk2) (List.getElem?_eq_getElem hk)⟩
theorem EnR.lt (h : EnR w base v es us) {u : Value} (hu : u ∈ us) {k : Nat} (hk : u.ownBlock = some k) : base ≤ k ∧ k < w.heap.size := by
  obtain ⟨l, ho⟩ := h.mem hu
  exact World.ownsRow.lt ho k hk
theorem EnR.after (h : EnR w base v es us) (hb : Below w.heap.size w w') : EnR w' base v es us :=
  h.keep (fun k hk => hb.block k (row_lt h.row k hk)) (fun _ hu _ hk => hb.block _ (h.lt hu hk).2)
/-- Blocks of other kinds. -/
theorem EnR.step (h : EnR w base v es us) {S : Nat → Prop} (hf : Fr S w w') (h1 : ∀ k, v.ownBlock = some k → ¬ S k) (h2 : ∀ u ∈ us, ∀ k, u.ownBlock = some k → ¬ S k) : EnR w' base v es us :=
  h.keep (fun k hk => hf.block k (row_lt h.row k hk) (h1 k hk)) (fun u hu k hk => hf.block k (h.lt hu hk).2 (h2 u hu k hk))
theorem EnR.ne_kind (h : EnR w base v es us) {b : Nat} {c : Array Value} {t : TypeId} {z : Nat × Nat} (hb : w.heap[b]? = some (.cells c t z)) (h1 : t ≠ 37) (h2 : t ≠ 5) : v.ownBlock ≠ some b ∧ ∀ u ∈ us, u.ownBlock ≠ some b := by
  refine ⟨fun e => ?_, fun u hu e => ?_⟩
  · obtain ⟨cur, hc⟩ := row_heap h.row e
    exact kind_ne hb hc h1 rfl
  · obtain ⟨l, ho⟩ := h.mem hu
    obtain ⟨cur, hc⟩ := ho.heap e
    exact kind_ne hb hc h2 rfl
theorem EnR.ne_row (h : EnR w base v es us) {u : Value} (hu : u ∈ us) {k : Nat} (hk : u.ownBlock = some k) : v.ownBlock ≠ some k := fun e => by
  obtain ⟨cur, hc⟩ := row_heap h.row e
  obtain ⟨l, ho⟩ := h.mem hu
  obtain ⟨cur2, hc2⟩ := ho.heap hk
  exact kind_ne hc hc2 (by decide) rfl
theorem EnR.len47 (h : EnR w base v es us) (hl : ∀ e ∈ es, e.val.length ≤ 140737488355000) (hn : es.length ≤ 140737488355000) : EnU w (fun k => base ≤ k) v es us := by
  refine ⟨h.len, Cl.of_own h.row (by omega) (fun k hk => row_low h.row k hk) (cellsE_length es us h.len), fun k e u h1 h2 => ?_⟩
  exact By.of_own (h.val k e u h1 h2) (by have := hl e (List.mem_of_getElem? h1); omega) (fun j hj => (World.ownsRow.lt (h.val k e u h1 h2) j hj).1)
end

/-- A block's entries, read so far. w: the world at the call's begin; w1: behind the payload; g: the scan; ev, us, L: what was there. -/
structure TkR (w w1 : World) (base tb g : Nat) (ev : Value) (us : List Value) (nb : Int) (L : List Ent) (p : List UInt8) (wr : World) (done : List Ent) (r : List UInt8) (n : Nat) (pe : Option Addr) (ce : Nat) (rvv : Value) (vs : List Value) : Prop where
  len : (L ++ done).length = n
  tbl : wr.heap[tb]? = some (.cells #[.slice pe n ce, .slice none 0 0, .int .i64 nb] 82 (0, 0))
  en : EnR wr base (.slice pe n ce) (L ++ done) vs
  sc : ScM wr (fun k => w.heap.size ≤ k ∧ k < w1.heap.size) g rvv (r, false)
  fr : Fr (fun k => k = tb ∨ ev.ownBlock = some k) w wr
  sep : ∀ u ∈ vs, ∀ k, u.ownBlock = some k → w.heap.size ≤ k ∨ ∃ u0 ∈ us, u0.ownBlock = some k
  evb : (Value.slice pe n ce).ownBlock = ev.ownBlock ∨ ∀ k, (Value.slice pe n ce).ownBlock = some k → w1.heap.size ≤ k
  par : scA p = (scA r).map (done ++ ·)
  wg : wgt done + 31 * r.length ≤ 31 * p.length
  sq : ∀ e ∈ done, e.seq < 18446744073709551616

section
variable {w w1 wr w2 W w3 : World} {base tb g n : Nat} {ev rvv rv2 : Value} {us vs : List Value} {nb : Int} {L done : List Ent} {p r : List UInt8} {pe q p9 : Option Addr} {ce c c9 : Nat}
theorem TkR.put (h : TkR w w1 base tb g ev us nb L p wr done r n pe ce rvv vs) (htb : tb < w.heap.size) (hg1 : w1.heap.size ≤ g) (hw1 : w.heap.size ≤ w1.heap.size) (hwr : w1.heap.size ≤ wr.heap.size) (hev : ∀ k, ev.ownBlock = some k → k < w.heap.size) (hbs : base ≤ w.heap.size)
    (h0 : r ≠ []) (hgd : (scE r).2.2 = false) (hf : Fr (fun k => k = g) wr w2) (hsc : ScM w2 (fun k => w.heap.size ≤ k ∧ k < w1.heap.size) g rv2 (scE r).2)
    (ho : Own w2 wr.heap.size (.slice q (scE r).1.val.length c) (scE r).1.val) (hbW : Below w2.heap.size w2 W)
    (hrow : w3.ownsRow base 37 4 (.slice p9 (n + 1) c9) (n + 1) (cellsE (L ++ done) vs ++ cellsE [(scE r).1] [.slice q (scE r).1.val.length c])) (hgr : W.grownBy w3 (Value.slice pe n ce).ownBlock)
    (hat : (Value.slice p9 (n + 1) c9).ownBlock = (Value.slice pe n ce).ownBlock ∨ (Value.slice p9 (n + 1) c9).ownBlock = some W.heap.size) :
    TkR w w1 base tb g ev us nb L p (w3.setCell ⟨tb, 0, none⟩ (.slice p9 (n + 1) c9)) (done ++ [(scE r).1]) (scE r).2.1 (n + 1) p9 c9 rv2 (vs ++ [.slice q (scE r).1.val.length c]) := by
  obtain ⟨hgood, hsq, _, _⟩ := scE_good r hgd
  have hgt : g ≠ tb := by omega
  have htp : (Value.slice pe n ce).ownBlock ≠ some tb := (h.en.ne_kind h.tbl (by decide) (by decide)).1
  have hgp : (Value.slice pe n ce).ownBlock ≠ some g := (h.en.ne_kind h.sc.blk (by decide) (by decide)).1
  have hpl : ∀ k, (Value.slice pe n ce).ownBlock = some k → k < wr.heap.size := fun k hk => row_lt h.en.row k hk
  -- from w2 on: the table's block and the row's
  have hT2 : Fr (fun k => k = tb ∨ (Value.slice pe n ce).ownBlock = some k) w2 (w3.setCell ⟨tb, 0, none⟩ (.slice p9 (n + 1) c9)) :=
    Fr.setCell_ (S := fun k => k = tb ∨ (Value.slice pe n ce).ownBlock = some k) ((Fr.of_new hbW _).then (Fr.grown hgr (fun k hk => .inr hk))) (p := ⟨tb, 0, none⟩) (.inl rfl) _
  have hT : Fr (fun k => k = g ∨ k = tb ∨ (Value.slice pe n ce).ownBlock = some k) wr (w3.setCell ⟨tb, 0, none⟩ (.slice p9 (n + 1) c9)) :=
    (hf.mono fun k _ e => .inl e).then (hT2.mono fun k _ e => .inr e)
  have hz2 := hf.keep h.tbl (fun e => hgt e.symm)
  have hzW := (hbW.block _ (block_lt hz2)).trans hz2
  have hz3 : w3.heap[tb]? = _ := (hgr.block _ (block_lt hzW) (fun e => htp e.symm)).trans hzW
  refine ⟨?_, ?_, ?_, ?_, ?_, ?_, ?_, ?_, ?_, ?_⟩
  · have := h.len
    simp only [List.length_append, List.length_cons, List.length_nil] at this ⊢
    omega
  · simpa using setCell_same (off := 0) hz3 (.slice p9 (n + 1) c9)
  · refine ⟨by simp [h.en.len]; omega, ?_, fun k e u h1 h2 => ?_⟩
    · rw [← List.append_assoc, cellsE_append _ _ _ _ h.en.len, List.length_append, h.len]
      refine row_keep hrow fun k hk => ?_
      refine setCell_other ?_ _
      rintro rfl
      rcases hat with e | e
      · exact htp (e ▸ hk)
      · rw [e] at hk
        have h1 := block_lt hzW
        obtain rfl : W.heap.size = k := by simpa using hk
        omega
    · rw [← List.append_assoc] at h1
      by_cases hj : k < (L ++ done).length
      · rw [List.getElem?_append_left hj] at h1
        rw [List.getElem?_append_left (by rw [h.en.len]; exact hj)] at h2
        have hm := List.mem_of_getElem? h2
        refine (h.en.val k e u h1 h2).keep fun j hjb => hT.block j (h.en.lt hm hjb).2 ?_
        rintro (rfl | rfl | e2)
        · exact (h.en.ne_kind h.sc.blk (by decide) (by decide)).2 u hm hjb
        · exact (h.en.ne_kind h.tbl (by decide) (by decide)).2 u hm hjb
        · exact h.en.ne_row hm hjb e2
      · rw [List.getElem?_append_right (by omega)] at h1
        rw [List.getElem?_append_right (by rw [h.en.len]; omega), h.en.len] at h2
        cases hq : k - (L ++ done).length with
        | zero =>
          rw [hq] at h1 h2
          obtain rfl : (scE r).1 = e := by simpa using h1
          obtain rfl : Value.slice q (scE r).1.val.length c = u := by simpa using h2
          refine (ho.more (by omega)).keep fun j hjb => hT2.block j (World.ownsRow.lt ho j hjb).2 ?_
          have h3 := (World.ownsRow.lt ho j hjb).1
          rintro (rfl | e2)
          · omega
          · have := hpl j e2
            omega
        | succ m =>
          rw [hq] at h1
          simp at h1
  · have hrest : ((scE r).2.1, false) = (scE r).2 := by rw [← hgd]
    rw [hrest]
    refine hsc.step hT2 ?_ (fun k hk => ?_)
    · rintro (e | e)
      · exact hgt e
      · exact hgp e
    · rintro (e | e)
      · omega
      · rcases h.evb with e2 | e2
        · have := hev k (by rw [← e2]; exact e)
          omega
        · have := e2 k e
          omega
  · refine h.fr.trans (hT.mono fun k _ e => ?_)
    rcases e with rfl | rfl | e
    · exact .inr (by omega)
    · exact .inl (.inl rfl)
    · rcases h.evb with e2 | e2
      · exact .inl (.inr (by rw [← e2]; exact e))
      · exact .inr (by have := e2 k e; omega)
  · intro u hu k hk
    rcases List.mem_append.1 hu with hu | hu
    · exact h.sep u hu k hk
    · obtain rfl : u = .slice q (scE r).1.val.length c := by simpa using hu
      have := (World.ownsRow.lt ho k hk).1
      exact .inl (by omega)
  · rcases hat with e | e
    · rcases h.evb with e2 | e2
      · exact .inl (e.trans e2)
      · exact .inr fun k hk => e2 k (by rw [← e]; exact hk)
    · refine .inr fun k hk => ?_
      rw [e] at hk
      obtain rfl : W.heap.size = k := by simpa using hk
      have h1 := hf.size
      have h2 := hbW.size
      omega
  · rw [h.par, scA_good h0 hgd]
    cases scA (scE r).2.1 <;> simp
  · have := h.wg
    rw [wgt_append]
    simp only [wgt]
    omega
  · intro e he
    rcases List.mem_append.1 he with he | he
    · exact h.sq e he
    · obtain rfl : e = (scE r).1 := by simpa using he
      exact hsq
end
end Go.Proofs.YtagehnclkneolaaGreatDoor

/-
  The walk over (*sst.Table).take.
-/
namespace Go.Proofs.YtagehnclkneolaaGreatDoor
open Go.RowKit

theorem By.of_rd' {w : World} {F : Nat → Prop} {B : Nat} {v : Value} {l : List UInt8} (h : Rd w B v l) (hB : B ≤ w.heap.size) (hF : ∀ k, v.ownBlock = some k → k < w.heap.size → F k) : By w F v l := by
  obtain ⟨p, cap, e, h1, ⟨h2, h3, h4⟩, h5⟩ := h
  refine ⟨p, cap, e, h1, h2, h3, h4, fun k x hx => ?_⟩
  have hk : k < l.length := by
    have := (List.getElem?_eq_some_iff.1 hx).1
    simpa [bs] using this
  obtain ⟨b, off, e2, hb, hc⟩ := h5 (by omega)
  rw [bs_at l k hk] at hx
  exact ⟨b, off, e2, by omega, hF b (by rw [e, e2]; rfl) (by omega), by rw [hc k hk]; exact hx⟩

theorem blkP_no {l p : List UInt8} {L : List Ent} {n : Nat} (h : rdFrame l = (p, n, 0)) (hs : scA p = none) : blkP l L = none := by
  unfold blkP
  rw [h]
  simp only
  split
  · rfl
  · rw [hs]
theorem blkP_yes {l p : List UInt8} {L es : List Ent} {n : Nat} (h : rdFrame l = (p, n, 0)) (h0 : p ≠ []) (hs : scA p = some es) (hr : rightE (L ++ es) = true) : blkP l L = some (n, es) := by
  unfold blkP
  rw [h]
  simp only
  rw [if_neg (by simp [h0]), hs]
  simp only
  rw [if_pos hr]
theorem blkP_wrong {l p : List UInt8} {L es : List Ent} {n : Nat} (h : rdFrame l = (p, n, 0)) (hs : scA p = some es) (hr : rightE (L ++ es) = false) : blkP l L = none := by
  unfold blkP
  rw [h]
  simp only
  split
  · rfl
  · rw [hs]
    simp only
    rw [if_neg (by simp [hr])]

/-- What take leaves behind where the block may stand there. -/
structure TkO (w w' : World) (base tb xb : Nat) (ev rv : Value) (us : List Value) (nb : Nat) (L es : List Ent) (rows : List UInt8) (a n : Nat) : Prop where
  out : ∃ pe ce vs rv', w'.heap[tb]? = some (.cells #[.slice pe (L ++ es).length ce, .slice none 0 0, .int .i64 ((nb + 1 : Nat) : Int)] 82 (0, 0)) ∧ EnR w' base (.slice pe (L ++ es).length ce) (L ++ es) vs ∧ IdxM w' base xb rv' (rows ++ rowB (hdK es) a n) (a + n) ∧
    (∀ u ∈ vs, ∀ k, u.ownBlock = some k → rv'.ownBlock ≠ some k)
  fr : Fr (fun k => (k = tb ∨ ev.ownBlock = some k) ∨ InIdx xb rv k) w w'

set_option maxRecDepth 100000 in
set_option maxHeartbeats 2000000 in
theorem take_any (w : World) (base tb xb : Nat) (pe0 : Option Addr) (ce0 : Nat) (us : List Value) (nb : Nat) (L : List Ent) (rv : Value) (rows : List UInt8) (a : Nat) (bv : Value) (l : List UInt8) (B : Nat)
    (htbl : w.heap[tb]? = some (.cells #[.slice pe0 L.length ce0, .slice none 0 0, .int .i64 (nb : Int)] 82 (0, 0)))
    (hen : EnR w base (.slice pe0 L.length ce0) L us) (hix : IdxM w base xb rv rows a) (hsep : ∀ u ∈ us, ∀ k, u.ownBlock = some k → rv.ownBlock ≠ some k)
    (hb : Rd w B bv l) (hB : B ≤ w.heap.size) (ht : Tabs w) (hbase : base ≤ w.heap.size) (hR : rightE L = true)
    (hw : wgt L ≤ 1099511627776) (hl : l.length ≤ 34359738368) (hsq : ∀ e ∈ L, e.seq < 18446744073709551616) (hrows : rows.length ≤ 4398046511104) (ha : a ≤ 34359738368) (hnb : nb ≤ 34359738368) :
    Calls Tryz.prog 78 #[.pointer (some ⟨tb, 0, none⟩), bv, .pointer (some ⟨xb, 0, none⟩)] w fun x w' =>
      (blkP l L = none ∧ x = .returned (.bool false) ∧ Fr (fun k => k = tb ∨ (Value.slice pe0 L.length ce0).ownBlock = some k) w w') ∨
      (∃ n es, blkP l L = some (n, es) ∧ x = .returned (.bool true) ∧ TkO w w' base tb xb (.slice pe0 L.length ce0) rv us nb L es rows a n) := by
  have HT := Lib.hid htbl
  have HE := Lib.hid hen
  have HI := Lib.hid hix
  have HSp := Lib.hid hsep
  have HTb := Lib.hid (block_lt htbl)
  have HSq := Lib.hid hsq
  have HW := Lib.hid hw
  have HRt := Lib.hid hR
  have HC := Lib.hid (readFrame_any bv l B w hb hB ht)
  have HNo : Hid (∀ p n, rdFrame l = (p, n, 0) → scA p = none → blkP l L = none) := Lib.hid (fun p n h hs => blkP_no h hs)
  have HYes : Hid (∀ p n es, rdFrame l = (p, n, 0) → p ≠ [] → scA p = some es → rightE (L ++ es) = true → blkP l L = some (n, es)) := Lib.hid (fun p n es h h0 hs hr => blkP_yes h h0 hs hr)
  have HWr : Hid (∀ p n es, rdFrame l = (p, n, 0) → scA p = some es → rightE (L ++ es) = false → blkP l L = none) := Lib.hid (fun p n es h hs hr => blkP_wrong h hs hr)
  have HBn : Hid (((rdFrame l).2.2 ≠ 0 ∨ (rdFrame l).1 = []) → blkP l L = none) := Lib.hid (fun h => by unfold blkP; rw [if_pos h])
  have hform := rdFrame_form l
  generalize blkP l L = bp at *
  clear htbl hen hix hsep hb hB ht hsq hw hR
  go_enter Tryz.func78, Tryz.ntmps78
  go_wp2_with fail
  refine HC.out.mono ?_
  rintro x w1 ⟨v1, rfl, hrd1, hown1, hb1⟩
  rcases hform with ⟨p, n, hf, h5, hnl, hpn, hp26⟩ | ⟨e, hf, he⟩
  · rw [hf] at hrd1 HBn ⊢
    have HB1 := Lib.hid hb1
    obtain ⟨q1, c1, rfl⟩ := bytes_val hrd1
    by_cases h0 : p = []
    · subst h0
      have hbp := HBn.out (.inr rfl)
      clear hrd1 hown1 hb1 hf
      go_wp2_with fail
      go_ret
      exact .inl ⟨hbp, rfl, Fr.of_new HB1.out _⟩
    · have HNo1 := Lib.hid (HNo.out p n hf)
      have HYes1 := Lib.hid (fun es => HYes.out p n es hf h0)
      have HWr1 := Lib.hid (fun es => HWr.out p n es hf)
      have hpl : ((p.length : Int) == 0) = false := by have := List.length_pos_iff.2 h0; rw [beq_eq_false_iff_ne]; omega
      have hpln : (p.length == 0) = false := by have := List.length_pos_iff.2 h0; rw [beq_eq_false_iff_ne]; omega
      have HP0 := Lib.hid h0
      have hs1 := hb1.size
      have hT1 := (hb1.block _ HTb.out).trans HT.out
      have k0 := cell_of (i := 0) hT1 rfl
      have HBy : Hid (By w1 (fun k => w.heap.size ≤ k ∧ k < w1.heap.size) (.slice q1 p.length c1) p) := Lib.hid (By.of_rd' hrd1 (Nat.le_refl _) (fun k hk h => ⟨hown1 k hk, h⟩))
      have hzz := heap_alloc_new w1 (.cells #[.slice none 0 0, .bool false] 179)
      have HStart : Hid (TkR w w1 base tb w1.heap.size (.slice pe0 L.length ce0) us (nb : Int) L p (w1.alloc (.cells #[.slice q1 p.length c1, .bool false] 179)) [] p L.length pe0 ce0 (.slice q1 p.length c1) us) := Lib.hid (by
        have hbX : Below w1.heap.size w1 (w1.alloc (.cells #[.slice q1 p.length c1, .bool false] 179)) := below_alloc _ _
        refine ⟨by simp, (hbX.block _ (block_lt hT1)).trans hT1, ?_, ⟨heap_alloc_new w1 _, HBy.out.below hbX, fun h => by omega⟩, Fr.of_new (hb1.trans (hbX.mono hs1)) _, fun u hu k hk => .inr ⟨u, hu, hk⟩, .inl rfl, ?_, by simp [wgt], by simp⟩
        · rw [List.append_nil]
          exact (HE.out.after hb1).after hbX
        · cases scA p <;> rfl)
      clear hrd1 hown1 hb1 hT1 hf h0
      clear HNo HYes HWr HBn HC
      go_wp2_with fail
      go_loopg [12] p.length (fun m s12 wr => ∃ (done : List Ent) (r : List UInt8) (n2 : Nat) (pe : Option Addr) (ce : Nat) (rvv : Value) (vs : List Value), r.length = m ∧ TkR w w1 base tb w1.heap.size (.slice pe0 L.length ce0) us (nb : Int) L p wr done r n2 pe ce rvv vs ∧ w1.heap.size < wr.heap.size)
      case atStart => exact ⟨[], p, L.length, pe0, ce0, _, us, rfl, HStart.out, by simp⟩
      case round =>
        obtain ⟨done, r, n2, pe, ce, rvv, vs, hrm, htk, hwr⟩ := hrel
        generalize wr = wz at *
        have HK := Lib.hid htk
        obtain ⟨q2, c2, rfl, _, _, _, _⟩ := htk.sc.by_.form
        have hz := htk.sc.blk
        have y0 := cell_of (i := 0) hz rfl
        have y1 := cell_of (i := 1) hz rfl
        have HRm := Lib.hid hrm
        have hrp : r.length ≤ p.length := by have := htk.wg; omega
        have hrp26 : r.length ≤ 67108864 := by omega
        by_cases hr0 : r = []
        · subst hr0
          clear hz
          have hpar : scA p = some done := by have := htk.par; rw [scA_nil] at this; simpa using this
          have hdn := scA_ne hpar HP0.out
          have hn2 : n2 = L.length + done.length := by have := htk.len; rw [List.length_append] at this; omega
          have hdl := List.length_pos_iff.2 hdn
          have hwd : wgt done ≤ 31 * p.length := by have := htk.wg; simp at this; omega
          have hwL := HW.out
          have hwl := wgt_len (L ++ done)
          rw [wgt_append, List.length_append] at hwl
          have HEnU : Hid (En wz (fun k => base ≤ k) (.slice pe n2 ce) (L ++ done)) := Lib.hid ⟨vs, htk.en.len47 (fun e he => by
            rcases List.mem_append.1 he with h | h
            · have := wgt_mem L e h; omega
            · have := wgt_mem done e h; omega) (by rw [List.length_append]; omega)⟩
          obtain ⟨qt, ct, hent, hrun⟩ := HEnU.out.from_ (i := L.length - 1) (by rw [List.length_append]; omega)
          have HRg := Lib.hid (mg_right wz _ _ _ hent)
          rw [← right_tail HRt.out] at HRg
          have hmx : max ((L.length : Int) - 1) 0 = ((L.length - 1 : Nat) : Int) := by omega
          have hwm : IntKind.i64.wrap ((L.length : Int) - 1) = (L.length : Int) - 1 := IntWalk.i64_in _ (by omega)
          have t0 := cell_of (i := 0) htk.tbl rfl
          have HDn := Lib.hid (And.intro hpar (And.intro hdn hn2))
          have HDl := Lib.hid hdl
          have hlL : L.length ≤ 1099511627776 := by omega
          clear hent hpar hdn hn2 htk hrm hdl
          generalize (L ++ done).length - (L.length - 1) = nt at *
          obtain ⟨rb, hrb⟩ : ∃ rb, rightE (L ++ done) = rb := ⟨_, rfl⟩
          have HRb := Lib.hid hrb
          rw [hrb] at HRg
          clear hrb
          go_wp2_with fail
          refine HRg.out.mono ?_
          rintro x w5 ⟨rfl, hb5⟩
          have HB5 := Lib.hid hb5
          have HFr5 : Hid (Fr (fun k => k = tb ∨ (Value.slice pe0 L.length ce0).ownBlock = some k) w w5) := Lib.hid (HK.out.fr.trans (Fr.of_new hb5 _))
          cases rb
          · have hbp := HWr1.out done HDn.out.1 HRb.out
            clear hb5
            go_wp2_with fail
            go_ret
            exact .inl ⟨hbp, rfl, HFr5.out⟩
          · have hbp := HYes1.out done HDn.out.1 HRb.out
            have hT5 := (hb5.block _ (block_lt HK.out.tbl)).trans HK.out.tbl
            have t1 := cell_of (i := 0) hT5 rfl
            obtain ⟨bh, oh, qh, ch, hph, hbh, _, _, e0, _, _, _⟩ := (HEnU.out.below hb5).at_ (k := L.length) (e := (L ++ done)[L.length]'(by rw [List.length_append]; have := HDl.out; omega)) (List.getElem?_eq_getElem _)
            have hkey : ((L ++ done)[L.length]'(by rw [List.length_append]; have := HDl.out; omega)).key = hdK done := by
              rw [List.getElem_append_right (Nat.le_refl _)]
              simp only [Nat.sub_self]
              cases done with
              | nil => have := HDl.out; simp at this
              | cons x r => rfl
            rw [hkey] at e0
            subst hph
            have hln : ((L.length : Nat) : Int) < (n2 : Int) := by have := HDn.out.2.2; have := HDl.out; omega
            have hln2 : L.length < n2 := by omega
            have HEr5 := Lib.hid (HK.out.en.after hb5)
            have hI5 : IdxM w5 base xb rv rows a := by
              have hxt : xb ≠ tb := kind_ne HI.out.blk HT.out (by decide)
              have hne := HE.out.ne_kind HI.out.blk (by decide) (by decide)
              refine ⟨HFr5.out.keep HI.out.blk (fun e => e.elim hxt hne.1), HI.out.own.keep fun j hj => HFr5.out.block j (World.ownsRow.lt HI.out.own j hj).2 ?_⟩
              obtain ⟨cur, hcu⟩ := HI.out.own.heap hj
              rintro (rfl | e)
              · exact kind_ne hcu HT.out (by decide) rfl
              · obtain ⟨cur2, hc2⟩ := row_heap HE.out.row e
                exact kind_ne hcu hc2 (by decide) rfl
            have hs5 : w.heap.size ≤ w5.heap.size := HFr5.out.size
            have hkl : (hdK done).length ≤ 35184372088832 := by have := hdK_len HDn.out.2.1; omega
            have HAdd := Lib.hid (idx_add w5 base xb rv rows a n (hdK done) hI5 (by omega) (by omega) (by omega) hkl (by omega))
            have HI5 := Lib.hid hI5
            have HT5 := Lib.hid hT5
            clear hb5 hT5 t0 hI5 hkey HRg hrun hmx hwm
            go_wp2_with fail
            refine HAdd.out.mono ?_
            rintro x w6 ⟨rfl, rv6, hI6, hf6, hrb6⟩
            have htx : tb ≠ xb := kind_ne HT5.out HI5.out.blk (by decide)
            have hT6 := hf6.keep HT5.out (fun e => e.elim htx (fun e => by
              obtain ⟨cur, hcu⟩ := HI5.out.own.heap e
              exact kind_ne HT5.out hcu (by decide) rfl))
            have t2 := cell_of (i := 2) hT6 rfl
            have f2 := frozen_of (i := 2) hT6
            have hwn : IntKind.i64.wrap ((nb : Int) + 1) = ((nb + 1 : Nat) : Int) := by rw [IntWalk.i64_in _ (by omega)]; omega
            have HI6 := Lib.hid hI6
            have HF6 := Lib.hid hf6
            have HRb6 := Lib.hid hrb6
            have HT6 := Lib.hid hT6
            clear hI6 hf6 hrb6 hT6 t1 e0
            go_wp2_with fail
            go_ret
            have HSepR : Hid (∀ u ∈ vs, ∀ k, u.ownBlock = some k → rv.ownBlock ≠ some k) := Lib.hid (fun u hu k hk e => by
              rcases HK.out.sep u hu k hk with h | ⟨u0, hu0, hk0⟩
              · have := (World.ownsRow.lt HI.out.own k e).2
                omega
              · exact HSp.out u0 hu0 k hk0 e)
            have hfT : Fr (fun k => InIdx xb rv k ∨ k = tb) w5 (w6.setCell ⟨tb, 2, none⟩ (.int .i64 ((nb : Int) + 1))) :=
              Fr.setCell_ (S := fun k => InIdx xb rv k ∨ k = tb) (HF6.out.mono fun k _ e => .inl e) (p := ⟨tb, 2, none⟩) (.inr rfl) _
            have hnx := HEr5.out.ne_kind HI5.out.blk (by decide) (by decide)
            have hnt := HEr5.out.ne_kind HT5.out (by decide) (by decide)
            refine .inr ⟨n, done, hbp, rfl, ⟨⟨some ⟨bh, oh, none⟩, ce, vs, rv6, ?_, ?_, ?_, ?_⟩, ?_⟩⟩
            · rw [HK.out.len]
              simpa using setCell_same (off := 2) HT6.out (.int .i64 ((nb : Int) + 1))
            · rw [HK.out.len]
              refine HEr5.out.step hfT (fun k hk e => ?_) (fun u hu k hk e => ?_)
              · rcases e with (rfl | e) | rfl
                · exact hnx.1 hk
                · obtain ⟨cur, hcu⟩ := HI5.out.own.heap e
                  obtain ⟨cur2, hc2⟩ := row_heap HEr5.out.row hk
                  exact kind_ne hcu hc2 (by decide) rfl
                · exact hnt.1 hk
              · rcases e with (rfl | e) | rfl
                · exact hnx.2 u hu hk
                · exact HSepR.out u hu k hk e
                · exact hnt.2 u hu hk
            · refine ⟨(setCell_other (fun e => htx e.symm) _).trans HI6.out.blk, HI6.out.own.keep fun j hj => setCell_other (fun e => ?_) _⟩
              obtain ⟨cur, hcu⟩ := HI6.out.own.heap hj
              subst e
              exact kind_ne hcu HT6.out (by decide) rfl
            · intro u hu k hk e
              rcases HRb6.out with h | h
              · exact HSepR.out u hu k hk (h ▸ e)
              · have h1 := h k e
                have h2 := (HEr5.out.lt hu hk).2
                omega
            · refine (HFr5.out.mono fun k _ e => .inl e).then (hfT.mono fun k _ e => ?_)
              rcases e with e | e
              · exact .inr e
              · exact .inl (.inl e)
        · have d3 : decide ((0 : Int) < (r.length : Int)) = true := decide_eq_true (by have := List.length_pos_iff.2 hr0; omega)
          have d3n : decide (0 < r.length) = true := decide_eq_true (by have := List.length_pos_iff.2 hr0; omega)
          have HR0 := Lib.hid hr0
          have HEn := Lib.hid (scan_entry wz _ w1.heap.size _ r htk.sc (fun k hk => by omega) (by omega))
          obtain ⟨E, hE⟩ : ∃ E, scE r = E := ⟨_, rfl⟩
          have HEE := Lib.hid hE
          rw [hE] at HEn
          clear hr0 hz htk hE hrm
          go_wp2_with fail
          refine HEn.out.mono ?_
          rintro x w2 ⟨q3, c3, rv3, rfl, hown3, hsc3, hf3⟩
          have HSc3 := Lib.hid hsc3
          have HF3 := Lib.hid hf3
          have HO3 := Lib.hid hown3
          have hz := heap_alloc_new w2 (.cells #[.string ⟨#[]⟩, .int .u64 0, .bool false, .slice none 0 0] 37)
          obtain ⟨Y, hY⟩ : ∃ Y, w2.alloc (.cells #[.string ⟨#[]⟩, .int .u64 0, .bool false, .slice none 0 0] 37) = Y := ⟨_, rfl⟩
          have hbY : Below w2.heap.size w2 Y := by rw [← hY]; exact below_alloc _ _
          rw [hY] at hz
          have x0 := frozen_of (i := 0) hz
          have x1 := frozen_of (i := 1) hz
          have x2 := frozen_of (i := 2) hz
          have x3 := frozen_of (i := 3) hz
          have u0 := cell_of (i := 0) hz rfl
          have u1 := cell_of (i := 1) hz rfl
          have u2 := cell_of (i := 2) hz rfl
          have u3 := cell_of (i := 3) hz rfl
          obtain ⟨X1, hX1⟩ : ∃ X1, set4 Y w2.heap.size (.string ⟨E.1.key.toArray⟩) (.int .u64 (E.1.seq : Int)) (.bool E.1.gone) (.slice q3 E.1.val.length c3) = X1 := ⟨_, rfl⟩
          have hXa : X1.heap[w2.heap.size]? = some (.cells #[.string ⟨E.1.key.toArray⟩, .int .u64 (E.1.seq : Int), .bool E.1.gone, .slice q3 E.1.val.length c3] 37 (0, 0)) := by rw [← hX1]; exact set4_heap hz _ _ _ _
          have hbX : Below w2.heap.size w2 X1 := by rw [← hX1]; exact hbY.trans ((set4_fr Y w2.heap.size _ _ _ _ (fun k => k = w2.heap.size) rfl).below hbY.size (fun k hk e => by omega))
          unfold set4 at hX1
          have hsX := (hbX.block _ (block_lt hsc3.blk)).trans hsc3.blk
          have s1 := cell_of (i := 1) hsX rfl
          have HXa := Lib.hid hXa
          have HbX := Lib.hid hbX
          have HFrX : Hid (Fr (fun k => k = tb ∨ (Value.slice pe0 L.length ce0).ownBlock = some k) w X1) := Lib.hid (HK.out.fr.trans ((hf3.mono (T := More (fun k => k = tb ∨ (Value.slice pe0 L.length ce0).ownBlock = some k) w.heap.size) (fun k _ e => .inr (by omega))).then (Fr.of_new hbX _)))
          clear hbY hz hXa hbX hsX hsc3 hf3 hown3 y0 y1
          cases hE2 : E.2.2
          · rw [hE2] at s1
            have HGood := Lib.hid (show (scE r).2.2 = false by rw [HEE.out]; exact hE2)
            have HLt : Hid (E.2.1.length < r.length) := Lib.hid (by have h := (scE_good r HGood.out).1; rw [HEE.out] at h; omega)
            have htne : tb ≠ w1.heap.size := by have := HTb.out; omega
            have htX := (HbX.out.block _ (Nat.lt_of_lt_of_le (block_lt HK.out.tbl) HF3.out.size)).trans (HF3.out.keep HK.out.tbl htne)
            obtain ⟨W, hW⟩ : ∃ W, X1.drew.alloc (.cells #[.string ⟨E.1.key.toArray⟩, .int .u64 (E.1.seq : Int), .bool E.1.gone, .slice q3 E.1.val.length c3] 37) = W := ⟨_, rfl⟩
            have hbW : Below X1.heap.size X1 W := by rw [← hW]; exact (below_drew (Below.refl _ _)).alloc (Nat.le_refl _) _
            have htW := (hbW.block _ (block_lt htX)).trans htX
            have hxW := (hbW.block _ (block_lt HXa.out)).trans HXa.out
            have hlen2 := HK.out.len
            have HRow : Hid (W.ownsRow base 37 4 (.slice pe n2 ce) n2 (cellsE (L ++ done) vs)) := Lib.hid (by
              have h := HK.out.en.row
              rw [hlen2] at h
              refine row_keep h fun j hj => ?_
              have h1 := row_lt h j hj
              have h2 : j ≠ w1.heap.size := fun e => (HK.out.en.ne_kind HK.out.sc.blk (by decide) (by decide)).1 (e ▸ hj)
              have h3 := HF3.out.block j h1 h2
              have h4 := HbX.out.block j (Nat.lt_of_lt_of_le h1 HF3.out.size)
              have h5 := hbW.block j (Nat.lt_of_lt_of_le h1 (Nat.le_trans HF3.out.size HbX.out.size))
              exact h5.trans (h4.trans h3))
            have HCl : Hid (Cl W (fun j => j = X1.heap.size) (.slice (some ⟨X1.heap.size, 0, none⟩) 1 1) 1 (cellsE [E.1] [.slice q3 E.1.val.length c3])) := Lib.hid (by
              rw [← hW]
              exact Cl.new X1.drew (fun j => j = X1.heap.size) 1 (cellsE [E.1] [.slice q3 E.1.val.length c3]) _ _ rfl (by omega) rfl)
            have HOne : Hid (∀ x ∈ cellsE [E.1] [.slice q3 E.1.val.length c3], x.oneCell' = true) := Lib.hid (fun v hv => by simp [cellsE] at hv; rcases hv with rfl | rfl | rfl | rfl <;> rfl)
            have HLn : Hid (n2 + 1 ≤ 68719476736) := Lib.hid (by
              have h1 := wgt_len (L ++ done)
              rw [wgt_append, hlen2] at h1
              have h2 := HK.out.wg
              have h3 := HW.out
              omega)
            have HSz : Hid (base ≤ W.heap.size) := Lib.hid (by have h1 := HFrX.out.size; have h2 := hbW.size; omega)
            have HPut : Hid (∀ (w3 : World) (p9 : Option Addr) (c9 : Nat), w3.ownsRow base 37 4 (.slice p9 (n2 + 1) c9) (n2 + 1) (cellsE (L ++ done) vs ++ cellsE [E.1] [.slice q3 E.1.val.length c3]) → W.grownBy w3 (Value.slice pe n2 ce).ownBlock →
                ((Value.slice p9 (n2 + 1) c9).ownBlock = (Value.slice pe n2 ce).ownBlock ∨ (Value.slice p9 (n2 + 1) c9).ownBlock = some W.heap.size) →
                TkR w w1 base tb w1.heap.size (.slice pe0 L.length ce0) us (nb : Int) L p (w3.setCell ⟨tb, 0, none⟩ (.slice p9 (n2 + 1) c9)) (done ++ [E.1]) E.2.1 (n2 + 1) p9 c9 rv3 (vs ++ [.slice q3 E.1.val.length c3]) ∧ w1.heap.size < (w3.setCell ⟨tb, 0, none⟩ (.slice p9 (n2 + 1) c9)).heap.size) := Lib.hid (fun w3 p9 c9 ho hg hq => by
              obtain rfl := HEE.out
              refine ⟨HK.out.put HTb.out (Nat.le_refl _) hs1 (Nat.le_of_lt hwr) (fun k hk => row_lt HE.out.row k hk) hbase HR0.out HGood.out HF3.out HSc3.out HO3.out (HbX.out.trans (hbW.mono HbX.out.size)) ho hg hq, ?_⟩
              have h1 := hg.size
              have h2 := hbW.size
              have h3 := HbX.out.size
              have h4 := HF3.out.size
              simp [World.setCell]
              omega)
            have HtW := Lib.hid (And.intro htW hxW)
            have k1 := cell_of (i := 0) htX rfl
            have y0 := cell_of (i := 0) HXa.out rfl
            have y1 := cell_of (i := 1) HXa.out rfl
            have y2 := cell_of (i := 2) HXa.out rfl
            have y3 := cell_of (i := 3) HXa.out rfl
            have kW := cell_of (i := 0) htW rfl
            have v0 := cell_of (i := 0) hxW rfl
            have v1 := cell_of (i := 1) hxW rfl
            have v2 := cell_of (i := 2) hxW rfl
            have v3 := cell_of (i := 3) hxW rfl
            have zq := frozen_of (i := 0) htX
            have zW := frozen_of (i := 0) htW
            clear htX hbW htW hxW hE2 hlen2 htne k0
            go_upto_region 10 with (fail)
            go_region_law
              (refine slEnt.step_append rfl (.tmp 44) (.tmp 46) rfl base (v := .slice pe n2 ce) (u := .slice (some ⟨X1.heap.size, 0, none⟩) 1 1) rfl rfl HRow.out HCl.out rfl HOne.out HLn.out HSz.out ?_
               intro v' w3 ho3 hg3 ha3
               obtain ⟨p9, c9, rfl, _, _⟩ := row_shape ho3
               have ht3 : w3.heap[tb]? = _ := (hg3.block _ (block_lt HtW.out.1) (fun e => by
                 obtain ⟨cur, hc⟩ := row_heap HRow.out e.symm
                 exact kind_ne HtW.out.1 hc (by decide) rfl)).trans HtW.out.1
               have hx3 : w3.heap[w2.heap.size]? = some (.cells #[.string ⟨E.1.key.toArray⟩, .int .u64 (E.1.seq : Int), .bool E.1.gone, .slice q3 E.1.val.length c3] 37 (0, 0)) ∨ True := .inr trivial
               have n0 := cell_of (i := 0) ht3 rfl
               have z3 := frozen_of (i := 0) ht3
               have HQ3 := Lib.hid (HPut.out w3 p9 c9 ho3 hg3 ha3)
               clear ho3 hg3 ha3 ht3 hx3)
            all_goals
              go_wp2_with fail
              go_roundg (E.2.1.length)
              case measure => have := HLt.out; have := HRm.out; omega
              case rel => exact ⟨done ++ [E.1], E.2.1, n2 + 1, p9, c9, rv3, vs ++ [.slice q3 E.1.val.length c3], rfl, HQ3.out.1, HQ3.out.2⟩
          · rw [hE2] at s1
            have hbp := HNo1.out (by rw [HK.out.par, scA_bad HR0.out (by rw [HEE.out]; exact hE2)]; rfl)
            clear hE2
            go_wp2_with fail
            go_ret
            exact .inl ⟨hbp, rfl, HFrX.out⟩
  · rw [hf] at hrd1 HBn ⊢
    have HB1 := Lib.hid hb1
    have hbp := HBn.out (.inl (by show e ≠ 0; omega))
    have e0 : ((e : Int) != 0) = true := by rw [bne_iff_ne]; omega
    clear hrd1 hown1 hb1 hf he
    go_wp2_with fail
    go_ret
    exact .inl ⟨hbp, rfl, Fr.of_new HB1.out _⟩
end Go.Proofs.YtagehnclkneolaaGreatDoor
