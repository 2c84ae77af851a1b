import Derived.Test.YtagehnclkneolaaGreatDoorGSb
import Derived.Test.YtagehnclkneolaaGreatDoorMgB

/-
  The walk over sst.written.
-/
namespace Go.Proofs.YtagehnclkneolaaGreatDoor
open Go.RowKit

theorem ShL.left {a b : List Ent} (h : ShL (a ++ b)) : ShL a := ⟨fun e he => h.1 e (List.mem_append_left _ he), by have := h.2; rw [wgt_append] at this; omega⟩
theorem ShL.right {a b : List Ent} (h : ShL (a ++ b)) : ShL b := ⟨fun e he => h.1 e (List.mem_append_right _ he), by have := h.2; rw [wgt_append] at this; omega⟩
theorem hdK_len : ∀ {c : List Ent}, c ≠ [] → (hdK c).length + 31 ≤ wgt c
  | [], h => absurd rfl h
  | e :: r, _ => by simp only [hdK, wgt]; omega
theorem frame_room {c : List Ent} (h : ShL c) (h0 : c ≠ []) : (frame (pay c)).length ≤ 2 * wgt c := by
  have h1 := pay_room c fun _ he => h.e he
  have h2 := (frame_length (pay c) (by have := h.2; omega)).1
  have h3 := hdK_len h0
  omega
theorem tab_room : ∀ (cs : List (List Ent)), (∀ c ∈ cs, c ≠ []) → ShL cs.flatten → (tabB cs).length ≤ 2 * wgt cs.flatten
  | [], _, _ => by simp [tabB]
  | c :: r, h0, h => by
    rw [List.flatten_cons] at h ⊢
    have h1 := frame_room h.left (h0 c (.head _))
    have h2 := tab_room r (fun x hx => h0 x (.tail _ hx)) h.right
    rw [wgt_append]
    simp only [tabB, List.length_append]
    omega
theorem idx_room : ∀ (cs : List (List Ent)) (a : Nat), (∀ c ∈ cs, c ≠ []) → ShL cs.flatten → a + 2 * wgt cs.flatten ≤ 35184372088832 → (idxB a cs).length ≤ wgt cs.flatten
  | [], _, _, _, _ => by simp [idxB]
  | c :: r, a, h0, h, ha => by
    rw [List.flatten_cons] at h ha ⊢
    have h1 := frame_room h.left (h0 c (.head _))
    have h3 := hdK_len (h0 c (.head _))
    have hw := h.2
    rw [wgt_append] at ha hw ⊢
    have h2 := idx_room r (a + (frame (pay c)).length) (fun x hx => h0 x (.tail _ hx)) h.right (by omega)
    have n1 := num_len10 (hdK c).length (by omega)
    have n2 := num_len10 a (by omega)
    have n3 := num_len10 (frame (pay c)).length (by omega)
    simp only [idxB, rowB, bytB, List.length_append]
    omega
def lenOf : Value → Nat
  | .slice _ n _ => n
  | _ => 0

set_option maxRecDepth 100000 in
set_option maxHeartbeats 2000000 in
theorem written_any (w : World) (F : Nat → Prop) (p : Option Addr) (cap : Nat) (es : List Ent) (block : Nat) (h : En w F (.slice p es.length cap) es) (hs : ShL es) (hb1 : 1 ≤ block) (hb2 : block ≤ 67108864) (ht : Tabs w) :
    Calls Tryz.prog 40 #[.slice p es.length cap, .int .i64 (block : Int)] w fun x w' => ∃ u, x = .returned u ∧ Own w' w.heap.size u (tblB block es) ∧ Below w.heap.size w w' := by
  have HE := Lib.hid h
  have HS := Lib.hid hs
  have HT := Lib.hid ht
  have HBl := Lib.hid (And.intro hb1 hb2)
  obtain ⟨X, hX⟩ : ∃ X, w.alloc (.cells #[.slice none 0 0, .int .i64 0] 130) = X := ⟨_, rfl⟩
  have hXb : Below w.heap.size w X := by rw [← hX]; exact below_alloc _ _
  have hXz : X.heap[w.heap.size]? = some (.cells #[.slice none 0 0, .int .i64 0] 130 (0, 0)) := by rw [← hX]; exact heap_alloc_new w _
  have HX := Lib.hid (And.intro hXb hXz)
  clear h hs ht hb1 hb2 hXb hXz
  go_enter Tryz.func40, Tryz.ntmps40
  go_wp2_with fail
  go_loopw [5, 7] (fun tv v7 wr => ∃ (cs : List (List Ent)) (r : List Ent) (q : Option Addr) (c : Nat) (rv : Value), es = cs.flatten ++ r ∧ cutE block [] es = cs ++ cutE block [] r ∧ (∀ d ∈ cs, d ≠ []) ∧ v7 = .slice q r.length c ∧ En w F (.slice q r.length c) r ∧
      Own wr w.heap.size tv (tabB cs) ∧ IdxM wr w.heap.size w.heap.size rv (idxB 0 cs) (tabB cs).length ∧ (∀ k, tv.ownBlock = some k → rv.ownBlock ≠ some k) ∧ Below w.heap.size w wr) (fun _ v7 _ => lenOf v7)
  case atStart => exact ⟨[], es, p, cap, .slice none 0 0, by simp, by simp, by simp, rfl, HE.out, own_nil _ _, ⟨HX.out.2, own_nil _ _⟩, fun k hk => by simp [Value.ownBlock] at hk, HX.out.1⟩
  case round =>
    obtain ⟨cs, r, q, c, rv, hes, hcut, hne, rfl, hE, hown, hM, hap, hbw⟩ := hrel
    have HCut := Lib.hid (And.intro hes (And.intro hcut hne))
    have HEr := Lib.hid hE
    have HO := Lib.hid hown
    have HM := Lib.hid hM
    have HAp := Lib.hid hap
    have HB := Lib.hid hbw
    have HSr : Hid (ShL cs.flatten ∧ ShL r) := Lib.hid (by have h := HS.out; rw [hes] at h; exact ⟨h.left, h.right⟩)
    clear hes hcut hne hE hown hM hap hbw
    have htl := tab_room cs HCut.out.2.2 HSr.out.1
    have hil := idx_room cs 0 HCut.out.2.2 HSr.out.1 (by have := HSr.out.1.2; omega)
    have hcw := HSr.out.1.2
    by_cases h0 : r = []
    · subst h0
      obtain ⟨qt, ct, rfl, _, _⟩ := HO.out.shp
      have hcs : cutE block [] es = cs := by rw [HCut.out.2.1]; simp [cutE]
      have hfl : cs.flatten = es := by have := HCut.out.1; rw [List.append_nil] at this; exact this.symm
      have hel : es.length ≤ 1099511627776 := HS.out.len
      have hwe : IntKind.u64.wrap ((es.length : Nat) : Int) = (es.length : Int) := IntWalk.u64_in _ (by omega)
      have HTbl : Hid (tblB block es = tabB cs ++ frame (idxB 0 cs) ++ frame (filB es) ++ footB (tabB cs).length ((tabB cs).length + (frame (idxB 0 cs)).length) es.length) := Lib.hid (by unfold tblB endB; rw [hcs]; simp [List.append_assoc])
      have hfr1 := (frame_length (idxB 0 cs) (by omega)).1
      have hfbl : (filB es).length ≤ 1099511627776 := by
        have h1 := cntK_le es es.length
        have h2 := wgt_len es
        have h3 := HS.out.2
        unfold filB
        rw [filF_len, List.length_replicate]
        unfold filN
        omega
      have hfr2 := (frame_length (filB es) (by omega)).1
      obtain ⟨V, hV⟩ : ∃ V, wr.alloc (.cells #[.int .u64 ((tabB cs).length : Int), .int .u64 0, .int .u64 (es.length : Int)] 136) = V := ⟨_, rfl⟩
      have hVb : Below wr.heap.size wr V := by rw [← hV]; exact below_alloc _ _
      have hVz : V.heap[wr.heap.size]? = some (.cells #[.int .u64 ((tabB cs).length : Int), .int .u64 0, .int .u64 (es.length : Int)] 136 (0, 0)) := by rw [← hV]; exact heap_alloc_new wr _
      have HMV := Lib.hid (HM.out.below hVb)
      have HOV := Lib.hid (HO.out.after hVb)
      have HBV := Lib.hid (HB.out.trans (hVb.mono HB.out.size))
      have HVz := Lib.hid hVz
      have hwt : (Value.slice qt (tabB cs).length ct).ownBlock ≠ some wr.heap.size := fun e => by have := (World.ownsRow.lt HO.out _ e).2; omega
      have HWt := Lib.hid hwt
      have y0 := cell_of (i := 0) HMV.out.blk rfl
      have HF1 := Lib.hid (frame_any rv (idxB 0 cs) V.heap.size V (HMV.out.own.rd (by omega)) (Nat.le_refl _) (HT.out.under HBV.out HT.out.two) (by omega))
      clear hVb hVz hwt
      go_wp2_with fail
      refine HF1.out.mono ?_
      rintro x V1 ⟨fv, rfl, hownf, hb1⟩
      have HB1 := Lib.hid (HBV.out.trans (hb1.mono HBV.out.size))
      have HO1 := Lib.hid (HOV.out.after hb1)
      have HZ1 := Lib.hid ((hb1.block _ (block_lt HVz.out)).trans HVz.out)
      have HFo := Lib.hid (hownf.rd (by omega))
      clear hownf hb1 y0
      go_wp2_with (at_builtin; refine wpList_append_rd_at rfl _ _ rfl w.heap.size V1.heap.size _ _ _ (frame (idxB 0 cs)) rfl HO1.out rfl HFo.out (by omega) HB1.out.size ?_; intro v2 V2 hown2 hg2 hat2; obtain ⟨q2, c2, rfl, _, _⟩ := hown2.shp; have hz2 := (hg2.block _ (block_lt HZ1.out) (fun e => HWt.out e.symm)).trans HZ1.out; have z1 := cell_of (i := 1) hz2 rfl; have f1 := frozen_of (i := 1) hz2; have HG2 := Lib.hid hg2; have HAt := Lib.hid hat2; have HO2 := Lib.hid hown2; have HZ2 := Lib.hid hz2; clear hown2 hg2 hat2 hz2)
      rw [List.length_append] at HO2 HAt
      have HN2 : Hid ((Value.slice q2 ((tabB cs).length + (frame (idxB 0 cs)).length) c2).ownBlock ≠ some wr.heap.size) := Lib.hid (fun e => by
        rcases HAt.out with e2 | e2
        · exact HWt.out (e2.symm.trans e)
        · rw [e2] at e
          injection e with e
          have := block_lt HZ1.out
          omega)
      have HB2 : Hid (Below w.heap.size w V2) := Lib.hid (HB1.out.trans ⟨HG2.out.os, HG2.out.tape, HG2.out.output, HG2.out.size, fun k hk => HG2.out.block k (Nat.lt_of_lt_of_le hk HB1.out.size) (fun e => Nat.not_le_of_lt hk (HO1.out.block k e.symm))⟩)
      obtain ⟨V3, hV3⟩ : ∃ V3, V2.setCell ⟨wr.heap.size, 1, none⟩ (.int .u64 (((tabB cs).length : Int) + ((frame (idxB 0 cs)).length : Int))) = V3 := ⟨_, rfl⟩
      have HB3 : Hid (Below w.heap.size w V3) := Lib.hid (by rw [← hV3]; exact HB2.out.setCell (p := ⟨wr.heap.size, 1, none⟩) HB.out.size _)
      have HZ3 : Hid (V3.heap[wr.heap.size]? = some (.cells #[.int .u64 ((tabB cs).length : Int), .int .u64 (((tabB cs).length + (frame (idxB 0 cs)).length : Nat) : Int), .int .u64 (es.length : Int)] 136 (0, 0))) := Lib.hid (by rw [← hV3, setCell_same HZ2.out, Int.natCast_add]; rfl)
      have HO3 : Hid (Own V3 w.heap.size (.slice q2 ((tabB cs).length + (frame (idxB 0 cs)).length) c2) (tabB cs ++ frame (idxB 0 cs))) := Lib.hid (HO2.out.keep fun k hk => by
        rw [← hV3]
        exact setCell_other (fun e => HN2.out (hk.trans (congrArg some e))) _)
      have HFi := Lib.hid (filter_any V3 F p cap es (HE.out.below (HB3.out)) HS.out (HT.out.under HB3.out HT.out.two))
      rw [hV3]
      clear hV3 z1 f1
      refine HFi.out.mono ?_
      rintro x V4 ⟨fu, rfl, hownu, hb4⟩
      have HB4 := Lib.hid (HB3.out.trans (hb4.mono HB3.out.size))
      have HO4 := Lib.hid (HO3.out.after hb4)
      have HZ4 := Lib.hid ((hb4.block _ (block_lt HZ3.out)).trans HZ3.out)
      have HF2 := Lib.hid (frame_any fu (filB es) V4.heap.size V4 (hownu.rd (by omega)) (Nat.le_refl _) (HT.out.under HB4.out HT.out.two) (by omega))
      clear hownu hb4
      go_wp2_with fail
      refine HF2.out.mono ?_
      rintro x V5 ⟨ff, rfl, hownf, hb5⟩
      have HB5 := Lib.hid (HB4.out.trans (hb5.mono HB4.out.size))
      have HO5 := Lib.hid (HO4.out.after hb5)
      have HZ5 := Lib.hid ((hb5.block _ (block_lt HZ4.out)).trans HZ4.out)
      have HFf := Lib.hid (hownf.rd (by omega))
      clear hownf hb5
      go_wp2_with (at_builtin; refine wpList_append_rd_at rfl _ _ rfl w.heap.size V5.heap.size _ _ _ (frame (filB es)) rfl HO5.out rfl HFf.out (by simp only [List.length_append]; omega) HB5.out.size ?_; intro v6 V6 hown6 hg6 hat6; obtain ⟨q6, c6, rfl, _, _⟩ := hown6.shp; have hz6 := (hg6.block _ (block_lt HZ5.out) (fun e => HN2.out e.symm)).trans HZ5.out; have x0 := cell_of (i := 0) hz6 rfl; have x1 := cell_of (i := 1) hz6 rfl; have x2 := cell_of (i := 2) hz6 rfl; have HG6 := Lib.hid hg6; have HO6 := Lib.hid hown6; clear hown6 hg6 hat6 hz6)
      rw [List.length_append, List.length_append, Nat.add_assoc] at HO6
      have HB6 : Hid (Below w.heap.size w V6) := Lib.hid (HB5.out.trans ⟨HG6.out.os, HG6.out.tape, HG6.out.output, HG6.out.size, fun k hk => HG6.out.block k (Nat.lt_of_lt_of_le hk HB5.out.size) (fun e => Nat.not_le_of_lt hk (HO5.out.block k e.symm))⟩)
      refine (foot_any V6 (tabB cs).length ((tabB cs).length + (frame (idxB 0 cs)).length) es.length (by omega) (by omega) (by omega) (HT.out.under HB6.out HT.out.two)).mono ?_
      rintro x V7 ⟨ft, rfl, hownt, hb7⟩
      have HB7 := Lib.hid (HB6.out.trans (hb7.mono HB6.out.size))
      have HO7 := Lib.hid (HO6.out.after hb7)
      have hfl28 := footB_len (tabB cs).length ((tabB cs).length + (frame (idxB 0 cs)).length) es.length
      have HFt := Lib.hid (hownt.rd (by omega))
      clear hownt hb7
      go_wp2_with (at_builtin; refine wpList_append_rd rfl _ _ rfl w.heap.size V7.heap.size _ _ _ (footB (tabB cs).length ((tabB cs).length + (frame (idxB 0 cs)).length) es.length) rfl HO7.out rfl HFt.out (by simp only [List.length_append]; omega) HB7.out.size ?_; intro v8 V8 hown8 hb8)
      go_ret
      exact ⟨v8, rfl, by rw [HTbl.out]; exact hown8, HB7.out.trans hb8⟩
    · have hrl : 0 < r.length := List.length_pos_iff.2 h0
      have d1 : decide ((0 : Int) < (r.length : Int)) = true := decide_eq_true (by omega)
      have hfp : 1 ≤ fillN block 0 r := by
        obtain ⟨e, r', rfl⟩ := List.exists_cons_of_ne_nil h0
        exact fillN_pos (by have := HBl.out.1; omega)
      have hfl := fillN_le block 0 r
      have HFr := Lib.hid (cutE_front (block := block) (by have := HBl.out.1; omega) h0)
      have HC1 := Lib.hid (fill_any wr F q c r block (HEr.out.below (HB.out)) HSr.out.2 HBl.out.2)
      generalize fillN block 0 r = n at *
      clear h0
      go_wp2_with fail
      refine HC1.out.mono ?_
      rintro x w1 ⟨u, rfl, hown1, hb1⟩
      have HB1 := Lib.hid (HB.out.trans (hb1.mono HB.out.size))
      have HSt := Lib.hid (HSr.out.2.take n)
      have hpl := HSt.out.pay
      have HF2 := Lib.hid (frame_any u (pay (r.take n)) w1.heap.size w1 (hown1.rd (by omega)) (Nat.le_refl _) (HT.out.under HB1.out HT.out.two) (by omega))
      have HM1 := Lib.hid (HM.out.below hb1)
      have HO1 := Lib.hid (HO.out.after hb1)
      have hw01 := hb1.size
      clear hown1 hb1
      go_wp2_with fail
      refine HF2.out.mono ?_
      rintro x w2 ⟨fv, rfl, hown2, hb2⟩
      have HB2 := Lib.hid (HB1.out.trans (hb2.mono HB1.out.size))
      have HM2 := Lib.hid (HM1.out.below hb2)
      have HO2 := Lib.hid (HO1.out.after hb2)
      obtain ⟨qf, cf, rfl, _, _⟩ := hown2.shp
      have HOf := Lib.hid hown2
      have hw12 := hb2.size
      clear hown2 hb2
      obtain ⟨x, r', hr'⟩ : ∃ x r', r = x :: r' := by
        obtain ⟨x, r', h⟩ := List.exists_cons_of_ne_nil (List.ne_nil_of_length_pos hrl)
        exact ⟨x, r', h⟩
      obtain ⟨b1, off1, q2, c2, rfl, hbl, _, hV1, e0, e1, e2, e3⟩ := (HEr.out.below HB2.out).at_ (k := 0) (e := x) (by rw [hr']; rfl)
      simp only [Nat.zero_mul, Nat.add_zero] at e0
      have HHd : Hid (hdK (r.take n) = x.key) := Lib.hid (by rw [hr']; obtain ⟨m, hm⟩ : ∃ m, n = m + 1 := ⟨n - 1, by omega⟩; rw [hm]; rfl)
      have hnz : (0 : Int) < (n : Int) := by omega
      have HR' := Lib.hid hr'
      obtain ⟨q', c', hE', hrun'⟩ := HEr.out.from_ (i := n) hfl
      have HE' := Lib.hid hE'
      have hfrm := frame_room HSt.out (by rw [hr']; obtain ⟨m, hm⟩ : ∃ m, n = m + 1 := ⟨n - 1, by omega⟩; rw [hm]; simp)
      have hxk : x.key.length ≤ 1099511627776 := by have := (HSr.out.2).small (e := x) (by rw [hr']; exact .head _); omega
      have htw := HSt.out.2
      obtain ⟨fp, hfpe⟩ : ∃ fp, frame (pay (r.take n)) = fp := ⟨_, rfl⟩
      have HFp := Lib.hid hfpe
      rw [hfpe] at HOf hfrm
      have HA := Lib.hid (idx_add w2 w.heap.size w.heap.size rv (idxB 0 cs) (tabB cs).length fp.length x.key HM2.out HB2.out.size (by omega) (by omega) (by omega) (by omega))
      rw [hfpe]
      have hxb1 := block_lt HM1.out.blk
      clear hr' hE' hfpe hV1 e1 e2 e3
      go_wp2_with fail
      refine HA.out.mono ?_
      rintro y w3 ⟨rfl, rv', hM3, hfr3, hrv'⟩
      have HO3 : Hid (Own w3 w.heap.size u5 (tabB cs)) := Lib.hid (HO2.out.keep fun k hk => hfr3.block k (World.ownsRow.lt HO2.out k hk).2 (fun hin => by
        rcases hin with e | e
        · obtain ⟨cur, hc⟩ := HO2.out.heap hk
          rw [e, HM2.out.blk] at hc
          cases hc
        · exact HAp.out k hk e))
      have HOf3 : Hid (Own w3 w.heap.size (.slice qf fp.length cf) fp) := Lib.hid ((HOf.out.keep fun k hk => hfr3.block k (World.ownsRow.lt HOf.out k hk).2 (fun hin => by
        have hlo := HOf.out.block k hk
        rcases hin with e | e
        · omega
        · have := (World.ownsRow.lt HM1.out.own k e).2
          omega)).more HB1.out.size)
      have HM3 := Lib.hid hM3
      have HB3 : Hid (Below w.heap.size w w3) := Lib.hid (HB2.out.trans (hfr3.below HB2.out.size fun k hk hin => by
        rcases hin with e | e
        · omega
        · have := HM2.out.own.block k e
          omega))
      have HRv : Hid (∀ k, u5.ownBlock = some k → rv'.ownBlock ≠ some k) := Lib.hid (fun k hk e => by
        rcases hrv' with e2 | e2
        · exact HAp.out k hk (by rw [← e2]; exact e)
        · have h1 := e2 k e
          have h2 := (World.ownsRow.lt HO2.out k hk).2
          omega)
      clear hM3 hfr3 hrv'
      obtain ⟨qt, ct, rfl, _, _⟩ := HO3.out.shp
      go_wp2_with (at_builtin; refine wpList_append_rd_at rfl _ _ rfl w.heap.size w3.heap.size _ _ _ fp rfl HO3.out rfl (HOf3.out.rd (by omega)) (by omega) HB3.out.size ?_; intro v4 w4 hown4 hg4 hat4; have HG4 := Lib.hid hg4; have HAt := Lib.hid hat4; have HO4 := Lib.hid hown4; clear hown4 hg4 hat4)
      have hne4 : (Value.slice qt (tabB cs).length ct).ownBlock ≠ some w.heap.size := fun e => by
        obtain ⟨cur, hc⟩ := HO3.out.heap e
        rw [HM3.out.blk] at hc
        cases hc
      have hIdx : IdxM w4 w.heap.size w.heap.size rv' (idxB 0 cs ++ rowB x.key (tabB cs).length fp.length) ((tabB cs).length + fp.length) :=
        ⟨(HG4.out.block _ (block_lt HM3.out.blk) (fun e => hne4 e.symm)).trans HM3.out.blk, HM3.out.own.keep fun k hk => HG4.out.block k (World.ownsRow.lt HM3.out.own k hk).2 (fun e => HRv.out k e.symm hk)⟩
      have hap4 : ∀ k, v4.ownBlock = some k → rv'.ownBlock ≠ some k := fun k hk e => by
        rcases HAt.out with e2 | e2
        · exact HRv.out k (e2.symm.trans hk) e
        · rw [e2] at hk
          injection hk with hk
          have := (World.ownsRow.lt HM3.out.own k e).2
          omega
      have hb4 : Below w.heap.size w w4 := HB3.out.trans ⟨HG4.out.os, HG4.out.tape, HG4.out.output, HG4.out.size, fun k hk => HG4.out.block k (Nat.lt_of_lt_of_le hk HB3.out.size) (fun e => Nat.not_le_of_lt hk (HO3.out.block k e.symm))⟩
      refine ⟨⟨cs ++ [r.take n], r.drop n, q', c', rv', ?_, ?_, ?_, by rw [List.length_drop], by rw [List.length_drop]; exact HE'.out, ?_, ?_, hap4, hb4⟩, by simp only [lenOf]; omega⟩
      · simp only [List.flatten_append, List.flatten_cons, List.flatten_nil, List.append_nil, List.append_assoc, List.take_append_drop]
        exact HCut.out.1
      · rw [HCut.out.2.1, HFr.out]
        simp
      · intro d hd
        rcases List.mem_append.1 hd with h | h
        · exact HCut.out.2.2 d h
        · simp only [List.mem_singleton] at h
          subst h
          exact List.ne_nil_of_length_pos (by rw [List.length_take]; omega)
      · rw [tabB_snoc, HFp.out]
        exact HO4.out
      · rw [idxB_snoc, tabB_snoc, HFp.out, HHd.out, List.length_append, Nat.zero_add]
        exact hIdx
end Go.Proofs.YtagehnclkneolaaGreatDoor

/-
  The walks over sst.tooLong, slices.IndexFunc, slices.ContainsFunc, sst.refused, sst.Build.
-/
namespace Go.Proofs.YtagehnclkneolaaGreatDoor
open Go.RowKit

set_option maxRecDepth 100000 in
set_option maxHeartbeats 1000000 in
theorem tooLong_any (w : World) (e : Ent) (q : Option Addr) (c : Nat) :
    Calls Tryz.prog 71 #[.agg #[.string ⟨e.key.toArray⟩, .int .u64 (e.seq : Int), .bool e.gone, .slice q e.val.length c]] w fun x w' => x = .returned (.bool (longE e)) ∧ Below w.heap.size w w' := by
  have hsz : (⟨e.key.toArray⟩ : ByteArray).size = e.key.length := by simp [ByteArray.size]
  have hb := below_alloc w (.cells #[.string ⟨e.key.toArray⟩, .int .u64 (e.seq : Int), .bool e.gone, .slice q e.val.length c] 37)
  have HB := Lib.hid hb
  clear hb
  by_cases h1 : 65535 < e.key.length
  · have d1 : decide ((65535 : Int) < (e.key.length : Int)) = true := decide_eq_true (by omega)
    have HL : Hid (longE e = true) := Lib.hid (by simp [longE, h1])
    clear h1
    go_enter Tryz.func71, Tryz.ntmps71
    go_wp2_with fail
    go_ret
    exact ⟨by rw [HL.out]; rfl, HB.out⟩
  · have d1 : decide ((65535 : Int) < (e.key.length : Int)) = false := decide_eq_false (by omega)
    by_cases h2 : 33554432 < e.val.length
    · have d2 : decide ((33554432 : Int) < (e.val.length : Int)) = true := decide_eq_true (by omega)
      have HL : Hid (longE e = true) := Lib.hid (by simp [longE, h2])
      clear h1 h2
      go_enter Tryz.func71, Tryz.ntmps71
      go_wp2_with fail
      go_ret
      exact ⟨by rw [HL.out]; rfl, HB.out⟩
    · have d2 : decide ((33554432 : Int) < (e.val.length : Int)) = false := decide_eq_false (by omega)
      have HL : Hid (longE e = false) := Lib.hid (by simp [longE]; omega)
      clear h1 h2
      go_enter Tryz.func71, Tryz.ntmps71
      go_wp2_with fail
      go_ret
      exact ⟨by rw [HL.out]; rfl, HB.out⟩

set_option maxRecDepth 100000 in
set_option maxHeartbeats 1000000 in
theorem index_any (w : World) (F : Nat → Prop) (p : Option Addr) (cap : Nat) (es : List Ent) (h : En w F (.slice p es.length cap) es) :
    Calls Tryz.prog 91 #[.slice p es.length cap, .func (.func 71) #[] #[]] w fun x w' => (∃ i : Int, x = .returned (.int .i64 i) ∧ decide (0 ≤ i) = es.any longE) ∧ Below w.heap.size w w' := by
  obtain ⟨_, _, he, hlc, hl47, hcm, _⟩ := h.form
  simp only [Value.slice.injEq] at he
  obtain ⟨rfl, _, rfl⟩ := he
  have HE := Lib.hid h
  have eg : ∀ args W, (callFunc 71 args).run Tryz.prog W = .ok (.enter 71 args) W := enters_of Tryz.func71 (by kernel_rfl) rfl
  clear h
  go_enter Tryz.func91, Tryz.ntmps91
  go_wp2_with fail
  go_loopw [8] (fun i wr => ∃ k : Nat, k ≤ es.length ∧ i = .int .i64 (k : Int) ∧ Below w.heap.size w wr ∧ (es.take k).any longE = false) (fun i _ => es.length - (intOf i).toNat)
  case atStart => exact ⟨0, by omega, rfl, Below.refl _ _, by simp⟩
  case round =>
    obtain ⟨k, hk, rfl, hb, hno⟩ := hrel
    have HB := Lib.hid hb
    have HNo := Lib.hid hno
    clear hno
    by_cases hlt : k < es.length
    · have d1 : decide ((k : Int) < (es.length : Int)) = true := decide_eq_true (by omega)
      obtain ⟨b1, off1, q2, c2, rfl, hbl, _, hV1, e0, e1, e2, e3⟩ := (HE.out.below hb).at_ (List.getElem?_eq_getElem hlt)
      have HC := Lib.hid (tooLong_any wr es[k] q2 c2)
      have HSn : Hid ((es.take (k + 1)).any longE = longE es[k]) := Lib.hid (by rw [List.take_add_one, List.getElem?_eq_getElem hlt, List.any_append, HNo.out]; simp)
      have HAny : Hid (longE es[k] = true → es.any longE = true) := Lib.hid (fun h => List.any_eq_true.2 ⟨es[k], List.getElem_mem hlt, h⟩)
      generalize es[k] = x at *
      clear hb hV1
      obtain ⟨bb, hbb⟩ : ∃ bb, longE x = bb := ⟨_, rfl⟩
      rw [hbb] at HC HSn HAny
      clear hbb
      cases bb
      · go_wp2_with (go_at_fn 71; refine HC.out.mono ?_; rintro y w1 ⟨rfl, hb1⟩; have HB1 := Lib.hid (HB.out.trans (hb1.mono HB.out.size)); clear hb1)
        go_roundw
        case rel => exact ⟨k + 1, by omega, by go_num, HB1.out, HSn.out⟩
        case measure => simp [intOf]; omega
      · go_wp2_with (go_at_fn 71; refine HC.out.mono ?_; rintro y w1 ⟨rfl, hb1⟩; have HB1 := Lib.hid (HB.out.trans (hb1.mono HB.out.size)); clear hb1)
        go_ret
        exact ⟨⟨(k : Int), rfl, by rw [HAny.out (by trivial)]; exact decide_eq_true (by omega)⟩, HB1.out⟩
    · obtain rfl : k = es.length := by omega
      clear hb
      go_wp2_with fail
      go_ret
      exact ⟨⟨-1, rfl, by have := HNo.out; rw [List.take_length] at this; rw [this]; rfl⟩, HB.out⟩

set_option maxRecDepth 100000 in
set_option maxHeartbeats 1000000 in
theorem contains_any (w : World) (F : Nat → Prop) (p : Option Addr) (cap : Nat) (es : List Ent) (h : En w F (.slice p es.length cap) es) :
    Calls Tryz.prog 70 #[.slice p es.length cap, .func (.func 71) #[] #[]] w fun x w' => x = .returned (.bool (es.any longE)) ∧ Below w.heap.size w w' := by
  have HC := Lib.hid (index_any w F p cap es h)
  clear h
  obtain ⟨r, hr⟩ : ∃ r, es.any longE = r := ⟨_, rfl⟩
  rw [hr] at HC ⊢
  clear hr
  go_enter Tryz.func70, Tryz.ntmps70
  go_wp2_with fail
  refine HC.out.mono ?_
  rintro y w1 ⟨⟨i, rfl, hi⟩, hb1⟩
  have HB1 := Lib.hid hb1
  clear hb1
  cases r
  all_goals
    go_wp2_with fail
    go_ret
    exact ⟨rfl, HB1.out⟩

theorem refN_arg {block : Int} {es : List Ent} (h : block < 1 ∨ 67108864 < block) : refN block es = 1 := by unfold refN; rw [if_pos h]
theorem refN_order {block : Int} {es : List Ent} (h1 : 1 ≤ block) (h2 : block ≤ 67108864) (h : rightE es = false) : refN block es = 15 := by unfold refN; rw [if_neg (by omega), if_pos h]
theorem refN_long {block : Int} {es : List Ent} (h1 : 1 ≤ block) (h2 : block ≤ 67108864) (h : rightE es = true) (h3 : es.any longE = true) : refN block es = 3 := by unfold refN; rw [if_neg (by omega), if_neg (by simp [h]), if_pos h3]
theorem refN_ok {block : Int} {es : List Ent} (h1 : 1 ≤ block) (h2 : block ≤ 67108864) (h : rightE es = true) (h3 : es.any longE = false) : refN block es = 0 := by unfold refN; rw [if_neg (by omega), if_neg (by simp [h]), if_neg (by simp [h3])]

set_option maxRecDepth 100000 in
set_option maxHeartbeats 1000000 in
theorem refused_any (w : World) (F : Nat → Prop) (p : Option Addr) (cap : Nat) (es : List Ent) (block : Int) (h : En w F (.slice p es.length cap) es) (hb1 : -9223372036854775808 ≤ block) (hb2 : block ≤ 9223372036854775807) :
    Calls Tryz.prog 39 #[.slice p es.length cap, .int .i64 block] w fun x w' => x = .returned (.int .i64 (refN block es : Int)) ∧ Below w.heap.size w w' := by
  have HE := Lib.hid h
  have HR := Lib.hid (mg_right w F _ es h)
  have HC : Hid (∀ V, Below w.heap.size w V → Calls Tryz.prog 70 #[.slice p es.length cap, .func (.func 71) #[] #[]] V fun x w' => x = .returned (.bool (es.any longE)) ∧ Below V.heap.size V w') := Lib.hid (fun V hV => contains_any V F p cap es (h.below hV))
  have HR15 := Lib.hid (@refN_order block es)
  have HR3 := Lib.hid (@refN_long block es)
  have HR0 := Lib.hid (@refN_ok block es)
  have HR1 := Lib.hid (@refN_arg block es)
  clear h
  generalize refN block es = rn at *
  generalize rightE es = rt at *
  generalize es.any longE = lg at *
  by_cases h1 : block < 1
  · have d1 : decide (block < 1) = true := decide_eq_true h1
    have HN := Lib.hid (HR1.out (.inl h1))
    clear h1
    go_enter Tryz.func39, Tryz.ntmps39
    go_wp2_with fail
    go_ret
    exact ⟨by rw [HN.out]; rfl, Below.refl _ _⟩
  · have d1 : decide (block < 1) = false := decide_eq_false h1
    by_cases h2 : 67108864 < block
    · have d2 : decide ((67108864 : Int) < block) = true := decide_eq_true h2
      have HN := Lib.hid (HR1.out (.inr h2))
      clear h1 h2
      go_enter Tryz.func39, Tryz.ntmps39
      go_wp2_with fail
      go_ret
      exact ⟨by rw [HN.out]; rfl, Below.refl _ _⟩
    · have d2 : decide ((67108864 : Int) < block) = false := decide_eq_false h2
      have HBd := Lib.hid (And.intro (show 1 ≤ block by omega) (show block ≤ 67108864 by omega))
      clear h1 h2
      cases rt
      · have HN := Lib.hid (HR15.out HBd.out.1 HBd.out.2 rfl)
        go_enter Tryz.func39, Tryz.ntmps39
        go_wp2_with fail
        refine HR.out.mono ?_
        rintro y w1 ⟨rfl, hb⟩
        have HB := Lib.hid hb
        clear hb
        go_wp2_with fail
        go_ret
        exact ⟨by rw [HN.out]; rfl, HB.out⟩
      · cases lg
        all_goals
          first
          | have HN := Lib.hid (HR0.out HBd.out.1 HBd.out.2 rfl rfl)
          | have HN := Lib.hid (HR3.out HBd.out.1 HBd.out.2 rfl rfl)
          go_enter Tryz.func39, Tryz.ntmps39
          go_wp2_with fail
          refine HR.out.mono ?_
          rintro y w1 ⟨rfl, hb⟩
          have HB := Lib.hid hb
          have HC1 := Lib.hid (HC.out w1 hb)
          clear hb
          go_wp2_with fail
          refine HC1.out.mono ?_
          rintro y w2 ⟨rfl, hb2⟩
          have HB2 := Lib.hid (HB.out.trans (hb2.mono HB.out.size))
          clear hb2
          go_wp2_with fail
          go_ret
          exact ⟨by rw [HN.out]; rfl, HB2.out⟩

set_option maxRecDepth 100000 in
set_option maxHeartbeats 1000000 in
theorem build_any (w : World) (F : Nat → Prop) (p : Option Addr) (cap : Nat) (es : List Ent) (block : Int) (h : En w F (.slice p es.length cap) es) (hs : ShL es) (ht : Tabs w) (hb1 : -9223372036854775808 ≤ block) (hb2 : block ≤ 9223372036854775807) :
    Calls Tryz.prog 18 #[.slice p es.length cap, .int .i64 block] w fun x w' => (∃ u, x = .returned (.tuple #[u, .int .i64 (refN block es : Int)]) ∧
      ((refN block es = 0 ∧ Own w' w.heap.size u (tblB block.toNat es)) ∨ (refN block es ≠ 0 ∧ u = .slice none 0 0))) ∧ Below w.heap.size w w' := by
  have HR := Lib.hid (refused_any w F p cap es block h hb1 hb2)
  have HW : Hid (refN block es = 0 → ∀ V, Below w.heap.size w V → Calls Tryz.prog 40 #[.slice p es.length cap, .int .i64 block] V fun x w' => ∃ u, x = .returned u ∧ Own w' V.heap.size u (tblB block.toNat es) ∧ Below V.heap.size V w') := Lib.hid (fun h0 V hV => by
    have hr : ¬ (block < 1 ∨ 67108864 < block) := fun hh => by rw [refN_arg hh] at h0; cases h0
    have hbn : ((block.toNat : Nat) : Int) = block := by omega
    have := written_any V F p cap es block.toNat (h.below hV) hs (by omega) (by omega) (ht.under hV ht.two)
    rw [hbn] at this
    exact this)
  clear h hs ht
  generalize refN block es = rn at *
  go_enter Tryz.func18, Tryz.ntmps18
  go_wp2_with fail
  refine HR.out.mono ?_
  rintro y w1 ⟨rfl, hb⟩
  have HB := Lib.hid hb
  clear hb
  by_cases h0 : rn = 0
  · have HW1 := Lib.hid (HW.out h0 w1 HB.out)
    subst h0
    clear HW
    go_wp2_with fail
    refine HW1.out.mono ?_
    rintro y w2 ⟨u, rfl, hown, hb2'⟩
    have HO := Lib.hid hown
    have HB2 := Lib.hid hb2'
    clear hown hb2'
    go_wp2_with fail
    refine Go.bodyPost_ret (Go.results_tmp2 rfl _ _ _) rfl ?_
    exact ⟨⟨u, rfl, HO.out.more HB.out.size⟩, HB.out.trans (HB2.out.mono HB.out.size)⟩
  · have d1 : ((rn : Int) != 0) = true := by simp; omega
    have HN := Lib.hid h0
    clear h0 HW
    go_wp2_with fail
    refine Go.bodyPost_ret (Go.results_tmp2 rfl _ _ _) rfl ?_
    exact ⟨⟨_, rfl, .inr ⟨HN.out, rfl⟩⟩, HB.out⟩
end Go.Proofs.YtagehnclkneolaaGreatDoor
