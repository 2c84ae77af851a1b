/-
  The walk over (*queue).pass.
-/
import Derived.Test.YteclnnjijfbfoaaMgT
namespace Go.Proofs.Yteclnnjijfbfoaa
open Go.RowKit

theorem row_take {w : World} {B : Nat} {e : TypeId} {s n k cap : Nat} {p : Option Addr} {xs : List Value} (h : w.ownsRow B e s (.slice p n cap) n xs) (hp : p ≠ none) (hk : k ≤ n) : w.ownsRow B e s (.slice p k cap) k (xs.take (k * s)) := by
  have hks : k * s ≤ n * s := Nat.mul_le_mul_right s hk
  refine ⟨by rw [List.length_take, h.1]; omega, ?_⟩
  rcases h.2 with ⟨e1, _⟩ | ⟨g, cap', cur, e1, h1, h2, h3, h4, h5, h6⟩
  · injection e1 with e1 _ _
    exact absurd e1 hp
  · injection e1 with e1 _ e2
    subst e1 e2
    exact .inr ⟨g, cap, cur, rfl, h1, h2, by omega, h4, h5, by rw [← h6, List.take_take, Nat.min_eq_left hks]⟩
/-- The first head's source has told one more. -/
theorem QM.more {w w1 : World} {A qb g cap : Nat} {a b : Hd} {t : List Hd} (h : QM w A qb (some ⟨g, 0, none⟩) cap (a :: t)) (hf : Fr (fun k => k = a.bl) w w1) (hbl : b.bl = a.bl) (hn : b.num = a.num) {p1 : Option Addr} {c2 : Nat}
    (hbox : w1.heap[a.bl]? = some (.cells #[.slice p1 b.rest.length c2] 26 (0, 0))) (hE : En w1 (fun k => k < A) (.slice p1 b.rest.length c2) b.rest) (hV : By w1 (fun k => k < A) (.slice b.q b.e.val.length b.c) b.e.val) :
    QM (set4 w1 g (.string ⟨b.e.key.toArray⟩) (.int .u64 (b.e.seq : Int)) (.bool b.e.gone) (.slice b.q b.e.val.length b.c)) A qb (some ⟨g, 0, none⟩) cap (b :: t) ∧
    Fr (fun k => InHp (some ⟨g, 0, none⟩) k ∨ k = qb ∨ k = a.bl) w (set4 w1 g (.string ⟨b.e.key.toArray⟩) (.int .u64 (b.e.seq : Int)) (.bool b.e.gone) (.slice b.q b.e.val.length b.c)) := by
  obtain ⟨cur, hg⟩ := h.hpne
  have hgA := (World.ownsRow.lt h.row g rfl).1
  obtain ⟨b1, p, c, b2, b3⟩ := h.box a (by simp)
  have hga : g ≠ a.bl := fun e => kind_ne b2 hg (by decide) e.symm
  have hqa : qb ≠ a.bl := fun e => kind_ne b2 h.q (by decide) e.symm
  have hqg : qb ≠ g := kind_ne h.q hg (by decide)
  have f1 : Fr (fun k => k = a.bl) w w1 := hf
  have f2 := set4_fr w1 g (.string ⟨b.e.key.toArray⟩) (.int .u64 (b.e.seq : Int)) (.bool b.e.gone) (.slice b.q b.e.val.length b.c) (fun k => k = g) rfl
  have f0 : Fr (fun k => k = a.bl ∨ k = g) w (set4 w1 g (.string ⟨b.e.key.toArray⟩) (.int .u64 (b.e.seq : Int)) (.bool b.e.gone) (.slice b.q b.e.val.length b.c)) := (f1.mono fun k _ e => .inl e).then (f2.mono fun k _ e => .inr e)
  have hrow : w1.ownsRow A 106 6 (.slice (some ⟨g, 0, none⟩) (a :: t).length cap) (a :: t).length (hcs (a :: t)) := row_keep h.row fun k hk => by
    obtain rfl : g = k := Option.some.inj hk
    exact f1.block _ (block_lt hg) hga
  have r1 := (World.ownsRow.stored hrow 0 (.string ⟨b.e.key.toArray⟩)).1
  have r2 := (World.ownsRow.stored r1 1 (.int .u64 (b.e.seq : Int))).1
  have r3 := (World.ownsRow.stored r2 2 (.bool b.e.gone)).1
  have r4 := (World.ownsRow.stored r3 3 (.slice b.q b.e.val.length b.c)).1
  have e4 : ((((hcs (a :: t)).set 0 (.string ⟨b.e.key.toArray⟩)).set 1 (.int .u64 (b.e.seq : Int))).set 2 (.bool b.e.gone)).set 3 (.slice b.q b.e.val.length b.c) = hcs (b :: t) := by simp [hcs, hdC, hbl, hn]
  rw [e4] at r4
  refine ⟨⟨(f0.block _ (block_lt h.q) (by rintro (e | e) <;> contradiction)).trans h.q, h.qlo, r4, fun x hx => ?_, fun x hx => ?_, ?_, h.few⟩, f0.mono fun k _ e => e.elim (fun e => .inr (.inr e)) (fun e => .inl ⟨_, rfl, e⟩)⟩
  · rcases List.mem_cons.1 hx with rfl | hx
    · refine ⟨by rw [hbl]; exact b1, p1, c2, ?_, hE.step f2 fun k _ hk e => by omega⟩
      rw [hbl]
      exact (f2.block _ (block_lt hbox) (fun e => hga e.symm)).trans hbox
    · obtain ⟨x1, p', c', x2, x3⟩ := h.box x (by simp [hx])
      refine ⟨x1, p', c', (f0.block _ (block_lt x2) ?_).trans x2, x3.step f0 fun k _ hk e => by omega⟩
      rintro (e | e)
      · exact (List.pairwise_cons.1 h.bls).1 x hx e.symm
      · exact kind_ne x2 hg (by decide) e
  · rcases List.mem_cons.1 hx with rfl | hx
    · exact hV.step f2 fun k _ hk e => by omega
    · exact (h.val x (by simp [hx])).step f0 fun k _ hk e => by omega
  · have := List.pairwise_cons.1 h.bls
    exact List.pairwise_cons.2 ⟨fun x hx => by rw [hbl]; exact this.1 x hx, this.2⟩
/-- The first head's source has ended: the last stands in its place. -/
theorem QM.less {w w1 : World} {A qb g cap : Nat} {a l : Hd} {t : List Hd} (h : QM w A qb (some ⟨g, 0, none⟩) cap (a :: t)) (hl : (a :: t)[t.length]? = some l) (hb : Below w.heap.size w w1) :
    QM ((put6 w1 g 0 l).setCell ⟨qb, 0, none⟩ (.slice (some ⟨g, 0, none⟩) t.length cap)) A qb (some ⟨g, 0, none⟩) cap (((a :: t).set 0 l).take t.length) ∧
    Fr (fun k => InHp (some ⟨g, 0, none⟩) k ∨ k = qb ∨ k = a.bl) w ((put6 w1 g 0 l).setCell ⟨qb, 0, none⟩ (.slice (some ⟨g, 0, none⟩) t.length cap)) := by
  have h1 := h.below hb
  obtain ⟨cur, hg⟩ := h1.hpne
  have hgA := (World.ownsRow.lt h1.row g rfl).1
  have hqA := h1.qlo
  have hqg : qb ≠ g := kind_ne h1.q hg (by decide)
  have r1 := set6_row (i := 0) h1.row (by simp) l
  rw [Nat.zero_mul] at r1
  have r2 := row_take r1 (by simp) (show t.length ≤ (a :: t).length by simp)
  rw [hcs_take] at r2
  have f1 : Fr (fun k => k = g) w1 (put6 w1 g 0 l) := set6_fr _ g 0 _ _ _ _ _ _ (fun k => k = g) rfl
  have f2 := Fr.setCell (fun k => k = qb) (put6 w1 g 0 l) (p := ⟨qb, 0, none⟩) rfl (.slice (some ⟨g, 0, none⟩) t.length cap)
  have f0 : Fr (fun k => k = g ∨ k = qb) w1 ((put6 w1 g 0 l).setCell ⟨qb, 0, none⟩ (.slice (some ⟨g, 0, none⟩) t.length cap)) := (f1.mono fun k _ e => .inl e).then (f2.mono fun k _ e => .inr e)
  have hq1 : (put6 w1 g 0 l).heap[qb]? = some (.cells #[.slice (some ⟨g, 0, none⟩) (a :: t).length cap, cmpV] 104 (0, 0)) := (f1.block _ (block_lt h1.q) hqg).trans h1.q
  have hsub : ∀ x ∈ ((a :: t).set 0 l).take t.length, x ∈ a :: t := fun x hx => by
    have hx := List.mem_of_mem_take hx
    rw [List.set_cons_zero] at hx
    rcases List.mem_cons.1 hx with rfl | hx
    · exact List.mem_of_getElem? hl
    · simp [hx]
  have hlen : (((a :: t).set 0 l).take t.length).length = t.length := by simp
  have hperm := cut0_perm (hs := a :: t) rfl (by simpa using hl)
  have hperm : (((a :: t).set 0 l).take t.length).Perm t := by simpa using hperm
  refine ⟨⟨?_, hqA, ?_, fun x hx => ?_, fun x hx => ?_, (hperm.pairwise_iff (fun h e => h e.symm)).2 (List.pairwise_cons.1 h1.bls).2, ?_⟩, ?_⟩
  · have := setCell_same (off := 0) hq1 (.slice (some ⟨g, 0, none⟩) t.length cap)
    rw [hlen]
    exact this
  · rw [hlen]
    exact row_keep r2 fun k hk => by
      obtain rfl : g = k := Option.some.inj hk
      exact setCell_other (fun e => hqg e.symm) _
  · obtain ⟨x1, p', c', x2, x3⟩ := h1.box x (hsub x hx)
    refine ⟨x1, p', c', (f0.block _ (block_lt x2) ?_).trans x2, x3.step f0 fun k _ hk e => by omega⟩
    rintro (e | e)
    · exact kind_ne x2 hg (by decide) e
    · exact kind_ne x2 h1.q (by decide) e
  · exact (h1.val x (hsub x hx)).step f0 fun k _ hk e => by omega
  · rw [hlen]
    have := h1.few
    simp at this
    omega
  · exact (Fr.of_new hb _).then (f0.mono fun k _ e => e.elim (fun e => .inl ⟨_, rfl, e⟩) (fun e => .inr (.inl e)))

set_option maxRecDepth 100000 in
set_option maxHeartbeats 4000000 in
theorem q_pass (w : World) (A qb : Nat) (hp : Option Addr) (cap : Nat) (a : Hd) (t : List Hd) (h : QM w A qb hp cap (a :: t)) (hhp : HpFrom 0 (a :: t)) :
    Calls Try.prog 49 #[.pointer (some ⟨qb, 0, none⟩)] w fun r w' => r = .returned (.tuple #[]) ∧ ∃ hs', HpFrom 0 hs' ∧ QM w' A qb hp cap hs' ∧ Fr (fun k => InHp hp k ∨ k = qb ∨ k = a.bl) w w' ∧
      ((∃ b : Hd, a.rest = b.e :: b.rest ∧ b.num = a.num ∧ b.bl = a.bl ∧ hs'.Perm (b :: t)) ∨ (a.rest = [] ∧ hs'.Perm t)) := by
  obtain ⟨hlc, hcm⟩ := h.room
  have hfew := h.few
  obtain ⟨g, rfl, hgA, hgl, a0, a1, a2, a3, a4, a5⟩ := h.at_ (i := 0) rfl
  have q0 := cell_of (i := 0) h.q rfl
  have qf := frozen_of (i := 0) h.q
  have hql := block_lt h.q
  obtain ⟨x1, p, c, x2, x3⟩ := h.box a (by simp)
  have HQ := Lib.hid h
  have HHp := Lib.hid hhp
  have hbg : a.bl ≠ g := by
    obtain ⟨cur, hg⟩ := h.hpne
    exact kind_ne x2 hg (by decide)
  have hqg : qb ≠ g := by
    obtain ⟨cur, hg⟩ := h.hpne
    exact kind_ne h.q hg (by decide)
  have hqa : qb ≠ a.bl := kind_ne h.q x2 (by decide)
  have hz := fun j => h.frz j
  unfold srcV at a4
  simp only [List.length_cons, Nat.zero_mul, Nat.zero_add] at *
  rcases hr : a.rest with _ | ⟨x, s⟩
  · rw [hr] at x2 x3
    have HN := Lib.hid (q_next_no w a.bl p c x2)
    obtain ⟨l, hl⟩ : ∃ l, (a :: t)[t.length]? = some l := ⟨_, List.getElem?_eq_getElem (by simp)⟩
    obtain ⟨g', e, _, _, b0, b1, b2, b3, b4, b5⟩ := h.at_ hl
    injection e with e
    injection e with e _ _
    subst e
    unfold srcV at b4
    have HFin : Hid (∀ V, Below w.heap.size w V → _) := Lib.hid (fun V hV => h.less hl hV)
    have HPe : Hid ((((a :: t).set 0 l).take t.length).Perm t ∧ HpFrom 0 (a :: t)) := Lib.hid ⟨by simpa using cut0_perm (hs := a :: t) rfl (by simpa using hl), hhp⟩
    have HCe : Hid (∀ V, Below w.heap.size w V → (∀ u o v, w.cell? ⟨u, o, none⟩ = some v → V.cell? ⟨u, o, none⟩ = some v) ∧ ∀ j, V.frozen? ⟨g, j, none⟩ = false ∧ V.frozen? ⟨qb, 0, none⟩ = false) := Lib.hid (fun V hV => ⟨fun u o v hu => (hV.cell (p := ⟨u, o, none⟩) (cell_lt hu)).trans hu, fun j => ⟨(h.below hV).frz j, frozen_of (i := 0) (h.below hV).q⟩⟩)
    clear h x2 x3 hhp
    go_enter Try.func49, Try.ntmps49
    go_wp2_with fail
    refine HN.out.mono ?_
    rintro r w1 ⟨rfl, hb1⟩
    obtain ⟨hc, hf⟩ := HCe.out w1 hb1
    have HB1 := Lib.hid hb1
    clear hb1 HN
    have k0 := hc _ _ _ q0
    have z0 := (hf 0).1
    have z1 := (hf 1).1
    have z2 := (hf 2).1
    have z3 := (hf 3).1
    have z4 := (hf 4).1
    have z5 := (hf 5).1
    have zq := (hf 0).2
    have e0 := hc _ _ _ a0
    have e1 := hc _ _ _ a1
    have e2 := hc _ _ _ a2
    have e3 := hc _ _ _ a3
    have e4 := hc _ _ _ a4
    have e5 := hc _ _ _ a5
    have d0 := hc _ _ _ b0
    have d1 := hc _ _ _ b1
    have d2 := hc _ _ _ b2
    have d3 := hc _ _ _ b3
    have d4 := hc _ _ _ b4
    have d5 := hc _ _ _ b5
    have hq1 : qb < w1.heap.size := Nat.lt_of_lt_of_le hql HB1.out.size
    have hg1 : g < w1.heap.size := Nat.lt_of_lt_of_le hgl HB1.out.size
    clear hc hf
    go_wp2_with fail
    obtain ⟨hq9, hf9⟩ := HFin.out w1 HB1.out
    refine (q_sink _ A qb (some ⟨g, 0, none⟩) cap _ (hq9.below ((Below.refl _ _).alloc (Nat.le_refl _) _)) (lo := 0) (at_ := 0) (SinkI.cut0 HPe.out.2 l t.length) (by omega)).mono ?_
    rintro r w5 ⟨rfl, hs', hp5, hh5, hq5, hf5⟩
    have HR := Lib.hid (And.intro hh5 (And.intro hq5 (And.intro ((hf9.alloc _).then (hf5.mono fun k _ e => .inl e)) (hp5.trans HPe.out.1))))
    clear hq9 hf9 hp5 hh5 hq5 hf5
    go_wp2_with fail
    go_end0
    exact ⟨rfl, hs', HR.out.1, HR.out.2.1, HR.out.2.2.1, .inr ⟨by trivial, HR.out.2.2.2⟩⟩
  · rw [hr] at x2 x3
    have HN := Lib.hid (q_next w (fun k => k < A) a.bl p c x s x2 x3 (by omega))
    have HFin : Hid (∀ (w1 : World) (q : Option Addr) (c1 : Nat) (p1 : Option Addr) (c2 : Nat), Fr (fun k => k = a.bl) w w1 → By w1 (fun k => k < A) (.slice q x.val.length c1) x.val → w1.heap[a.bl]? = some (.cells #[.slice p1 s.length c2] 26 (0, 0)) → En w1 (fun k => k < A) (.slice p1 s.length c2) s →
        QM (set4 w1 g (.string ⟨x.key.toArray⟩) (.int .u64 (x.seq : Int)) (.bool x.gone) (.slice q x.val.length c1)) A qb (some ⟨g, 0, none⟩) cap (⟨x, q, c1, a.bl, a.num, s⟩ :: t) ∧
        Fr (fun k => InHp (some ⟨g, 0, none⟩) k ∨ k = qb ∨ k = a.bl) w (set4 w1 g (.string ⟨x.key.toArray⟩) (.int .u64 (x.seq : Int)) (.bool x.gone) (.slice q x.val.length c1)) ∧
        SinkI 0 0 (⟨x, q, c1, a.bl, a.num, s⟩ :: t) (⟨x, q, c1, a.bl, a.num, s⟩ :: t)) := Lib.hid (fun w1 q c1 p1 c2 hf hV hbx hE => by
      obtain ⟨k1, k2⟩ := h.more (b := ⟨x, q, c1, a.bl, a.num, s⟩) hf rfl rfl hbx hE hV
      exact ⟨k1, k2, SinkI.set0 hhp ⟨x, q, c1, a.bl, a.num, s⟩⟩)
    have HCe : Hid (∀ V, Fr (fun k => k = a.bl) w V → (V.cell? ⟨qb, 0, none⟩ = some (.slice (some ⟨g, 0, none⟩) (t.length + 1) cap)) ∧ ∃ cur, V.heap[g]? = some (.cells cur 106 (0, 0)) ∧ V.cell? ⟨g, 0, none⟩ = some (.string ⟨a.e.key.toArray⟩) ∧ V.cell? ⟨g, 1, none⟩ = some (.int .u64 (a.e.seq : Int)) ∧ V.cell? ⟨g, 2, none⟩ = some (.bool a.e.gone) ∧ V.cell? ⟨g, 3, none⟩ = some (.slice a.q a.e.val.length a.c)) := Lib.hid (fun V hV => by
      obtain ⟨cur, hg⟩ := h.hpne
      have hVg := (hV.block _ (block_lt hg) (fun e => hbg e.symm))
      have hVq := (hV.block _ (block_lt h.q) hqa).trans h.q
      exact ⟨cell_of (i := 0) hVq rfl, cur, hVg.trans hg, (World.cell?_of_block hVg).trans a0, (World.cell?_of_block hVg).trans a1, (World.cell?_of_block hVg).trans a2, (World.cell?_of_block hVg).trans a3⟩)
    clear h x2 x3 hhp
    go_enter Try.func49, Try.ntmps49
    go_wp2_with fail
    refine HN.out.mono ?_
    rintro r w1 ⟨q1, c1, p1, c2, rfl, hV1, hbx1, hE1, hf1⟩
    obtain ⟨k0, cur, hg, e0, e1, e2, e3⟩ := HCe.out w1 hf1
    have z0 := frozen_of (i := 0) hg
    have z1 := frozen_of (i := 1) hg
    have z2 := frozen_of (i := 2) hg
    have z3 := frozen_of (i := 3) hg
    have hg1 := block_lt hg
    have hq1 := cell_lt k0
    have HR := Lib.hid (HFin.out w1 q1 c1 p1 c2 hf1 hV1 hbx1 hE1)
    clear hV1 hbx1 hE1 hf1 HN HCe HFin hg
    go_wp2_with fail
    refine (q_sink _ A qb (some ⟨g, 0, none⟩) cap _ (HR.out.1.below ((Below.refl _ _).alloc (Nat.le_refl _) _)) (lo := 0) (at_ := 0) HR.out.2.2 (by omega)).mono ?_
    rintro r w5 ⟨rfl, hs', hp5, hh5, hq5, hf5⟩
    have HS := Lib.hid (And.intro hh5 (And.intro hq5 (And.intro ((HR.out.2.1.alloc _).then (hf5.mono fun k _ e => .inl e)) hp5)))
    clear hp5 hh5 hq5 hf5
    go_wp2_with fail
    go_end0
    exact ⟨rfl, hs', HS.out.1, HS.out.2.1, HS.out.2.2.1, .inl ⟨⟨x, q1, c1, a.bl, a.num, s⟩, rfl, rfl, rfl, HS.out.2.2.2⟩⟩
end Go.Proofs.Yteclnnjijfbfoaa
