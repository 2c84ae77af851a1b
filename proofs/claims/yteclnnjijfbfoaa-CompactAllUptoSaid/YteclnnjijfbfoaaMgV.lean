/-
  The walk over merge.queueOf.
-/
import Derived.Test.YteclnnjijfbfoaaMgU
import Derived.Test.YteclnnjijfbfoaaMgO
import Derived.Deep.RegionLaw
namespace Go.Proofs.Yteclnnjijfbfoaa
open Go.RowKit

theorem slHd : SlT 102 106 6 72 :=
  ⟨Try.underlying102, by simp [Program.elem, Try.underlying102], fun _ => by kernel_rfl, ⟨.agg #[.string ⟨#[]⟩, .int .u64 0, .bool false, .slice none 0 0, .nilFunc, .int .i64 0], by kernel_rfl, rfl⟩, by omega, by omega⟩
/-- The sources: a row of closures over boxes; the boxes from n on are as they were made. -/
structure SrcM (w : World) (A : Nat) (sp : Option Addr) (sc : Nat) (bls : List Nat) (ls : List (List Ent)) (n : Nat) : Prop where
  len : bls.length = ls.length
  row : w.ownsRow A 77 1 (.slice sp ls.length sc) ls.length (bls.map srcV)
  box : ∀ (j bl : Nat) (l : List Ent), n ≤ j → bls[j]? = some bl → ls[j]? = some l → A ≤ bl ∧ ∃ p c, w.heap[bl]? = some (.cells #[.slice p l.length c] 26 (0, 0)) ∧ En w (fun k => k < A) (.slice p l.length c) l
  ne : bls.Pairwise (· ≠ ·)
theorem SrcM.fr {w w' : World} {A : Nat} {sp : Option Addr} {sc : Nat} {bls : List Nat} {ls : List (List Ent)} {n m : Nat} (h : SrcM w A sp sc bls ls n) (hnm : n ≤ m) {S : Nat → Prop} (hf : Fr S w w') (hA : ∀ k, S k → A ≤ k) (hr : ∀ cur g, w.heap[g]? = some (.cells cur 77 (0, 0)) → ¬ S g)
    (hb : ∀ (j bl : Nat), m ≤ j → bls[j]? = some bl → ¬ S bl) : SrcM w' A sp sc bls ls m :=
  ⟨h.len, row_keep h.row fun k hk => by
      obtain ⟨cur, hc⟩ := row_heap h.row hk
      exact hf.block _ (block_lt hc) (hr cur k hc), fun j bl l hj h1 h2 => by
      obtain ⟨b1, p, c, b2, b3⟩ := h.box j bl l (by omega) h1 h2
      exact ⟨b1, p, c, (hf.block _ (block_lt b2) (hb j bl hj h1)).trans b2, b3.step hf fun k _ hk hs => absurd (hA k hs) (by omega)⟩, h.ne⟩
theorem QM.push {W w3 : World} {A qb : Nat} {hp p9 : Option Addr} {cap c9 : Nat} {hs : List Hd} (h : QM W A qb hp cap hs) (b : Hd) (hA : A ≤ b.bl) {p c : _} (hbx : W.heap[b.bl]? = some (.cells #[.slice p b.rest.length c] 26 (0, 0))) (hE : En W (fun k => k < A) (.slice p b.rest.length c) b.rest)
    (hV : By W (fun k => k < A) (.slice b.q b.e.val.length b.c) b.e.val) (hne : ∀ x ∈ hs, x.bl ≠ b.bl) (hfew : hs.length + 1 ≤ 1024)
    (ho : w3.ownsRow A 106 6 (.slice p9 (hs.length + 1) c9) (hs.length + 1) (hcs hs ++ hdC b)) (hg : W.grownBy w3 (Value.slice hp hs.length cap).ownBlock) :
    QM (w3.setCell ⟨qb, 0, none⟩ (.slice p9 (hs.length + 1) c9)) A qb p9 c9 (hs ++ [b]) ∧ Fr (fun k => InHp hp k ∨ k = qb) W (w3.setCell ⟨qb, 0, none⟩ (.slice p9 (hs.length + 1) c9)) := by
  have hib : ∀ k, (Value.slice hp hs.length cap).ownBlock = some k → InHp hp k ∧ ∃ cur, W.heap[k]? = some (.cells cur 106 (0, 0)) := fun k hk => ⟨by
    cases hp with
    | none => cases hk
    | some a => exact ⟨a, rfl, (Option.some.inj hk).symm⟩, row_heap h.row hk⟩
  have f1 : Fr (fun k => (Value.slice hp hs.length cap).ownBlock = some k) W w3 := Fr.grown hg fun k hk => hk
  have f2 := Fr.setCell (fun k => k = qb) w3 (p := ⟨qb, 0, none⟩) rfl (.slice p9 (hs.length + 1) c9)
  have f0 : Fr (fun k => (Value.slice hp hs.length cap).ownBlock = some k ∨ k = qb) W (w3.setCell ⟨qb, 0, none⟩ (.slice p9 (hs.length + 1) c9)) := (f1.mono fun k _ e => .inl e).then (f2.mono fun k _ e => .inr e)
  have hA0 : ∀ k, (Value.slice hp hs.length cap).ownBlock = some k ∨ k = qb → A ≤ k := fun k e => e.elim (fun e => (World.ownsRow.lt h.row k e).1) (fun e => e ▸ h.qlo)
  have hq3 : w3.heap[qb]? = some (.cells #[.slice hp hs.length cap, cmpV] 104 (0, 0)) := (f1.block _ (block_lt h.q) (fun e => by
    obtain ⟨_, cur, hc⟩ := hib _ e
    exact kind_ne h.q hc (by decide) rfl)).trans h.q
  have hbx' : ∀ (bl : Nat) (cs : Array Value), W.heap[bl]? = some (.cells cs 26 (0, 0)) → (w3.setCell ⟨qb, 0, none⟩ (.slice p9 (hs.length + 1) c9)).heap[bl]? = some (.cells cs 26 (0, 0)) := fun bl cs hb => (f0.block _ (block_lt hb) (by
    rintro (e | e)
    · obtain ⟨_, cur, hc⟩ := hib _ e
      exact kind_ne hb hc (by decide) rfl
    · exact kind_ne hb h.q (by decide) e)).trans hb
  refine ⟨⟨?_, h.qlo, ?_, fun x hx => ?_, fun x hx => ?_, ?_, by simpa using hfew⟩, f0.mono fun k _ e => e.imp (fun e => (hib k e).1) id⟩
  · have := setCell_same (off := 0) hq3 (.slice p9 (hs.length + 1) c9)
    simpa using this
  · rw [hcs_append]
    have h1 : w3.ownsRow A 106 6 (.slice p9 (hs ++ [b]).length c9) (hs ++ [b]).length (hcs hs ++ hcs [b]) := by simpa [hcs] using ho
    refine row_keep h1 fun k hk => setCell_other (fun e => ?_) _
    obtain ⟨cur, hc⟩ := row_heap h1 hk
    exact kind_ne hc hq3 (by decide) e
  · rcases List.mem_append.1 hx with hx | hx
    · obtain ⟨x1, p', c', x2, x3⟩ := h.box x hx
      exact ⟨x1, p', c', hbx' _ _ x2, x3.step f0 fun k _ hk e => absurd (hA0 k e) (by omega)⟩
    · obtain rfl := List.mem_singleton.1 hx
      exact ⟨hA, p, c, hbx' _ _ hbx, hE.step f0 fun k _ hk e => absurd (hA0 k e) (by omega)⟩
  · rcases List.mem_append.1 hx with hx | hx
    · exact (h.val x hx).step f0 fun k _ hk e => absurd (hA0 k e) (by omega)
    · obtain rfl := List.mem_singleton.1 hx
      exact hV.step f0 fun k _ hk e => absurd (hA0 k e) (by omega)
  · rw [List.pairwise_append]
    exact ⟨h.bls, by simp, fun x hx y hy => by rw [List.mem_singleton.1 hy]; exact hne x hx⟩
theorem HdsI.perm {ls : List (List Ent)} {n : Nat} {hs ks : List Hd} (h : HdsI ls n hs) (p : ks.Perm hs) : HdsI ls n ks :=
  ⟨fun x hx => h.hd x (p.mem_iff.1 hx), (p.pairwise_iff (fun h e => h e.symm)).2 h.num, fun k l h1 h2 h3 => by
    obtain ⟨x, hx, h4⟩ := h.all k l h1 h2 h3
    exact ⟨x, p.mem_iff.2 hx, h4⟩, by rw [p.length_eq]; exact h.few⟩

structure QI (w : World) (A : Nat) (sp : Option Addr) (sc : Nat) (bls : List Nat) (ls : List (List Ent)) (k : Nat) (hp : Option Addr) (cap : Nat) (hs : List Hd) (wr : World) : Prop where
  qm : QM wr A w.heap.size hp cap hs
  src : SrcM wr A sp sc bls ls k
  hd : HdsI ls k hs
  own : ∀ x ∈ hs, bls[x.num]? = some x.bl
  hpl : ∀ a, hp = some a → w.heap.size ≤ a.block
  fr : Fr (fun k => k ∈ bls) w wr
  sz : w.heap.size < wr.heap.size
theorem SrcM.below {w w' : World} {A : Nat} {sp : Option Addr} {sc : Nat} {bls : List Nat} {ls : List (List Ent)} {n m : Nat} (h : SrcM w A sp sc bls ls n) (hnm : n ≤ m) (hb : Below w.heap.size w w') : SrcM w' A sp sc bls ls m :=
  h.fr hnm (Fr.of_new hb (fun _ => False)) (fun _ e => e.elim) (fun _ _ _ => id) (fun _ _ _ _ => id)
theorem QI.zero {w : World} {A : Nat} {sp : Option Addr} {sc : Nat} {bls : List Nat} {ls : List (List Ent)} (h : SrcM w A sp sc bls ls 0) (hA : A ≤ w.heap.size) :
    QI w A sp sc bls ls 0 none 0 [] (w.alloc (.cells #[.slice none 0 0, cmpV] 104)) := by
  have hb : Below w.heap.size w (w.alloc (.cells #[.slice none 0 0, cmpV] 104)) := (Below.refl _ _).alloc (Nat.le_refl _) _
  exact ⟨⟨heap_alloc_new w _, hA, World.ownsRow_nil _ _ _ _, (fun x hx => by cases hx), (fun x hx => by cases hx), by simp, by simp⟩, h.below (Nat.le_refl _) hb, .zero _, (fun x hx => by cases hx), (fun a e => by cases e), Fr.of_new hb _, by simp⟩
theorem QI.below {w : World} {A : Nat} {sp : Option Addr} {sc : Nat} {bls : List Nat} {ls : List (List Ent)} {k : Nat} {hp : Option Addr} {cap : Nat} {hs : List Hd} {wr wx : World} (h : QI w A sp sc bls ls k hp cap hs wr) (hb : Below wr.heap.size wr wx) : QI w A sp sc bls ls k hp cap hs wx :=
  ⟨h.qm.below hb, h.src.below (Nat.le_refl _) hb, h.hd, h.own, h.hpl, h.fr.then (Fr.of_new hb _), Nat.lt_of_lt_of_le h.sz hb.size⟩
theorem QI.skip {w : World} {A : Nat} {sp : Option Addr} {sc : Nat} {bls : List Nat} {ls : List (List Ent)} {k : Nat} {hp : Option Addr} {cap : Nat} {hs : List Hd} {wr : World} (h : QI w A sp sc bls ls k hp cap hs wr) (hl : ls[k]? = some []) : QI w A sp sc bls ls (k + 1) hp cap hs wr :=
  ⟨h.qm, h.src.below (Nat.le_succ _) (Below.refl _ _), h.hd.skip hl, h.own, h.hpl, h.fr, h.sz⟩
/-- The source number k has told its first one; it has been laid into the row. -/
theorem QI.put {w : World} {A : Nat} {sp : Option Addr} {sc : Nat} {bls : List Nat} {ls : List (List Ent)} {k : Nat} {hp : Option Addr} {cap : Nat} {hs : List Hd} {wr W w3 : World} (h : QI w A sp sc bls ls k hp cap hs wr) {bl : Nat} (hbl : bls[k]? = some bl) {b : Hd} (hb1 : b.bl = bl) (hb2 : b.num = k) (hl : ls[k]? = some (b.e :: b.rest))
    (hf : Fr (fun j => j = bl) wr W) {p : Option Addr} {c : Nat} (hbx : W.heap[bl]? = some (.cells #[.slice p b.rest.length c] 26 (0, 0))) (hE : En W (fun k => k < A) (.slice p b.rest.length c) b.rest) (hV : By W (fun k => k < A) (.slice b.q b.e.val.length b.c) b.e.val) (hfew : ls.length ≤ 1024) {p9 : Option Addr} {c9 : Nat}
    (ho : w3.ownsRow A 106 6 (.slice p9 (hs.length + 1) c9) (hs.length + 1) (hcs hs ++ hdC b)) (hg : W.grownBy w3 (Value.slice hp hs.length cap).ownBlock) (hq : (Value.slice p9 (hs.length + 1) c9).ownBlock = (Value.slice hp hs.length cap).ownBlock ∨ (Value.slice p9 (hs.length + 1) c9).ownBlock = some W.heap.size) :
    QI w A sp sc bls ls (k + 1) p9 c9 (hs ++ [b]) (w3.setCell ⟨w.heap.size, 0, none⟩ (.slice p9 (hs.length + 1) c9)) := by
  have hkl := (List.getElem?_eq_some_iff.1 hl).1
  obtain ⟨b1, _, _, b2, _⟩ := h.src.box k bl _ (Nat.le_refl _) hbl hl
  have hmem : bl ∈ bls := List.mem_of_getElem? hbl
  have hnd : ∀ i j x, bls[i]? = some x → bls[j]? = some x → i = j := fun i j x hi hj => by
    obtain ⟨h1, e1⟩ := List.getElem?_eq_some_iff.1 hi
    obtain ⟨h2, e2⟩ := List.getElem?_eq_some_iff.1 hj
    have hp := List.pairwise_iff_getElem.1 h.src.ne
    rcases Nat.lt_trichotomy i j with hij | hij | hij
    · exact absurd (e1.trans e2.symm) (hp i j h1 h2 hij)
    · exact hij
    · exact absurd (e2.trans e1.symm) (hp j i h2 h1 hij)
  have hne : ∀ x ∈ hs, x.bl ≠ bl := fun x hx e => by
    have h1 := h.own x hx
    rw [e] at h1
    have := hnd _ _ _ h1 hbl
    have := (h.hd.hd x hx).2
    omega
  have hqm : QM W A w.heap.size hp cap hs := h.qm.fr hf ⟨fun k e => e ▸ b1, fun e => kind_ne h.qm.q b2 (by decide) e, fun a e => ?_, fun x hx e => hne x hx e⟩
  · obtain ⟨h1, h2⟩ := hqm.push b (by rw [hb1]; exact b1) (by rw [hb1]; exact hbx) hE hV (by rw [hb1]; exact hne) (by have := h.hd.few; omega) ho hg
    have hlow : ∀ j, InHp hp j ∨ j = w.heap.size → w.heap.size ≤ j := fun j e => e.elim (fun ⟨a, e1, e2⟩ => e2 ▸ h.hpl a e1) (fun e => by omega)
    have hkind : ∀ j, InHp hp j ∨ j = w.heap.size → (∃ cur, W.heap[j]? = some (.cells cur 106 (0, 0))) ∨ ∃ cur, W.heap[j]? = some (.cells cur 104 (0, 0)) := fun j e => e.elim (fun ⟨a, e1, e2⟩ => by
      have h9 := hqm.row
      rcases h9.2 with ⟨e3, _⟩ | ⟨g, cap', cur, e3, _, e4, _⟩
      · injection e3 with e3 _ _; rw [e3] at e1; cases e1
      · injection e3 with e3 _ _
        rw [e3] at e1
        obtain rfl := Option.some.inj e1
        exact .inl ⟨cur, e2 ▸ e4⟩) (fun e => .inr ⟨_, e ▸ hqm.q⟩)
    have hs1 : SrcM W A sp sc bls ls (k + 1) := h.src.fr (Nat.le_succ _) hf (fun k e => e ▸ b1) (fun cur g hg e => kind_ne b2 hg (by decide) e.symm) (fun j b' hj hb' e => by
      subst e
      have := hnd _ _ _ hb' hbl
      omega)
    refine ⟨h1, hs1.fr (Nat.le_refl _) h2 (fun j e => Nat.le_trans hqm.qlo (hlow j e)) (fun cur g hg e => ?_) (fun j b' hj hb' e => ?_), h.hd.put hb2 hl, fun x hx => ?_, fun a e => ?_, (h.fr.then (hf.mono fun j _ e => e ▸ hmem)).trans (h2.mono fun j _ e => .inr (hlow j e)), ?_⟩
    · rcases hkind g e with ⟨_, h9⟩ | ⟨_, h9⟩
      · exact kind_ne hg h9 (by decide) rfl
      · exact kind_ne hg h9 (by decide) rfl
    · obtain ⟨_, _, _, h9, _⟩ := hs1.box j b' _ hj hb' (List.getElem?_eq_getElem (by rw [← h.src.len]; exact (List.getElem?_eq_some_iff.1 hb').1))
      rcases hkind b' e with ⟨_, h8⟩ | ⟨_, h8⟩
      · exact kind_ne h9 h8 (by decide) rfl
      · exact kind_ne h9 h8 (by decide) rfl
    · rcases List.mem_append.1 hx with hx | hx
      · exact h.own x hx
      · obtain rfl := List.mem_singleton.1 hx
        rw [hb1, hb2]; exact hbl
    · rw [e] at hq
      rcases hq with hq | hq
      · cases hp with
        | none => cases hq
        | some a' =>
          have := Option.some.inj hq
          have := h.hpl a' rfl
          omega
      · have := Option.some.inj hq
        have := hf.size
        have := h.sz
        omega
    · have := hf.size
      have := h.sz
      have := h2.size
      omega
  · subst e
    intro e2
    obtain ⟨cur, hc⟩ : ∃ cur, wr.heap[a.block]? = some (.cells cur 106 (0, 0)) := row_heap h.qm.row rfl
    exact kind_ne hc b2 (by decide) e2

set_option maxRecDepth 100000 in
set_option maxHeartbeats 8000000 in
theorem q_of (w : World) (A : Nat) (sp : Option Addr) (sc : Nat) (bls : List Nat) (ls : List (List Ent)) (h : SrcM w A sp sc bls ls 0) (hA : A ≤ w.heap.size) (hfew : ls.length ≤ 1024) :
    Calls Try.prog 48 #[cmpV, .slice sp ls.length sc] w fun r w' => ∃ qb hp cap hs, r = .returned (.pointer (some ⟨qb, 0, none⟩)) ∧ QM w' A qb hp cap hs ∧ HpFrom 0 hs ∧ HdsI ls ls.length hs ∧ w.heap.size ≤ qb ∧
      (∀ a, hp = some a → w.heap.size ≤ a.block) ∧ (∀ x ∈ hs, x.bl ∈ bls) ∧ Fr (fun k => k ∈ bls) w w' := by
  have HS := Lib.hid h
  clear h
  go_enter Try.func48, Try.ntmps48
  unfold cmpV
  go_wp2_with fail
  have HZ := Lib.hid (QI.zero HS.out hA)
  clear HS
  go_loopg [16] ls.length (fun g i wr => ∃ (k : Nat) (hp : Option Addr) (cap : Nat) (hs : List Hd), g + k = ls.length ∧ i = .int .i64 (k : Int) ∧ QI w A sp sc bls ls k hp cap hs wr)
  case atStart => exact ⟨0, none, 0, [], by omega, rfl, HZ.out⟩
  case round =>
    obtain ⟨k, hp, cap, hs, hg, rfl, hqi⟩ := hrel
    have HI := Lib.hid hqi
    by_cases hlt : k < ls.length
    · obtain ⟨l, hl⟩ : ∃ l, ls[k]? = some l := ⟨_, List.getElem?_eq_getElem hlt⟩
      obtain ⟨bl, hbl⟩ : ∃ bl, bls[k]? = some bl := ⟨_, List.getElem?_eq_getElem (by rw [hqi.src.len]; exact hlt)⟩
      obtain ⟨hbA, p, c, hbx, hE⟩ := hqi.src.box k bl l (Nat.le_refl _) hbl hl
      obtain ⟨gs, rfl, hgl, s0⟩ : ∃ gs, sp = some ⟨gs, 0, none⟩ ∧ gs < wr.heap.size ∧ wr.cell? ⟨gs, k, none⟩ = some (srcV bl) := by
        rcases hqi.src.row.2 with ⟨_, h0⟩ | ⟨g', cap', cur, e, h1, h2, _⟩
        · omega
        · injection e with e1 _ _
          have hr := hqi.src.row
          rw [e1] at hr
          exact ⟨g', e1, block_lt h2, (World.ownsRow.cellAt hr k (by omega)).trans (by simp [hbl])⟩
      unfold srcV at s0
      rcases l with _ | ⟨x, t⟩
      · have HN := Lib.hid (q_next_no wr bl p c hbx)
        have HK := Lib.hid (hqi.skip hl)
        clear hqi hbx hE
        go_wp2_with fail
        refine HN.out.mono ?_
        rintro r w1 ⟨rfl, hb1⟩
        have HK1 := Lib.hid ((HK.out.below hb1).below ((Below.refl _ _).alloc (Nat.le_refl _) (.cells #[.string ⟨#[]⟩, .int .u64 0, .bool false, .slice none 0 0] 33)))
        clear hb1
        go_wp2_with fail
        go_roundg (ls.length - (k + 1))
        case measure => omega
        case rel => exact ⟨k + 1, hp, cap, hs, by omega, by go_num, HK1.out⟩
      · have HN := Lib.hid (q_next wr (fun k => k < A) bl p c x t hbx hE (by omega))
        have hqb := kind_ne hqi.qm.q hbx (by decide)
        have HHb : Hid (∀ j cur, wr.heap[j]? = some (.cells cur 106 (0, 0)) → j ≠ bl) := Lib.hid (fun j cur hj => kind_ne hj hbx (by decide))
        have hn1 : hs.length ≤ k := hqi.hd.few
        clear hbx hE hqi
        go_wp2_with fail
        refine HN.out.mono ?_
        rintro r w1 ⟨q1, c1, p1, c2, rfl, hV1, hbx1, hE1, hf1⟩
        obtain ⟨X1, hX1⟩ : ∃ X1, w1.alloc (.cells #[.string ⟨x.key.toArray⟩, .int .u64 (x.seq : Int), .bool x.gone, .slice q1 x.val.length c1] 33) = X1 := ⟨_, rfl⟩
        have hbX : Below w1.heap.size w1 X1 := by rw [← hX1]; exact (Below.refl _ _).alloc (Nat.le_refl _) _
        have hXb : X1.heap[w1.heap.size]? = some (.cells #[.string ⟨x.key.toArray⟩, .int .u64 (x.seq : Int), .bool x.gone, .slice q1 x.val.length c1] 33 (0, 0)) := by rw [← hX1]; exact heap_alloc_new w1 _
        have hqX : X1.heap[w.heap.size]? = some (.cells #[.slice hp hs.length cap, cmpV] 104 (0, 0)) := by
          have h1 := (hf1.block _ (block_lt HI.out.qm.q) hqb).trans HI.out.qm.q
          exact (hbX.block _ (block_lt h1)).trans h1
        obtain ⟨W, hW⟩ : ∃ W, X1.drew.alloc (.cells #[.string ⟨x.key.toArray⟩, .int .u64 (x.seq : Int), .bool x.gone, .slice q1 x.val.length c1, .func (.func 47) #[] #[.pointer (some ⟨bl, 0, none⟩)], .int .i64 (k : Int)] 106) = W := ⟨_, rfl⟩
        have hbW : Below X1.heap.size X1 W := by rw [← hW]; exact (below_drew (Below.refl _ _)).alloc (Nat.le_refl _) _
        have hqW := (hbW.block _ (block_lt hqX)).trans hqX
        have hXW := (hbW.block _ (block_lt hXb)).trans hXb
        have hfW : Fr (fun j => j = bl) wr W := (hf1.then (Fr.of_new hbX _)).then (Fr.of_new hbW _)
        have HRow : Hid (W.ownsRow A 106 6 (.slice hp hs.length cap) hs.length (hcs hs)) := Lib.hid (row_keep HI.out.qm.row fun j hj => by
          obtain ⟨cur, hc⟩ := row_heap HI.out.qm.row hj
          exact hfW.block _ (block_lt hc) (HHb.out j cur hc))
        have HCl : Hid (Cl W (fun j => j = X1.heap.size) (.slice (some ⟨X1.heap.size, 0, none⟩) 1 1) 1 (hdC ⟨x, q1, c1, bl, k, t⟩)) := Lib.hid (by
          rw [← hW]
          exact Cl.new X1.drew (fun j => j = X1.heap.size) 1 (hdC ⟨x, q1, c1, bl, k, t⟩) _ _ rfl (by omega) rfl)
        have HPut : Hid (∀ (w3 : World) (p9 : Option Addr) (c9 : Nat), w3.ownsRow A 106 6 (.slice p9 (hs.length + 1) c9) (hs.length + 1) (hcs hs ++ hdC ⟨x, q1, c1, bl, k, t⟩) → W.grownBy w3 (Value.slice hp hs.length cap).ownBlock →
            ((Value.slice p9 (hs.length + 1) c9).ownBlock = (Value.slice hp hs.length cap).ownBlock ∨ (Value.slice p9 (hs.length + 1) c9).ownBlock = some W.heap.size) → QI w A (some ⟨gs, 0, none⟩) sc bls ls (k + 1) p9 c9 (hs ++ [⟨x, q1, c1, bl, k, t⟩]) (w3.setCell ⟨w.heap.size, 0, none⟩ (.slice p9 (hs.length + 1) c9))) := Lib.hid (fun w3 p9 c9 ho hg hq =>
          HI.out.put hbl (b := ⟨x, q1, c1, bl, k, t⟩) rfl rfl hl hfW (p := p1) (c := c2) ((hbW.block _ (Nat.lt_of_lt_of_le (block_lt hbx1) hbX.size)).trans ((hbX.block _ (block_lt hbx1)).trans hbx1)) ((hE1.below hbX).below hbW) ((hV1.below hbX).below hbW) hfew ho hg hq)
        have HqW := Lib.hid (And.intro hqW hXW)
        have HBW : Hid (A ≤ W.heap.size) := Lib.hid (Nat.le_trans hA (Nat.le_trans (Nat.le_of_lt HI.out.sz) hfW.size))
        have k0 := cell_of (i := 0) hqX rfl
        have y0 := cell_of (i := 0) hXb rfl
        have y1 := cell_of (i := 1) hXb rfl
        have y2 := cell_of (i := 2) hXb rfl
        have y3 := cell_of (i := 3) hXb rfl
        have kW := cell_of (i := 0) hqW rfl
        have v0 := cell_of (i := 0) hXW rfl
        have v1 := cell_of (i := 1) hXW rfl
        have v2 := cell_of (i := 2) hXW rfl
        have v3 := cell_of (i := 3) hXW rfl
        have zq := frozen_of (i := 0) hqX
        have zW := frozen_of (i := 0) hqW
        clear hV1 hbx1 hE1 hf1 hbX hXb hqX hbW hqW hXW hfW HN HHb HI hqb
        generalize hs.length = n at *
        go_upto_region 7 with (fail)
        go_region_law
          (refine slHd.step_append rfl (.tmp 31) (.tmp 36) rfl A (v := .slice hp n cap) (u := .slice (some ⟨X1.heap.size, 0, none⟩) 1 1) rfl rfl HRow.out HCl.out rfl (fun v hv => by simp [hdC, srcV] at hv; rcases hv with rfl | rfl | rfl | rfl | rfl | rfl <;> rfl) (by omega) HBW.out ?_
           intro v' w3 ho3 hg3 ha3
           obtain ⟨p9, c9, rfl, _, _⟩ := row_shape ho3
           have hq3 : w3.heap[w.heap.size]? = _ := (hg3.block _ (block_lt HqW.out.1) (fun e => by
             obtain ⟨cur, hc⟩ := row_heap HRow.out e.symm
             exact kind_ne HqW.out.1 hc (by decide) rfl)).trans HqW.out.1
           have hX3 : w3.heap[w1.heap.size]? = _ := (hg3.block _ (block_lt HqW.out.2) (fun e => by
             obtain ⟨cur, hc⟩ := row_heap HRow.out e.symm
             exact kind_ne HqW.out.2 hc (by decide) rfl)).trans HqW.out.2
           have n0 := cell_of (i := 0) hq3 rfl
           have m0 := cell_of (i := 0) hX3 rfl
           have m1 := cell_of (i := 1) hX3 rfl
           have m2 := cell_of (i := 2) hX3 rfl
           have m3 := cell_of (i := 3) hX3 rfl
           have z3 := frozen_of (i := 0) hq3
           have HQ3 := Lib.hid (HPut.out w3 p9 c9 ho3 hg3 ha3)
           clear ho3 hg3 ha3 hq3 hX3)
        all_goals
          go_wp2_with fail
          go_roundg (ls.length - (k + 1))
          case measure => omega
          case rel => exact ⟨k + 1, _, _, _, by omega, by go_num, HQ3.out⟩
    · have hk : k = ls.length := by omega
      subst hk
      have k0 := cell_of (i := 0) hqi.qm.q rfl
      have hqs := block_lt hqi.qm.q
      have hn1 : hs.length ≤ 1024 := by have := hqi.hd.few; omega
      clear hqi
      obtain ⟨wo, hwo⟩ : ∃ wo, wo = wr := ⟨_, rfl⟩
      subst hwo
      have hdiv : ((hs.length / 2 : Nat) : Int) = (hs.length : Int) / 2 := by omega
      go_wp2_with fail
      go_loopg [10] (hs.length / 2) (fun m i wx => ∃ cur, i = .int .i64 ((m : Int) - 1) ∧ m ≤ hs.length / 2 ∧ cur.Perm hs ∧ HpFrom m cur ∧ QM wx A w.heap.size hp cap cur ∧ Fr (InHp hp) wo wx)
      case atStart => exact ⟨hs, by rw [hdiv], Nat.le_refl _, .refl _, hp_half hs, HI.out.qm, Fr.refl _ _⟩
      case round =>
        obtain ⟨cur, rfl, hml, hpm, hh, hqm, hfr⟩ := hrel
        have HP := Lib.hid (And.intro hpm (And.intro hqm hfr))
        clear hpm hqm hfr
        cases gk with
        | zero =>
          go_wp2_with fail
          go_ret
          exact ⟨_, hp, cap, cur, rfl, HP.out.2.1, hh, HI.out.hd.perm HP.out.1, Nat.le_refl _, HI.out.hpl, (fun x hx => List.mem_of_getElem? (HI.out.own x (HP.out.1.mem_iff.1 hx))), HI.out.fr.trans (HP.out.2.2.mono fun k _ ⟨a, e1, e2⟩ => .inr (e2 ▸ HI.out.hpl a e1))⟩
        | succ m =>
          have HS := Lib.hid (fun V (hV : Below wr.heap.size wr V) => q_sink V A w.heap.size hp cap cur (HP.out.2.1.below hV) (lo := m) (at_ := m) (SinkI.start hh) (by omega))
          have e1 : ((m + 1 : Nat) : Int) - 1 = (m : Int) := by omega
          rw [e1]
          clear hh
          go_wp2_with (go_at_call 60
                       refine (HS.out _ (Below.refl _ _)).mono ?_
                       rintro r wz ⟨rfl, hs', hp5, hh5, hq5, hf5⟩
                       have HZ5 := Lib.hid (And.intro (hp5.trans HP.out.1) (And.intro hh5 (And.intro hq5 (HP.out.2.2.then hf5))))
                       clear hp5 hh5 hq5 hf5)
          go_roundg m
          case measure => omega
          case rel => exact ⟨hs', by first | rfl | go_num, by omega, HZ5.out.1, HZ5.out.2.1, HZ5.out.2.2.1, HZ5.out.2.2.2⟩
end Go.Proofs.Yteclnnjijfbfoaa
