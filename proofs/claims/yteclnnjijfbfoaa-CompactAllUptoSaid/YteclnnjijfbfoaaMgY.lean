/-
  The walk over merge.merged, with Merge's yield.
-/
import Derived.Test.YteclnnjijfbfoaaMgX
namespace Go.Proofs.Yteclnnjijfbfoaa
open Go.RowKit

def remH (hs : List Hd) : Nat := (hs.flatMap fun h => h.e :: h.rest).length
theorem remH_perm {a b : List Hd} (h : a.Perm b) : remH a = remH b := (h.flatMap_right _).length_eq
theorem remH_cons (h : Hd) (t : List Hd) : remH (h :: t) = h.rest.length + 1 + remH t := by
  simp [remH]
  omega
theorem remH_le {M : Nat} : ∀ hs : List Hd, (∀ h ∈ hs, (h.e :: h.rest).length ≤ M) → remH hs ≤ hs.length * M
  | [], _ => by simp [remH]
  | h :: t, hM => by
    have ih := remH_le t fun x hx => hM x (by simp [hx])
    have h1 := hM h (by simp)
    rw [remH_cons, List.length_cons, Nat.succ_mul]
    simp only [List.length_cons] at h1
    omega
theorem QM.kp {w w' : World} {A B qb b0 : Nat} {hp : Option Addr} {cap : Nat} {hs : List Hd} (h : QM w A qb hp cap hs) (k : KpE (fun k => k = b0) B w w') (hA : A ≤ b0) (hAB : A ≤ B) {cs : Array Value} (hb0 : w.heap[b0]? = some (.cells cs 26 (0, 0))) (hne : ∀ x ∈ hs, x.bl ≠ b0) : QM w' A qb hp cap hs := by
  refine ⟨k.same _ _ _ _ h.q (kind_ne h.q hb0 (by decide)) (by decide), h.qlo, row_keep h.row fun j hj => ?_, fun x hx => ?_, fun x hx => (h.val x hx).step k.fr fun j _ hj e => by omega, h.bls, h.few⟩
  · obtain ⟨cur, hc⟩ := row_heap h.row hj
    exact (k.same _ _ _ _ hc (kind_ne hc hb0 (by decide)) (by decide)).trans hc.symm
  · obtain ⟨x1, p, c, x2, x3⟩ := h.box x hx
    exact ⟨x1, p, c, k.same _ _ _ _ x2 (hne x hx) (by decide), x3.step k.fr fun j _ hj e => by omega⟩
theorem OutM.fr {w w' : World} {b0 B : Nat} {ts : List TEnt} (h : OutM b0 B ts w) {S : Nat → Prop} (hf : Fr S w w') (hS : ∀ k, S k → k ≠ b0 ∧ ∃ cs t z, w.heap[k]? = some (.cells cs t z) ∧ t ≠ 33 ∧ t ≠ 5) : OutM b0 B ts w' := by
  obtain ⟨v, h1, h2, h3, _, h5⟩ := h
  refine ⟨v, (hf.block _ (block_lt h1) (fun e => (hS _ e).1 rfl)).trans h1, row_keep h2 fun j hj => ?_, fun x hx => (h3 x hx).keep (fun j hj => ?_) (fun _ _ hs => hs), Below.refl _ _, Nat.le_trans h5 hf.size⟩
  · obtain ⟨cur, hc⟩ := row_heap h2 hj
    exact hf.block _ (block_lt hc) (fun e => by
      obtain ⟨_, cs, t, z, h6, h7, _⟩ := hS _ e
      exact kind_ne hc h6 (fun e => h7 e.symm) rfl)
  · obtain ⟨cur, hc⟩ := (h3 x hx).1.heap hj
    exact hf.block _ (block_lt hc) (fun e => by
      obtain ⟨_, cs, t, z, h6, _, h7⟩ := hS _ e
      exact kind_ne hc h6 (fun e => h7 e.symm) rfl)
/-- The blocks that a pass may change are none of the collection's. -/
theorem QM.kinds {w : World} {A qb : Nat} {hp : Option Addr} {cap : Nat} {hs : List Hd} (h : QM w A qb hp cap hs) {a : Hd} (ha : a ∈ hs) {b0 : Nat} {cs0 : Array Value} (hb0 : w.heap[b0]? = some (.cells cs0 26 (0, 0))) (hne : a.bl ≠ b0) :
    ∀ k, (InHp hp k ∨ k = qb ∨ k = a.bl) → (k ≠ b0 ∧ ∃ cs t z, w.heap[k]? = some (.cells cs t z) ∧ t ≠ 33 ∧ t ≠ 5) ∧ A ≤ k := by
  rintro k (⟨a', rfl, rfl⟩ | rfl | rfl)
  · obtain ⟨cur, hc⟩ := row_heap h.row (k := a'.block) rfl
    exact ⟨⟨kind_ne hc hb0 (by decide), _, _, _, hc, by decide, by decide⟩, (World.ownsRow.lt h.row _ rfl).1⟩
  · exact ⟨⟨kind_ne h.q hb0 (by decide), _, _, _, h.q, by decide, by decide⟩, h.qlo⟩
  · obtain ⟨x1, p, c, x2, _⟩ := h.box a ha
    exact ⟨⟨hne, _, _, _, x2, by decide, by decide⟩, x1⟩
theorem OutM.box {b0 B : Nat} {ts : List TEnt} {w : World} (h : OutM b0 B ts w) : ∃ cs, w.heap[b0]? = some (.cells cs 26 (0, 0)) := by
  obtain ⟨v, h1, _⟩ := h
  exact ⟨_, h1⟩
/-- What stands between two turns. -/
structure TurnM (w : World) (A qb : Nat) (hp : Option Addr) (cap : Nat) (bls : List Nat) (ls : List (List Ent)) (b0 B : Nat) (ts : List TEnt) (hs : List Hd) (R : Nat) (wr : World) : Prop where
  st : MSt ls hs (ts.map Prod.fst)
  hh : HpFrom 0 hs
  qm : QM wr A qb hp cap hs
  out : OutM b0 B ts wr
  bl : ∀ x ∈ hs, x.bl ∈ bls
  fr : Fr (fun k => A ≤ k) w wr
  few : ts.length + remH hs ≤ R
theorem TurnM.below {w : World} {A qb : Nat} {hp : Option Addr} {cap : Nat} {bls : List Nat} {ls : List (List Ent)} {b0 B : Nat} {ts : List TEnt} {hs : List Hd} {R : Nat} {wr wx : World} (h : TurnM w A qb hp cap bls ls b0 B ts hs R wr) (hb : Below wr.heap.size wr wx) : TurnM w A qb hp cap bls ls b0 B ts hs R wx :=
  ⟨h.st, h.hh, h.qm.below hb, h.out.fr (Fr.of_new hb (fun _ => False)) (fun _ e => e.elim), h.bl, h.fr.then (Fr.of_new hb _), h.few⟩
/-- The least head has been told. -/
theorem TurnM.tell {w : World} {A qb : Nat} {hp : Option Addr} {cap : Nat} {bls : List Nat} {ls : List (List Ent)} {b0 B : Nat} {ts : List TEnt} {a : Hd} {t : List Hd} {R : Nat} {wr wx : World} (hls : ∀ l ∈ ls, SrtE l) (h : TurnM w A qb hp cap bls ls b0 B ts (a :: t) R wr) (ht : Top (a :: t) (ts.map Prod.fst)) (hA : A ≤ b0) (hAB : A ≤ B) (hb0 : b0 ∉ bls) {u : _} (ho : OutM b0 B (ts ++ [(a.e, u)]) wx) (hk : KpE (fun k => k = b0) B wr wx) :
    TurnM w A qb hp cap bls ls b0 B (ts ++ [(a.e, u)]) (a :: t) (R + 1) wx := by
  obtain ⟨cs, hcs⟩ := h.out.box
  refine ⟨?_, h.hh, h.qm.kp hk hA hAB hcs (fun x hx e => hb0 (e ▸ h.bl x hx)), ho, h.bl, h.fr.then (hk.fr.mono fun k _ e => e.elim (fun e => e ▸ hA) (fun e => Nat.le_trans hAB e)), by have := h.few; simp; omega⟩
  rw [List.map_append]
  exact h.st.tell hls ht (by simp) (hp_min h.hh rfl)
/-- The first head has been passed by. -/
theorem TurnM.pass {w : World} {A qb : Nat} {hp : Option Addr} {cap : Nat} {bls : List Nat} {ls : List (List Ent)} {b0 B : Nat} {ts : List TEnt} {a : Hd} {t hs' : List Hd} {R : Nat} {wr wx : World} (hls : ∀ l ∈ ls, SrtE l) (h : TurnM w A qb hp cap bls ls b0 B ts (a :: t) (R + 1) wr) (hb0 : b0 ∉ bls) {f : Ent} (hf : f ∈ ts.map Prod.fst) (hfa : atE a.e f = true)
    (hh : HpFrom 0 hs') (hq : QM wx A qb hp cap hs') (hfr : Fr (fun k => InHp hp k ∨ k = qb ∨ k = a.bl) wr wx)
    (hw : (∃ b : Hd, a.rest = b.e :: b.rest ∧ b.num = a.num ∧ b.bl = a.bl ∧ hs'.Perm (b :: t)) ∨ (a.rest = [] ∧ hs'.Perm t)) : TurnM w A qb hp cap bls ls b0 B ts hs' R wx ∧ remH hs' < remH (a :: t) := by
  obtain ⟨cs, hcs⟩ := h.out.box
  have hk := h.qm.kinds (a := a) (by simp) hcs (fun e => hb0 (e ▸ h.bl a (by simp)))
  have ho := h.out.fr hfr fun k e => (hk k e).1
  have hfr2 := h.fr.then (hfr.mono fun k _ e => (hk k e).2)
  have hfew := h.few
  rcases hw with ⟨b, h1, h2, h3, h4⟩ | ⟨h1, h4⟩
  · have e := remH_perm h4
    have hr : remH hs' + 1 = remH (a :: t) := by rw [e, remH_cons, remH_cons, h1, List.length_cons]; omega
    exact ⟨⟨(h.st.more hls hf hfa h2 h1).perm h4, hh, hq, ho, fun x hx => (List.mem_cons.1 (h4.mem_iff.1 hx)).elim (fun e => by rw [e, h3]; exact h.bl a (by simp)) (fun e => h.bl x (by simp [e])), hfr2, by omega⟩, by omega⟩
  · have e := remH_perm h4
    have hr : remH hs' + 1 = remH (a :: t) := by rw [e, remH_cons, h1, List.length_nil]; omega
    exact ⟨⟨(h.st.less hf hfa h1).perm h4, hh, hq, ho, fun x hx => h.bl x (by simp [h4.mem_iff.1 hx]), hfr2, by omega⟩, by omega⟩

set_option maxRecDepth 100000 in
set_option maxHeartbeats 8000000 in
theorem q_merged (w : World) (A : Nat) (sp : Option Addr) (sc : Nat) (bls : List Nat) (ls : List (List Ent)) (M b0 : Nat) (h : SrcM w A sp sc bls ls 0) (hA : A ≤ w.heap.size) (hfew : ls.length ≤ 1024) (hsrt : ∀ l ∈ ls, SrtE l) (hfit : ∀ l ∈ ls, ∀ x ∈ l, FitE x)
    (hM : ∀ l ∈ ls, l.length ≤ M) (hMM : ls.length * M ≤ 1048576) (hb0 : w.heap[b0]? = some (.cells #[.slice none 0 0] 26 (0, 0))) (hb0A : A ≤ b0) (hb0n : b0 ∉ bls) :
    Calls Try.prog 31 #[cmpV, .slice sp ls.length sc, .func (.func 33) #[] #[.pointer (some ⟨b0, 0, none⟩)]] w fun r w' => r = .returned (.tuple #[]) ∧ ∃ ts : List TEnt, MgE ls (ts.map Prod.fst) ∧ OutM b0 w.heap.size ts w' ∧ Below A w w' ∧ ts.length ≤ 1048576 := by
  have HQ := Lib.hid (q_of w A sp sc bls ls h hA hfew)
  have HO : Hid (OutM b0 w.heap.size [] w) := Lib.hid ⟨.slice none 0 0, hb0, World.ownsRow_nil _ _ _ _, (fun x hx => by cases hx), Below.refl _ _, Nat.le_refl _⟩
  have HS := Lib.hid h
  have HLs := Lib.hid (And.intro hsrt (And.intro hfit (And.intro hM (And.intro hMM (And.intro hb0A hb0n)))))
  have HB0 := Lib.hid hb0
  clear h hsrt hfit hM hMM hb0 hb0A hb0n
  go_enter Try.func31, Try.ntmps31
  unfold cmpV
  go_wp2_with fail
  refine HQ.out.mono ?_
  rintro r w1 ⟨qb, hp, cap, hs0, rfl, hqm, hh, hhd, hqb, hhp, hbl, hfr⟩
  have hR0 : remH hs0 ≤ 1048576 := Nat.le_trans (remH_le (M := M) hs0 (fun x hx => HLs.out.2.2.1 _ (List.mem_of_getElem? (hhd.hd x hx).1))) (Nat.le_trans (Nat.mul_le_mul_right M hhd.few) HLs.out.2.2.2.1)
  have HT : Hid (TurnM w A qb hp cap bls ls b0 w.heap.size [] hs0 1048576 w1 ∧ Top hs0 []) := Lib.hid ⟨⟨hhd.start.1, hh, hqm, HO.out.fr hfr (fun k hk => by
      refine ⟨fun e => HLs.out.2.2.2.2.2 (e ▸ hk), ?_⟩
      obtain ⟨j, hj⟩ := List.getElem?_of_mem hk
      obtain ⟨l, hl⟩ : ∃ l, ls[j]? = some l := ⟨_, List.getElem?_eq_getElem (by rw [← HS.out.len]; exact (List.getElem?_eq_some_iff.1 hj).1)⟩
      obtain ⟨_, p, c, h1, _⟩ := HS.out.box j k l (Nat.zero_le _) hj hl
      exact ⟨_, _, _, h1, by decide, by decide⟩), hbl, hfr.mono (fun k _ hk => by
      obtain ⟨j, hj⟩ := List.getElem?_of_mem hk
      obtain ⟨l, hl⟩ : ∃ l, ls[j]? = some l := ⟨_, List.getElem?_eq_getElem (by rw [← HS.out.len]; exact (List.getElem?_eq_some_iff.1 hj).1)⟩
      exact (HS.out.box j k l (Nat.zero_le _) hj hl).1), by simpa using hR0⟩, hhd.start.2⟩
  clear hqm hh hhd hhp hbl hfr hR0 HQ HO
  go_wp2_with fail
  go_loopg [] (remH hs0) (fun g wr => ∃ (ts : List TEnt) (hs : List Hd), g = remH hs ∧ TurnM w A qb hp cap bls ls b0 w.heap.size ts hs 1048576 wr ∧ Top hs (ts.map Prod.fst))
  case atStart => exact ⟨[], hs0, rfl, HT.out⟩
  case round =>
    obtain ⟨ts, hs, rfl, hT, hTop⟩ := hrel
    have k0 := cell_of (i := 0) hT.qm.q rfl
    have hqs := block_lt hT.qm.q
    have hn1 := hT.qm.few
    rcases hs with _ | ⟨a, t⟩
    · have HE := Lib.hid (And.intro hT hTop)
      clear hT hTop
      go_wp2_with fail
      go_end0
      exact ⟨rfl, ts, HE.out.1.st.done HLs.out.1, HE.out.1.out, HE.out.1.fr.below hA (fun k hk e => by omega), Nat.le_trans (Nat.le_add_right _ _) HE.out.1.few⟩
    · obtain ⟨g, rfl, hgA, hgl, a0, a1, a2, a3, _, _⟩ := hT.qm.at_ (i := 0) rfl
      simp only [Nat.zero_mul, Nat.zero_add] at a0 a1 a2 a3
      obtain ⟨la, hla, hsa⟩ := hT.st.hd a (by simp)
      have hfa := HLs.out.2.1 la (List.mem_of_getElem? hla) a.e (hsa.subset (by simp))
      obtain ⟨csb, hcsb⟩ := hT.out.box
      have hbB : b0 < w.heap.size := block_lt HB0.out
      have hts : ts.length ≤ 1048576 := by have := hT.few; omega
      obtain ⟨wo, hwo⟩ : ∃ wo, wo = wr := ⟨_, rfl⟩
      subst hwo
      obtain ⟨V, hV⟩ : ∃ V, wo.alloc (.cells #[.string ⟨a.e.key.toArray⟩, .int .u64 (a.e.seq : Int), .bool a.e.gone, .slice a.q a.e.val.length a.c] 33) = V := ⟨_, rfl⟩
      have hbV : Below wo.heap.size wo V := by rw [← hV]; exact (Below.refl _ _).alloc (Nat.le_refl _) _
      have hfb : V.heap[wo.heap.size]? = some (.cells #[.string ⟨a.e.key.toArray⟩, .int .u64 (a.e.seq : Int), .bool a.e.gone, .slice a.q a.e.val.length a.c] 33 (0, 0)) := by rw [← hV]; exact heap_alloc_new wo _
      have hTV := hT.below hbV
      have HY := Lib.hid (m_yield V b0 w.heap.size ts hTV.out hbB (fun k => k < A) a.e a.q a.c hfa (hTV.qm.val a (by simp)) hts)
      have HTV := Lib.hid (And.intro hTV (And.intro hTop (And.intro hfb hT.out)))
      have y0 := cell_of (i := 0) hfb rfl
      have y1 := cell_of (i := 1) hfb rfl
      have y2 := cell_of (i := 2) hfb rfl
      have y3 := cell_of (i := 3) hfb rfl
      clear hT hTop hla hsa hfa hcsb hbB hts hbV hfb hTV
      go_wp2_with fail
      refine HY.out.mono ?_
      rintro r w4 ⟨rfl, ⟨u, ho⟩, hkp, hkeep⟩
      have hT4 := HTV.out.1.tell HLs.out.1 HTV.out.2.1 HLs.out.2.2.2.2.1 hA HLs.out.2.2.2.2.2 ho hkp
      have hbx4 : w4.heap[wo.heap.size]? = some (.cells #[.string ⟨a.e.key.toArray⟩, .int .u64 (a.e.seq : Int), .bool a.e.gone, .slice a.q a.e.val.length a.c] 33 (0, 0)) := by
        have hlt := block_lt HTV.out.2.2.1
        obtain ⟨cs0, hcs0⟩ := HTV.out.2.2.2.box
        refine (hkeep wo.heap.size hlt (fun e => by have := block_lt hcs0; omega) (fun v hv e => ?_)).trans HTV.out.2.2.1
        obtain ⟨v', h1, h2, _⟩ := HTV.out.2.2.2
        have h4 : v = v' := by
          unfold Boxed at hv h1
          rw [← hV, alloc_old (block_lt h1) _, h1] at hv
          injection hv with hv
          injection hv with hv _ _
          injection hv with hv
          injection hv with hv _
          exact hv.symm
        subst h4
        have := row_lt h2 _ e
        omega
      have HT4 := Lib.hid (And.intro hT4 hbx4)
      clear ho hkp hkeep hT4 hbx4 HTV HY hV y0 y1 y2 y3 a0 a1 a2 a3 k0 hqs hn1
      go_wp2_with fail
      go_loopg [] (remH (a :: t)) (fun gg wx => ∃ cur, gg = remH cur ∧ remH cur ≤ remH (a :: t) ∧ TurnM w A qb (some ⟨g, 0, none⟩) cap bls ls b0 w.heap.size (ts ++ [(a.e, u)]) cur (1048576 + 1) wx ∧ wx.heap[wo.heap.size]? = some (.cells #[.string ⟨a.e.key.toArray⟩, .int .u64 (a.e.seq : Int), .bool a.e.gone, .slice a.q a.e.val.length a.c] 33 (0, 0)) ∧
          ((remH cur < remH (a :: t) ∧ (ts ++ [(a.e, u)]).length + remH cur ≤ 1048576) ∨ ∃ h' t', cur = h' :: t' ∧ atE h'.e a.e = true))
      case atStart => exact ⟨a :: t, rfl, Nat.le_refl _, HT4.out.1, HT4.out.2, .inr ⟨a, t, rfl, atE_refl _⟩⟩
      case round =>
        obtain ⟨cur, rfl, hle, hT, hbx, hway⟩ := hrel
        have k0 := cell_of (i := 0) hT.qm.q rfl
        have hqs := block_lt hT.qm.q
        have hn1 := hT.qm.few
        obtain ⟨hr1, hr2⟩ := hT.qm.room
        rcases cur with _ | ⟨h, t'⟩
        · have hlt : remH [] < remH (a :: t) ∧ (ts ++ [(a.e, u)]).length + remH [] ≤ 1048576 := hway.elim id (fun ⟨_, _, e, _⟩ => by cases e)
          have HE := Lib.hid (And.intro (fun nq => hT.below (below_drewN (Below.refl _ wr) nq)) hlt)
          clear hT hbx hway hlt
          have k0 : wr.cell? ⟨qb, 0, none⟩ = some (.slice (some ⟨g, 0, none⟩) 0 cap) := k0
          go_wp2_with fail
          go_quiet (fail)
          rename_i nq
          go_wp2_with fail
          go_roundg (remH [])
          case measure => exact HE.out.2.1
          case rel => exact ⟨ts ++ [(a.e, u)], [], rfl, ⟨(HE.out.1 nq).st, (HE.out.1 nq).hh, (HE.out.1 nq).qm, (HE.out.1 nq).out, (HE.out.1 nq).bl, (HE.out.1 nq).fr, HE.out.2.2⟩, Top.nil _⟩
        · have HTt := Lib.hid (And.intro hT (And.intro hbx hway))
          obtain ⟨g2, e, hgA2, hgl2, a0, a1, a2, a3, _, _⟩ := hT.qm.at_ (i := 0) rfl
          injection e with e
          injection e with e _ _
          subst e
          simp only [Nat.zero_mul, Nat.zero_add, List.length_cons] at a0 a1 a2 a3 k0 hn1 hr1
          have HE : Hid (∀ X, Below wr.heap.size wr X → (X.cell? ⟨qb, 0, none⟩ = some (.slice (some ⟨g, 0, none⟩) (t'.length + 1) cap) ∧ X.cell? ⟨g, 0, none⟩ = some (.string ⟨h.e.key.toArray⟩) ∧ X.cell? ⟨g, 1, none⟩ = some (.int .u64 (h.e.seq : Int)) ∧ X.cell? ⟨g, 2, none⟩ = some (.bool h.e.gone) ∧ X.cell? ⟨g, 3, none⟩ = some (.slice h.q h.e.val.length h.c)) ∧
              (X.cell? ⟨wo.heap.size, 0, none⟩ = some (.string ⟨a.e.key.toArray⟩) ∧ X.cell? ⟨wo.heap.size, 1, none⟩ = some (.int .u64 (a.e.seq : Int)) ∧ X.cell? ⟨wo.heap.size, 2, none⟩ = some (.bool a.e.gone) ∧ X.cell? ⟨wo.heap.size, 3, none⟩ = some (.slice a.q a.e.val.length a.c))) := Lib.hid (fun X hX => by
            have hb := (hX.block _ (block_lt hbx)).trans hbx
            exact ⟨⟨(hX.cell (p := ⟨qb, 0, none⟩) hqs).trans k0, (hX.cell (p := ⟨g, 0, none⟩) hgl2).trans a0, (hX.cell (p := ⟨g, 1, none⟩) hgl2).trans a1, (hX.cell (p := ⟨g, 2, none⟩) hgl2).trans a2, (hX.cell (p := ⟨g, 3, none⟩) hgl2).trans a3⟩,
              ⟨cell_of (i := 0) hb rfl, cell_of (i := 1) hb rfl, cell_of (i := 2) hb rfl, cell_of (i := 3) hb rfl⟩⟩)
          have HC : Hid (∀ X, Calls Try.prog 32 #[.agg #[.string ⟨h.e.key.toArray⟩, .int .u64 (h.e.seq : Int), .bool h.e.gone, .slice h.q h.e.val.length h.c], .agg #[.string ⟨a.e.key.toArray⟩, .int .u64 (a.e.seq : Int), .bool a.e.gone, .slice a.q a.e.val.length a.c]] X
              fun e w' => e = .returned (.int .i64 (cmpE h.e a.e)) ∧ Below X.heap.size X w') := Lib.hid (fun X => mg_compare X h.e a.e h.q a.q _ _ h.c a.c)
          have HBn : Hid (Below wr.heap.size wr wr.drew) := Lib.hid (below_drew (Below.refl _ _))
          rcases hat : atE h.e a.e with _ | _
          · have hc0 : ¬ cmpE h.e a.e = 0 := fun e => by rw [cmpE_zero.1 e] at hat; cases hat
            have HTp := Lib.hid hat
            clear hT hbx hway hat a0 a1 a2 a3 k0 hgl2 hqs
            generalize cmpE h.e a.e = c at *
            go_upto_region 4 with (fail)
            go_region_held3 (fun X => (X.cell? ⟨qb, 0, none⟩ = some (.slice (some ⟨g, 0, none⟩) (t'.length + 1) cap) ∧ X.cell? ⟨g, 0, none⟩ = some (.string ⟨h.e.key.toArray⟩) ∧ X.cell? ⟨g, 1, none⟩ = some (.int .u64 (h.e.seq : Int)) ∧ X.cell? ⟨g, 2, none⟩ = some (.bool h.e.gone) ∧ X.cell? ⟨g, 3, none⟩ = some (.slice h.q h.e.val.length h.c)) ∧
                (X.cell? ⟨wo.heap.size, 0, none⟩ = some (.string ⟨a.e.key.toArray⟩) ∧ X.cell? ⟨wo.heap.size, 1, none⟩ = some (.int .u64 (a.e.seq : Int)) ∧ X.cell? ⟨wo.heap.size, 2, none⟩ = some (.bool a.e.gone) ∧ X.cell? ⟨wo.heap.size, 3, none⟩ = some (.slice a.q a.e.val.length a.c)))
              (exact HE.out _ HBn.out)
              (first
                | (go_at_call 32
                   refine (HC.out _).mono ?_
                   rintro r wz ⟨rfl, hbz⟩
                   have HBn' := Lib.hid (HBn.out.trans (hbz.mono HBn.out.size))
                   clear hbz HBn
                   have HBn := HBn'
                   clear HBn'))
            all_goals
              go_wp2_with fail
              go_roundg (remH (h :: t'))
              case measure => exact HTt.out.2.2.elim And.left (fun ⟨_, _, e, e2⟩ => by injection e with e _; subst e; rw [HTp.out] at e2; cases e2)
              case rel => exact ⟨ts ++ [(a.e, u)], h :: t', rfl, TurnM.below ⟨HTt.out.1.st, HTt.out.1.hh, HTt.out.1.qm, HTt.out.1.out, HTt.out.1.bl, HTt.out.1.fr, HTt.out.2.2.elim And.right (fun ⟨_, _, e, e2⟩ => by injection e with e _; subst e; rw [HTp.out] at e2; cases e2)⟩ HBn.out,
                (by rw [List.map_append]; exact MSt.top (by have := HTt.out.1.st; rw [List.map_append] at this; exact this) (a := h) (by simp) (hp_min HTt.out.1.hh rfl) HTp.out)⟩
          · have hc0 : cmpE h.e a.e = 0 := cmpE_zero.2 hat
            rw [hc0] at HC
            have HTp := Lib.hid (And.intro hat hle)
            have HPs := Lib.hid (fun X (hX : Below wr.heap.size wr X) => q_pass X A qb (some ⟨g, 0, none⟩) cap h t' (HTt.out.1.qm.below hX) HTt.out.1.hh)
            clear hT hbx hway hat a0 a1 a2 a3 k0 hgl2 hqs hc0 hle
            go_upto_region 4 with (fail)
            go_region_held3 (fun X => (X.cell? ⟨qb, 0, none⟩ = some (.slice (some ⟨g, 0, none⟩) (t'.length + 1) cap) ∧ X.cell? ⟨g, 0, none⟩ = some (.string ⟨h.e.key.toArray⟩) ∧ X.cell? ⟨g, 1, none⟩ = some (.int .u64 (h.e.seq : Int)) ∧ X.cell? ⟨g, 2, none⟩ = some (.bool h.e.gone) ∧ X.cell? ⟨g, 3, none⟩ = some (.slice h.q h.e.val.length h.c)) ∧
                (X.cell? ⟨wo.heap.size, 0, none⟩ = some (.string ⟨a.e.key.toArray⟩) ∧ X.cell? ⟨wo.heap.size, 1, none⟩ = some (.int .u64 (a.e.seq : Int)) ∧ X.cell? ⟨wo.heap.size, 2, none⟩ = some (.bool a.e.gone) ∧ X.cell? ⟨wo.heap.size, 3, none⟩ = some (.slice a.q a.e.val.length a.c)))
              (exact HE.out _ HBn.out)
              (first
                | (go_at_call 32
                   refine (HC.out _).mono ?_
                   rintro r wz ⟨rfl, hbz⟩
                   have HBn' := Lib.hid (HBn.out.trans (hbz.mono HBn.out.size))
                   clear hbz HBn
                   have HBn := HBn'
                   clear HBn'))
            all_goals
              go_wp2_with fail
              refine (HPs.out _ HBn.out).mono ?_
              rintro r w6 ⟨rfl, hs', hh', hq', hfr', hw'⟩
              have hTn := HTt.out.1.below HBn.out
              obtain ⟨csn, hcsn⟩ := hTn.out.box
              have hkk := hTn.qm.kinds (a := h) (by simp) hcsn (fun e => HLs.out.2.2.2.2.2 (e ▸ hTn.bl h (by simp)))
              have hbn := (HBn.out.block _ (block_lt HTt.out.2.1)).trans HTt.out.2.1
              obtain ⟨hT9, hlt9⟩ := hTn.pass HLs.out.1 HLs.out.2.2.2.2.2 (f := a.e) (by simp) HTp.out.1 hh' hq' hfr' hw'
              have HF := Lib.hid (And.intro hT9 (And.intro hlt9 ((hfr'.block _ (block_lt hbn) (fun e => by
                obtain ⟨⟨_, cs, tt, zz, h1, h2, _⟩, _⟩ := hkk _ e
                exact kind_ne hbn h1 (fun e => h2 e.symm) rfl)).trans hbn)))
              clear hTn hcsn hkk hbn hT9 hlt9 hh' hq' hfr' hw'
              go_wp2_with fail
              go_roundg (remH hs')
              case measure => exact HF.out.2.1
              case rel => exact ⟨hs', rfl, Nat.le_trans (Nat.le_of_lt HF.out.2.1) HTp.out.2, ⟨HF.out.1.st, HF.out.1.hh, HF.out.1.qm, HF.out.1.out, HF.out.1.bl, HF.out.1.fr, Nat.le_succ_of_le HF.out.1.few⟩, HF.out.2.2, .inl ⟨Nat.lt_of_lt_of_le HF.out.2.1 HTp.out.2, HF.out.1.few⟩⟩
end Go.Proofs.Yteclnnjijfbfoaa
