/-
  Table.All told by its boxes; the sequence behind one put more.
-/
import Derived.Test.YtaomneenflkpeaaOwB
import Derived.Test.YtaomneenflkpeaaOwE
import Derived.Test.YtaomneenflkpeaaSkV
namespace Go.Proofs.Ytaomneenflkpeaa
open Go.RowKit Go.Shelf

/-- The boxes of a sequence over a table's versions: the inner one, where it begins, the change that waited, how many nodes there were. -/
structure SqB (W : World) (ib sb fb cb : Nat) (bk p : Option Nat) (c : Nat) : Prop where
  inner : W.heap[ib]? = some (.cells #[.func (.func 62) #[] #[.pointer (some ⟨sb, 0, none⟩), .pointer (some ⟨fb, 0, none⟩), .pointer (some ⟨cb, 0, none⟩)]] 98 (0, 0))
  since : W.heap[sb]? = some (.cells #[pv bk] 63 (0, 0))
  first : W.heap[fb]? = some (.cells #[pv p] 73 (0, 0))
  cnt : W.heap[cb]? = some (.cells #[.int .i64 (c : Int)] 3 (0, 0))
theorem SqB.step {A C : World} {ib sb fb cb : Nat} {bk p : Option Nat} {c : Nat} (h : SqB A ib sb fb cb bk p c) {R : Nat → Prop} (hf : Fr R A C) (hR : ¬ R ib ∧ ¬ R sb ∧ ¬ R fb ∧ ¬ R cb) : SqB C ib sb fb cb bk p c :=
  ⟨hf.keep h.inner hR.1, hf.keep h.since hR.2.1, hf.keep h.first hR.2.2.1, hf.keep h.cnt hR.2.2.2⟩
theorem SqB.kp {A C : World} {ib sb fb cb x : Nat} {bk p : Option Nat} {c : Nat} {B0 : Nat → Prop} (h : SqB A ib sb fb cb bk p c) (hk : KpE B0 x A C) (hR : ¬ B0 ib ∧ ¬ B0 sb ∧ ¬ B0 fb ∧ ¬ B0 cb) : SqB C ib sb fb cb bk p c :=
  ⟨hk.same _ _ _ _ h.inner hR.1 (by decide), hk.same _ _ _ _ h.since hR.2.1 (by decide), hk.same _ _ _ _ h.first hR.2.2.1 (by decide), hk.same _ _ _ _ h.cnt hR.2.2.2 (by decide)⟩

set_option maxRecDepth 100000 in
set_option maxHeartbeats 2000000 in
theorem tb_fromB (w : World) (S : Nat → Prop) (mb : Nat) (T : PTb) (sz : Nat) (dv hv : Value) (hh : Nat) (ns : List Nd) (bk : Option Nat) (h : SkAt w S mb T sz dv hv hh ns bk) (key : List UInt8) :
    Calls Try.prog 33 #[.pointer (some ⟨mb, 0, none⟩), .string ⟨key.toArray⟩] w fun r Y => ∃ ib sb fb cb, r = .returned (.func (.func 61) #[] #[.pointer (some ⟨ib, 0, none⟩)]) ∧ Below w.heap.size w Y ∧
      (w.heap.size ≤ ib ∧ w.heap.size ≤ sb ∧ w.heap.size ≤ fb ∧ w.heap.size ≤ cb) ∧ SqB Y ib sb fb cb bk (ndAt ns (fromE key T.L)) ns.length := by
  have HF := Lib.hid (sk_from w S mb T sz dv hv hh ns bk h (probe key))
  have hfit := fun e he => (h.wf.fit e he)
  rw [plc_probe key T.L hfit] at HF
  obtain ⟨P, hP⟩ : ∃ P, fromE key T.L = P := ⟨_, rfl⟩
  rw [hP] at HF ⊢
  unfold verV probe at HF
  clear h hfit hP
  go_enter Try.func33, Try.ntmps33
  go_wp2_with fail
  refine HF.out.mono ?_
  rintro r Y ⟨sb, fb, cb, rfl, hbY, l1, l2, l3, h1, h2, h3⟩
  have HY := Lib.hid (And.intro hbY (And.intro h1 (And.intro h2 h3)))
  have HL := Lib.hid (And.intro l1 (And.intro l2 l3))
  clear hbY l1 l2 l3 h1 h2 h3
  go_wp2_with fail
  refine (mem_entries _ _ _).mono ?_
  rintro r Y2 ⟨rfl, hY2⟩
  replace hY2 := hY2.symm
  have hb2 : Below Y.heap.size Y Y2 := by rw [← hY2]; exact (Below.refl _ _).alloc (Nat.le_refl _) _
  have hib : Y2.heap[Y.heap.size]? = some (.cells #[.func (.func 62) #[] #[.pointer (some ⟨sb, 0, none⟩), .pointer (some ⟨fb, 0, none⟩), .pointer (some ⟨cb, 0, none⟩)]] 98 (0, 0)) := by rw [← hY2]; exact heap_alloc_new Y _
  have HE : Hid (Below w.heap.size w Y2 ∧ w.heap.size ≤ Y.heap.size ∧ SqB Y2 Y.heap.size sb fb cb bk (ndAt ns P) ns.length) := Lib.hid (by
    obtain ⟨h0, h1, h2, h3⟩ := HY.out
    exact ⟨h0.trans (hb2.mono h0.size), h0.size, hib, (hb2.block _ (block_lt h1)).trans h1, (hb2.block _ (block_lt h2)).trans h2, (hb2.block _ (block_lt h3)).trans h3⟩)
  clear hb2 hib hY2
  go_wp2_with fail
  go_ret
  exact ⟨_, sb, fb, cb, rfl, HE.out.1, ⟨HE.out.2.1, HL.out⟩, HE.out.2.2⟩

set_option maxRecDepth 100000 in
set_option maxHeartbeats 2000000 in
theorem tb_allB (w : World) (S : Nat → Prop) (mb : Nat) (T : PTb) (sz : Nat) (dv hv : Value) (hh : Nat) (ns : List Nd) (bk : Option Nat) (h : SkAt w S mb T sz dv hv hh ns bk) :
    Calls Try.prog 14 #[.pointer (some ⟨mb, 0, none⟩)] w fun r Y => ∃ ib sb fb cb, r = .returned (.func (.func 61) #[] #[.pointer (some ⟨ib, 0, none⟩)]) ∧ Below w.heap.size w Y ∧
      (w.heap.size ≤ ib ∧ w.heap.size ≤ sb ∧ w.heap.size ≤ fb ∧ w.heap.size ≤ cb) ∧ SqB Y ib sb fb cb bk (ndAt ns 0) ns.length := by
  have HF := Lib.hid (tb_fromB w S mb T sz dv hv hh ns bk h [])
  have hz : fromE [] T.L = 0 := by
    unfold fromE
    cases T.L with
    | nil => rfl
    | cons a r =>
      have h1 : Op.bytesLess a.key [] = false := by cases a.key <;> rfl
      simp [h1]
  rw [hz] at HF
  clear h hz
  go_enter Try.func14, Try.ntmps14
  go_wp2_with fail
  refine HF.out.mono ?_
  rintro r Y ⟨ib, sb, fb, cb, rfl, h1, h2, h3⟩
  have HE := Lib.hid (And.intro h1 (And.intro h2 h3))
  clear h1 h2 h3
  go_wp2_with fail
  go_ret
  exact ⟨ib, sb, fb, cb, rfl, HE.out⟩

theorem SkAt.rs2 {w : World} {S B0 : Nat → Prop} {mb : Nat} {T : PTb} {sz : Nat} {dv hv : Value} {hh : Nat} {ns : List Nd} {bk : Option Nat} (h : SkAt w S mb T sz dv hv hh ns bk) (hB : ∀ k, B0 k → ¬ S k) (P : Nat) : RsAt w B0 (ns.drop P) := by
  refine ⟨fun i nd hi => ?_, fun i nd hi => ?_⟩
  · rw [List.getElem?_drop] at hi
    obtain ⟨h0, h1⟩ := h.lk.nb _ nd hi
    exact ⟨h1, fun hk => hB _ hk h0⟩
  · rw [List.getElem?_drop] at hi
    obtain ⟨h0, h1⟩ := h.lk.tb _ nd hi
    have hh1 := h.h1 nd (List.mem_of_getElem? hi)
    refine ⟨fun hk => hB _ hk h0, hh1.1, hh1.2, _, h1, ?_⟩
    have h2 := tows_at (f := nxt (ns.drop (P + i + 1))) (n := nd.h) (l := 0) (by omega)
    rw [nxt_zero (fun nd hnd => (h.h1 nd hnd).1)] at h2
    rw [List.getElem?_toArray, h2, List.getElem?_drop, show P + (i + 1) = P + i + 1 by omega]
    rfl
theorem told_all {c : Nat} {rs : List Nd} (h : ∀ nd ∈ rs, nd.num < c) : told c rs = rs.map Nd.ent := by
  unfold told
  rw [List.filter_eq_self.2 (fun nd hnd => by simpa using h nd hnd)]
/-- What is told behind one node more: what there was. -/
theorem told_ins {ns : List Nd} {P : Nat} {nd : Nd} (hP : P ≤ ns.length) (hn : nd.num = ns.length) (hl : ∀ n ∈ ns, n.num < ns.length) :
    ∃ d, told ns.length ((insN ns P nd).drop d) = ns.map Nd.ent ∧ (((insN ns P nd).drop d)[0]?).map Nd.blk = (ns[0]?).map Nd.blk := by
  by_cases h0 : P = 0
  · subst h0
    refine ⟨1, ?_, ?_⟩
    · simp only [insN, List.take_zero, List.nil_append, List.drop_zero, List.drop_succ_cons]
      exact told_all hl
    · simp [insN]
  · refine ⟨0, ?_, ?_⟩
    · rw [List.drop_zero]
      unfold told insN
      rw [List.filter_append, List.filter_cons, if_neg (by simp [hn]), ← List.filter_append, List.take_append_drop]
      exact told_all hl
    · rw [List.drop_zero, insN_at hP, if_pos (by omega)]
theorem oldN_set {ns : List Nd} {P : Nat} {nd : Nd} {x : Ent} (hP : ns[P]? = some nd) (hd : (ns.map Nd.num).Nodup) : (ns.set P (setE nd x)).map (oldN nd.num nd.ent) = ns := by
  have hPl := (List.getElem?_eq_some_iff.1 hP).1
  have hPe := (List.getElem?_eq_some_iff.1 hP).2
  refine List.ext_getElem? fun i => ?_
  rw [List.getElem?_map, List.getElem?_set]
  by_cases e : P = i
  · subst e
    rw [if_pos rfl, if_pos hPl, hP]
    simp only [Option.map_some]
    congr 1
    unfold oldN oldE setE lookM
    simp
  · rw [if_neg e]
    rcases hi : ns[i]? with _ | n
    · rfl
    · simp only [Option.map_some]
      congr 1
      have hne : nd.num ≠ n.num := fun h => by
        have hil := (List.getElem?_eq_some_iff.1 hi).1
        have hie := (List.getElem?_eq_some_iff.1 hi).2
        have h2 := (List.nodup_iff_pairwise_ne.1 hd)
        rw [List.pairwise_map] at h2
        rcases Nat.lt_or_gt_of_ne e with h3 | h3
        · exact (List.pairwise_iff_getElem.1 h2) P i hPl hil h3 (by rw [hPe, hie]; exact h)
        · exact (List.pairwise_iff_getElem.1 h2) i P hil hPl h3 (by rw [hPe, hie]; exact h.symm)
      simp [oldN, oldE, lookM, hne]
/-- The sequence that was made ahead of a put, behind it. -/
theorem own_seq {Z : World} {S B0 G : Nat → Prop} {mb sz sz' hh hh' ib sb fb cb P : Nat} {T T' : PTb} {dv dv' hv hv' : Value} {ns ns' : List Nd} {bk bk' : Option Nat} {x : Ent} {fd : Bool} {w0 : World} {S0 : Nat → Prop}
    (h0 : SkAt w0 S0 mb T sz dv hv hh ns bk) (h : SkAt Z S mb T' sz' dv' hv' hh' ns' bk') (hp : PutTo Z ns ns' bk bk' P x fd) (hP : P ≤ ns.length) (hb : SqB Z ib sb fb cb bk (ndAt ns 0) ns.length)
    (hB : ∀ k, B0 k → ¬ S k ∧ k < Z.heap.size ∧ w0.heap.size ≤ k) (hf : ¬ B0 ib ∧ ¬ B0 sb ∧ ¬ B0 fb ∧ ¬ B0 cb) (hG : ∀ k, Z.heap.size ≤ k → G k) :
    SeqF 61 #[.pointer (some ⟨ib, 0, none⟩)] T.L G B0 Z := by
  have hrs := h.rs2 (fun k hk => (hB k hk).1)
  have hT : ns.map Nd.ent = T.L := h0.ents
  have hfitL : ∀ nd ∈ ns, FitE nd.ent := fun nd hnd => h0.wf.fit nd.ent (by rw [← hT]; exact List.mem_map_of_mem hnd)
  have hfitL' : ∀ nd ∈ ns', FitE nd.ent := fun nd hnd => h.wf.fit nd.ent (by rw [← h.ents]; exact List.mem_map_of_mem hnd)
  have heg := enters_of Try.func62 (by kernel_rfl) rfl
  cases fd with
  | false =>
    obtain ⟨nd, rfl, hn, hbk⟩ := hp
    obtain ⟨d, hd1, hd2⟩ := told_ins (nd := nd) hP hn h0.numl
    have hsq : SqC Z B0 sb fb cb bk ns.length ((insN ns P nd).drop d) := by
      refine ⟨hb.since, by rw [hd2]; exact hb.first, hb.cnt, ⟨hf.2.1, hf.2.2.1, hf.2.2.2⟩, fun k hk => (hB k hk).2.1, fun b hk => ?_, fun hne hn2 => hne ?_⟩
      · rcases hbk with e | e
        · rw [e] at hk; cases hk
        · obtain ⟨s1, s2⟩ := h.blank b (e.trans hk)
          exact ⟨s2, fun hk2 => (hB b hk2).1 s1⟩
      · have e0 := h0.bnil hn2
        subst e0
        rcases hq : ((insN [] P nd).drop d) with _ | ⟨y, r⟩
        · rfl
        · rw [hq] at hd2
          simp at hd2
    have hin := from1_still Z B0 Z.heap.size sb fb cb ns.length bk _ hsq (hrs d) (fun n hn => hfitL' n (List.mem_of_mem_drop hn))
    rw [hd1, hT] at hin
    exact entries1_seqF Z B0 G ib _ _ T.L hb.inner (fun k hk => (hB k hk).2.1) hG hin heg
  | true =>
    obtain ⟨nd, b, nb, h1, rfl, rfl, hbk, hch⟩ := hp
    have hold := oldN_set (x := x) h1 h0.nums
    have hb0 : b < w0.heap.size := block_lt (h0.blank b rfl).2
    obtain ⟨s1, s2⟩ := h.blank nb hbk
    have hbl : ((ns.set P (setE nd x))[0]?).map Nd.blk = ndAt ns 0 := by
      have h9 := congrArg (fun l => l[0]?) (set_map (x := x) Nd.blk h1 rfl)
      simp only [List.getElem?_map] at h9
      exact h9
    have hsq : SqG Z B0 sb fb cb b nb nd.num nd.ent ns.length (ns.set P (setE nd x)) :=
      ⟨hb.since, by rw [hbl]; exact hb.first, hb.cnt, ⟨hf.2.1, hf.2.2.1, hf.2.2.2⟩, fun k hk => (hB k hk).2.1, ⟨hch, fun hk => by have := (hB b hk).2.2; omega, s2, fun hk => (hB nb hk).1 s1⟩⟩
    have hr := hrs 0
    rw [List.drop_zero] at hr
    have hin := from1_chg Z B0 Z.heap.size sb fb cb ns.length b nb nd.num nd.ent _ hsq hr (fun n hn => by
      have h8 : oldN nd.num nd.ent n ∈ (ns.set P (setE nd x)).map (oldN nd.num nd.ent) := List.mem_map_of_mem hn
      rw [hold] at h8
      exact hfitL _ h8)
    rw [hold, told_all h0.numl, hT] at hin
    exact entries1_seqF Z B0 G ib _ _ T.L hb.inner (fun k hk => (hB k hk).2.1) hG hin heg
end Go.Proofs.Ytaomneenflkpeaa
