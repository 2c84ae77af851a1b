/-
  The walks over a table's Len, Size, Height, Get, New.
-/
import Derived.Test.YtaomneenflkpeaaSkO
namespace Go.Proofs.Ytaomneenflkpeaa
open Go.RowKit

set_option maxRecDepth 100000 in
set_option maxHeartbeats 1000000 in
theorem tb_len (w : World) (S : Nat → Prop) (mb : Nat) (T : PTb) (h : Sk w S mb T) : Calls Try.prog 22 #[.pointer (some ⟨mb, 0, none⟩)] w fun r w' => r = .returned (.int .i64 (T.L.length : Int)) ∧ Below w.heap.size w w' := by
  obtain ⟨dv, hv, hh, ns, bk, h, _, _⟩ := h
  have c8 := h.c8
  rw [h.len]
  clear h
  go_enter Try.func22, Try.ntmps22
  go_wp2_with fail
  go_ret
  exact ⟨rfl, Below.refl _ _⟩
set_option maxRecDepth 100000 in
set_option maxHeartbeats 1000000 in
theorem tb_size (w : World) (S : Nat → Prop) (mb : Nat) (T : PTb) (h : Sk w S mb T) : Calls Try.prog 23 #[.pointer (some ⟨mb, 0, none⟩)] w fun r w' => r = .returned (.int .i64 (sizeE T.L : Int)) ∧ Below w.heap.size w w' := by
  obtain ⟨dv, hv, hh, ns, bk, h, _, _⟩ := h
  have c1 := h.c1
  generalize sizeE T.L = sz at *
  clear h
  go_enter Try.func23, Try.ntmps23
  go_wp2_with fail
  go_ret
  exact ⟨rfl, Below.refl _ _⟩
/-- The newest version of a key up to a number stands at the place of that key and number, if at all. -/
theorem newest_plc {L : List Ent} (hs : SrtE L) (s : List UInt8) (up : Nat) (g : Bool) (v : List UInt8) : newestE L s up = match L[plcE ⟨s, up, g, v⟩ L]? with | some f => if f.key = s then some f else none | none => none := by
  obtain ⟨P, hP⟩ : ∃ P, plcE ⟨s, up, g, v⟩ L = P := ⟨_, rfl⟩
  rw [hP]
  have hlo : ∀ j f, j < P → L[j]? = some f → (f.key == s && decide (f.seq ≤ up)) = false := fun j f hj hf => by
    have h1 := lessE_iff.1 (plcE_lo ⟨s, up, g, v⟩ L (by rw [hP]; exact hj) hf)
    rcases h1 with h1 | ⟨_, h1⟩
    · have := lessB_ne h1
      simp [this]
    · have : ¬ f.seq ≤ up := by
        have h2 : up < f.seq := h1
        omega
      simp [this]
  cases hf : L[P]? with
  | none =>
    refine newest_none.2 fun e he => ?_
    obtain ⟨j, hj, rfl⟩ := List.getElem_of_mem he
    have := List.getElem?_eq_none_iff.1 hf
    exact hlo j _ (by omega) (List.getElem?_eq_getElem hj)
  | some f =>
    have h1 := plcE_hi ⟨s, up, g, v⟩ L (f := f) (by rw [hP]; exact hf)
    have h2 : ¬ (Op.bytesLess f.key s = true ∨ (f.key = s ∧ up < f.seq)) := fun h => by rw [lessE_iff.2 h] at h1; cases h1
    simp only
    by_cases hk : f.key = s
    · rw [if_pos hk]
      refine newest_is hf hlo ?_
      have : f.seq ≤ up := by
        rcases Nat.lt_or_ge up f.seq with h | h
        · exact absurd (.inr ⟨hk, h⟩) h2
        · exact h
      simp [hk, this]
    · rw [if_neg hk]
      have hgt : Op.bytesLess s f.key = true := by
        rcases lessB_total hk with h | h
        · exact absurd (.inl h) h2
        · exact h
      refine newest_none.2 fun e he => ?_
      obtain ⟨j, hj, rfl⟩ := List.getElem_of_mem he
      rcases Nat.lt_trichotomy j P with h | h | h
      · exact hlo j _ h (List.getElem?_eq_getElem hj)
      · subst h
        rw [List.getElem?_eq_getElem hj] at hf
        rw [Option.some.inj hf]
        simp [hk]
      · have hPl : P < L.length := by omega
        have h3 := srt_at hs hj h
        have e1 : L[P] = f := by
          rw [List.getElem?_eq_getElem hPl] at hf
          exact Option.some.inj hf
        rw [e1] at h3
        have : L[j].key ≠ s := fun e => by
          rcases lessE_iff.1 h3 with h4 | ⟨h4, _⟩
          · have := lessB_trans hgt h4
            rw [e, lessB_irrefl] at this
            cases this
          · exact hk (h4.trans e)
        simp [this]

set_option maxRecDepth 100000 in
set_option maxHeartbeats 4000000 in
theorem tb_get (w : World) (S : Nat → Prop) (mb : Nat) (T : PTb) (h : Sk w S mb T) (s : List UInt8) (up : Nat) :
    Calls Try.prog 13 #[.pointer (some ⟨mb, 0, none⟩), .string ⟨s.toArray⟩, .int .u64 (up : Int)] w fun r w' => ∃ q c, r = .returned (.tuple #[.agg #[.string ⟨(optE (newestE T.L s up)).key.toArray⟩, .int .u64 ((optE (newestE T.L s up)).seq : Int), .bool (optE (newestE T.L s up)).gone, .slice q (optE (newestE T.L s up)).val.length c], .bool (newestE T.L s up).isSome]) ∧
      OwnS (fun k => w.heap.size ≤ k) w' (.slice q (optE (newestE T.L s up)).val.length c) (optE (newestE T.L s up)).val ∧ Below w.heap.size w w' := by
  obtain ⟨dv, hv, hh, ns, bk, h, hi, _⟩ := h
  obtain ⟨X, hX⟩ : ∃ X, w.alloc (.cells #[.string ⟨#[]⟩, .int .u64 0, .bool false, .slice none 0 0] 30) = X := ⟨_, rfl⟩
  have hb : Below w.heap.size w X := by rw [← hX]; exact (Below.refl _ _).alloc (Nat.le_refl _) _
  have hXb : X.heap[w.heap.size]? = some (.cells #[.string ⟨#[]⟩, .int .u64 0, .bool false, .slice none 0 0] 30 (0, 0)) := by rw [← hX]; exact heap_alloc_new w _
  have HF := Lib.hid (sk_first X S mb T (sizeE T.L) dv hv hh ns bk (h.after hb) ⟨s, up, false, []⟩)
  have HNw := Lib.hid (newest_plc h.wf.srt s up false [])
  obtain ⟨P, hP⟩ : ∃ P, plcE ⟨s, up, false, []⟩ T.L = P := ⟨_, rfl⟩
  rw [hP] at HF HNw
  unfold verV at HF
  have HLP : Hid (T.L[P]? = (ns[P]?).map Nd.ent) := Lib.hid (by rw [← h.ents, List.getElem?_map])
  obtain ⟨o, ho⟩ : ∃ o, newestE T.L s up = o := ⟨_, rfl⟩
  rw [ho]
  rw [ho, HLP.out] at HNw
  have HS := Lib.hid h
  have HB := Lib.hid hb
  have HXb := Lib.hid hXb
  have HXs : Hid (X.heap.size = w.heap.size + 1) := Lib.hid (by rw [← hX]; simp)
  clear h hb hXb hi hP ho
  go_enter Try.func13, Try.ntmps13
  go_wp2_with fail
  refine HF.out.mono ?_
  rintro r w1 ⟨rfl, hb1⟩
  have hs1 := hb1.size
  have hxs := HXs.out
  have hr := (hb1.block w.heap.size (by omega)).trans HXb.out
  have hbw : Below w.heap.size w w1 := HB.out.trans (hb1.mono HB.out.size)
  have z0 := frozen_of (i := 0) hr
  have z1 := frozen_of (i := 1) hr
  have z2 := frozen_of (i := 2) hr
  have z3 := frozen_of (i := 3) hr
  have r0 := cell_of (i := 0) hr rfl
  have r1 := cell_of (i := 1) hr rfl
  have r2 := cell_of (i := 2) hr rfl
  have r3 := cell_of (i := 3) hr rfl
  have HR := Lib.hid hr
  have HBw := Lib.hid hbw
  clear hb1 hs1 hxs hr hbw
  have hnone : ∀ (W : World), Hid (W.heap[w.heap.size]? = some (.cells #[.string ⟨#[]⟩, .int .u64 0, .bool false, .slice none 0 0] 30 (0, 0))) → Below w.heap.size w W → Hid (Below w.heap.size w (set4 W w.heap.size (.string ⟨#[]⟩) (.int .u64 0) (.bool false) (.slice none 0 0))) := fun W _ hW => Lib.hid (hW.trans ((set4_fr W w.heap.size (.string ⟨#[]⟩) (.int .u64 0) (.bool false) (.slice none 0 0) (fun k => k = w.heap.size) rfl).below hW.size fun k hk e => by omega))
  have HNo := Lib.hid hnone
  clear hnone
  cases hnd : ns[P]? with
  | none =>
    have hna : ndAt ns P = none := by unfold ndAt; rw [hnd]; rfl
    rw [hna]
    rw [hnd] at HNw
    have ho : o = none := HNw.out
    subst ho
    unfold pv
    simp only [Option.map_none]
    clear hna hnd
    go_wp2_with fail
    refine bodyPost_ret (v := .tuple #[.agg #[.string ⟨#[]⟩, .int .u64 0, .bool false, .slice none 0 0], .bool false]) (results_ent rfl _ _ w.heap.size _ _ rfl rfl (set4_heap HR.out _ _ _ _) rfl) rfl ⟨none, 0, rfl, OwnS.nil _ _, (HNo.out w1 HR HBw.out).out⟩
  | some nd =>
    have hna : ndAt ns P = some nd.blk := by unfold ndAt; rw [hnd]; rfl
    rw [hna]
    rw [hnd] at HNw
    unfold pv
    simp only [Option.map_some]
    obtain ⟨hln, hat⟩ := (⟨(HS.out.after HBw.out).lk.nb P nd hnd, trivial⟩ : _ ∧ True)
    have hnB := hln.2
    have n0 : w1.cell? ⟨nd.blk, 0, none⟩ = some (.string ⟨nd.ent.key.toArray⟩) := cell_of hnB rfl
    have n1 : w1.cell? ⟨nd.blk, 1, none⟩ = some (.int .u64 (nd.ent.seq : Int)) := cell_of hnB rfl
    have n2 : w1.cell? ⟨nd.blk, 2, none⟩ = some (.bool nd.ent.gone) := cell_of hnB rfl
    have n3 : w1.cell? ⟨nd.blk, 3, none⟩ = some (.string ⟨nd.ent.val.toArray⟩) := cell_of hnB rfl
    have hfit : FitE nd.ent := HS.out.wf.fit nd.ent (List.mem_of_getElem? (i := P) (by rw [HLP.out, hnd]; rfl))
    have HE := Lib.hid (ver_entry w1 nd.ent hfit.val)
    unfold verV entA at HE
    clear hna hnd hln hat hnB hfit
    by_cases hk : nd.ent.key = s
    · have ho : o = some nd.ent := by
        have h1 := HNw.out
        simp only [Option.map_some] at h1
        rw [if_pos hk] at h1
        exact h1
      subst ho
      have q1 : (nd.ent.key == s) = true := by simp [hk]
      clear hk
      go_wp2_with fail
      refine HE.out.mono ?_
      rintro r w2 ⟨q, c, rfl, ho2, hb2⟩
      have hs2 := HBw.out.size
      have hr2 := (hb2.block w.heap.size (block_lt HR.out)).trans HR.out
      have y0 := frozen_of (i := 0) hr2
      have y1 := frozen_of (i := 1) hr2
      have y2 := frozen_of (i := 2) hr2
      have y3 := frozen_of (i := 3) hr2
      have e0 := cell_of (i := 0) hr2 rfl
      have e1 := cell_of (i := 1) hr2 rfl
      have e2 := cell_of (i := 2) hr2 rfl
      have e3 := cell_of (i := 3) hr2 rfl
      have hfr := set4_fr w2 w.heap.size (.string ⟨nd.ent.key.toArray⟩) (.int .u64 (nd.ent.seq : Int)) (.bool nd.ent.gone) (.slice q nd.ent.val.length c) (fun k => k = w.heap.size) rfl
      have hbw2 : Below w.heap.size w w2 := HBw.out.trans (hb2.mono hs2)
      have HFin := Lib.hid (hbw2.trans (hfr.below hbw2.size fun k hk e => by omega))
      have hlt := block_lt HR.out
      have HOw := Lib.hid (ho2.step (S' := fun k => w.heap.size ≤ k) hfr (fun k _ hk e => by omega) (fun k _ hk => by omega))
      have HZ := Lib.hid (set4_heap hr2 (.string ⟨nd.ent.key.toArray⟩) (.int .u64 (nd.ent.seq : Int)) (.bool nd.ent.gone) (.slice q nd.ent.val.length c))
      unfold set4 at HFin HOw HZ
      clear hs2 hr2 hfr hbw2 hb2 ho2 hlt
      go_wp2_with fail
      refine bodyPost_ret (v := .tuple #[.agg #[.string ⟨nd.ent.key.toArray⟩, .int .u64 (nd.ent.seq : Int), .bool nd.ent.gone, .slice q nd.ent.val.length c], .bool true]) (results_ent rfl _ _ w.heap.size _ _ rfl rfl HZ.out rfl) rfl ⟨q, c, rfl, HOw.out, HFin.out⟩
    · have ho : o = none := by
        have h1 := HNw.out
        simp only [Option.map_some] at h1
        rw [if_neg hk] at h1
        exact h1
      subst ho
      have q1 : (nd.ent.key == s) = false := by simp [hk]
      clear hk
      go_wp2_with fail
      refine bodyPost_ret (v := .tuple #[.agg #[.string ⟨#[]⟩, .int .u64 0, .bool false, .slice none 0 0], .bool false]) (results_ent rfl _ _ w.heap.size _ _ rfl rfl (set4_heap HR.out _ _ _ _) rfl) rfl ⟨none, 0, rfl, OwnS.nil _ _, (HNo.out w1 HR HBw.out).out⟩

set_option maxRecDepth 100000 in
set_option maxHeartbeats 2000000 in
theorem tb_new (w : World) (F : Nat → Prop) (v : Value) (draws : List Int) (h : Cl w F v draws.length (ints draws)) (hd : draws.length ≤ 1048576) (hdr : ∀ d ∈ draws, -9223372036854775808 ≤ d ∧ d ≤ 9223372036854775807) :
    Calls Try.prog 8 #[v] w fun r w' => ∃ mb, r = .returned (.pointer (some ⟨mb, 0, none⟩)) ∧ Sk w' (fun k => w.heap.size ≤ k) mb ⟨draws, [], [], 0⟩ ∧ Below w.heap.size w w' := by
  have HCl : Hid (Calls Try.prog 24 #[v] w fun r w' => ∃ v', r = .returned v' ∧ w'.ownsRow w.heap.size 3 1 v' draws.length (ints draws) ∧ Below w.heap.size w w') := by
    obtain ⟨p, cap, rfl, h1, h2, h3, h4, h5⟩ := h
    cases p with
    | none =>
      have hc := h4 rfl
      have hz : draws = [] := List.eq_nil_of_length_eq_zero (by omega)
      subst hz
      refine Lib.hid ((Try.slices_Clone_int_nil 0 cap w).mono ?_)
      rintro r w' ⟨rfl, rfl⟩
      exact ⟨_, rfl, World.ownsRow_nil _ _ _ _, Below.refl _ _⟩
    | some a =>
      rcases Nat.eq_zero_or_pos draws.length with h0 | h0
      · have hz : draws = [] := List.eq_nil_of_length_eq_zero h0
        subst hz
        refine Lib.hid ((Try.slices_Clone_int_zero a cap w).mono ?_)
        rintro r w' ⟨v', rfl, ho, _, hb⟩
        exact ⟨v', rfl, ho, hb⟩
      · obtain ⟨b, off, e, hb, hF, hc⟩ := h5 0 (.int .i64 draws[0]) (by simp [ints, h0])
        obtain rfl := Option.some.inj e
        refine Lib.hid ((Try.slices_Clone_int b off draws.length cap draws w (Nat.le_refl _) (by omega) (fun j hj => ?_)).mono ?_)
        · obtain ⟨b', off', e', _, _, hc'⟩ := h5 j (.int .i64 draws[j]) (by simp [ints, hj])
          obtain ⟨rfl, rfl⟩ : b = b' ∧ off = off' := by simpa using e'
          rw [hc']
          simp [hj]
        · rintro r w' ⟨v', rfl, ho, _, hb⟩
          rw [List.take_length] at ho
          exact ⟨v', rfl, ho, hb⟩
  have HD := Lib.hid hd
  have HDr := Lib.hid hdr
  clear h hd hdr
  go_enter Try.func8, Try.ntmps8
  go_wp2_with fail
  refine HCl.out.mono ?_
  rintro r w1 ⟨v', rfl, ho, hb⟩
  obtain ⟨p, cap, rfl, _, _⟩ := row_shape ho
  have HO := Lib.hid ho
  have HB := Lib.hid hb
  clear ho hb
  go_wp2_with fail
  go_ret
  have hb1 := HB.out.alloc HB.out.size (.cells (tbC (.slice p draws.length cap) 0 (.slice none 0 0) 0 none) 67)
  refine ⟨_, rfl, ⟨.slice p draws.length cap, .slice none 0 0, 0, [], none, ?_, rfl, HD.out⟩, hb1⟩
  have ho1 := row_keep (w' := w1.alloc (.cells (tbC (.slice p draws.length cap) 0 (.slice none 0 0) 0 none) 67)) HO.out fun k hk => alloc_old (row_lt HO.out k hk) _
  have hlow := row_low HO.out
  refine ⟨heap_alloc_new w1 _, HB.out.size, rfl, rfl, rfl, ⟨rfl, (by simp), (by simp), (by simp [SrtE]), (by simp), HDr.out⟩, row_more ho1 (fun _ _ => Nat.zero_le _), fun k hk => hlow k hk, (by simp), (by omega), (by simp), (by simp), ?_, fun _ => rfl, fun b hb => by cases hb⟩
  exact ⟨World.ownsRow_nil _ _ _ _, (fun k hk => by cases hk), (fun i nd hi => by simp at hi), (fun i nd hi => by simp at hi), (fun i j a b hi => by simp at hi), (fun i j a b hi => by simp at hi), (fun i a hi => by simp at hi)⟩
end Go.Proofs.Ytaomneenflkpeaa
