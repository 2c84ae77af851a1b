/-
  The walk over the reference's Twin.
-/
import Derived.Test.YtlekffhacmdnnaaRqA
namespace Go.Proofs.Ytlekffhacmdnnaa
open Go.RowKit

theorem Srt.take {l : List Fl} (h : Srt l) (k : Nat) : Srt (l.take k) := List.Pairwise.sublist (List.take_sublist k l) h
theorem RfAt.ownF {w : World} {S : Nat → Prop} {rb base : Nat} {D : Dsk} {fv : Value} {us : List Value} (h : RfAt w S rb D fv us) (hS : ∀ k, S k → base ≤ k) : OwnF w base fv D.files us := by
  refine ⟨h.len, h.row.1, ?_⟩
  rcases h.row.2 with hn | ⟨g, cap, cur, rfl, _, hg⟩
  · exact .inl hn
  · exact .inr ⟨g, cap, cur, rfl, hS g (h.inRow g rfl), hg⟩
/-- One file more, behind the others. -/
theorem RfAt.more {w w2 w' : World} {n xb : Nat} {E : Dsk} {fv fv' : Value} {us : List Value} {f : Fl} {u : Value} (h : RfAt w (fun k => n ≤ k) xb E fv us) (hg : w.grownBy w2 fv.ownBlock) (hown : OwnF w2 n fv' (E.files ++ [f]) (us ++ [u])) (hw : w' = w2.setCell ⟨xb, 1, none⟩ fv')
    (hu : InS (fun k => n ≤ k) w u f.data) (hle : f.synced ≤ f.data.length) (hnm : f.name.length ≤ 64) (hsrt : Srt (E.files ++ [f])) (hroom : used (E.files ++ [f]) ≤ E.size) :
    RfAt w' (fun k => n ≤ k) xb { E with files := E.files ++ [f] } fv' (us ++ [u]) := by
  subst hw
  have hxl := h.lt
  have hxb : w2.heap[xb]? = w.heap[xb]? := hg.block xb hxl (fun e => by
    obtain ⟨cur, hc⟩ := h.heap e.symm
    exact kind_ne h.blk hc (by decide) rfl)
  have hin : ∀ (l : List UInt8) (v : Value), InS (fun k => n ≤ k) w v l → InS (fun k => n ≤ k) (w2.setCell ⟨xb, 1, none⟩ fv') v l := fun l v hv => by
    refine hv.keep (fun j hj => ?_) (fun _ _ hs => hs)
    obtain ⟨cur, hc⟩ := hv.1.heap hj
    exact (setCell_other (h.free hv j hj).1 _).trans (hg.block j (block_lt hc) (fun e => (h.free hv j hj).2 e.symm))
  have hkeep : OwnF (w2.setCell ⟨xb, 1, none⟩ fv') n fv' (E.files ++ [f]) (us ++ [u]) := hown.keep fun k hk => setCell_other (by
    rintro rfl
    rcases hown.2.2 with ⟨rfl, _⟩ | ⟨g, cap, cur, rfl, _, hg2, _⟩
    · cases hk
    · obtain rfl : g = k := by simpa [Value.ownBlock] using hk
      rw [hxb, h.blk] at hg2
      injection hg2 with hg2
      injection hg2 with _ hg2 _
      exact absurd hg2 (by decide)) _
  refine ⟨setCell_same (hxb.trans h.blk) fv', ⟨hkeep.2.1, ?_⟩, hkeep.1, fun k g v h1 h2 => ?_, fun g hg => ?_, hsrt, fun g hg => ?_, hroom, h.size, h.inS, fun k hk => (World.ownsRow.lt hkeep.2 k hk).1⟩
  · rcases hkeep.2.2 with hn | ⟨g, cap, cur, e, _, hg2⟩
    · exact .inl hn
    · exact .inr ⟨g, cap, cur, e, Nat.zero_le _, hg2⟩
  · by_cases hk : k < E.files.length
    · rw [List.getElem?_append_left hk] at h1
      rw [List.getElem?_append_left (by rw [h.len]; exact hk)] at h2
      exact hin _ _ (h.bytes k g v h1 h2)
    · rw [List.getElem?_append_right (by omega)] at h1
      rw [List.getElem?_append_right (by rw [h.len]; omega), h.len] at h2
      obtain ⟨e1, e2⟩ : g = f ∧ v = u := by
        rcases e : k - E.files.length with _ | j
        · rw [e] at h1 h2
          exact ⟨by simpa using h1.symm, by simpa using h2.symm⟩
        · rw [e] at h1
          simp at h1
      subst e1 e2
      exact hin _ _ hu
  · rcases List.mem_append.1 hg with hg | hg
    · exact h.le g hg
    · obtain rfl : g = f := by simpa using hg
      exact hle
  · rcases List.mem_append.1 hg with hg | hg
    · exact h.names g hg
    · obtain rfl : g = f := by simpa using hg
      exact hnm

set_option maxRecDepth 100000 in
set_option maxHeartbeats 4000000 in
theorem rtwin_any (w : World) (S : Nat → Prop) (rb : Nat) (D : Dsk) (h : Rf w S rb D) (hcnt : D.files.length ≤ 1099511627774) :
    Calls Try.prog 17 #[.pointer (some ⟨rb, 0, none⟩)] w fun e w' => ∃ xb, e = .returned (.pointer (some ⟨xb, 0, none⟩)) ∧ Rf w' (fun k => w.heap.size ≤ k) xb D ∧ Below w.heap.size w w' := by
  obtain ⟨fv, us, h⟩ := h
  have c0 := h.c0
  have c1 := h.c1
  have c2 := h.c2
  have HH := Lib.hid h
  have hrl := h.lt
  obtain ⟨p, cap, rfl, hlc, hcm, hat⟩ := h.form
  have HA := Lib.hid hat
  clear h hat
  go_enter Try.func17, Try.ntmps17
  go_wp2_with fail
  go_region
  all_goals
    go_wp2_with fail
    go_loopw [4, 5] (fun i _ wr => ∃ (k : Nat), k ≤ D.files.length ∧ i = .int .i64 (k : Int) ∧ Hid (Rf wr (fun j => w.heap.size ≤ j) w.heap.size { D with files := D.files.take k } ∧ Below w.heap.size w wr)) (fun i _ _ => D.files.length - (intOf i).toNat)
    case atStart =>
      refine ⟨0, by omega, rfl, Lib.hid ⟨?_, ?_⟩⟩
      · exact ⟨.slice none 0 0, [], heap_alloc_new w.drew _, ⟨rfl, .inl ⟨rfl, rfl⟩⟩, rfl, (fun k f u hf => by simp at hf), (fun _ hf => by cases hf), List.Pairwise.nil, (fun _ hf => by cases hf), by simp [used], HH.out.size, Nat.le_refl _, (fun k hk => by cases hk)⟩
      · exact (below_drew (Below.refl _ w)).alloc (Nat.le_refl _) _
    case round =>
      obtain ⟨k, hk, rfl, HR⟩ := hrel
      have hws := HR.out.2.size
      have c1r := (below_cells HR.out.2 rb 1 hrl).trans c1
      by_cases hlt : k < D.files.length
      · obtain ⟨g, u, rfl, d0, d1, d2, hu, hin⟩ := HA.out k _ (List.getElem?_eq_getElem hlt)
        have hle := HH.out.le _ (List.getElem_mem hlt)
        have hnm := HH.out.names _ (List.getElem_mem hlt)
        have hfl := used_mem (List.getElem_mem hlt)
        have hroom := HH.out.room
        have hsize := HH.out.size
        have hsn : D.files.take (k + 1) = D.files.take k ++ [D.files[k]] := take_snoc _ _ _ (List.getElem?_eq_getElem hlt)
        have hst := HH.out.srt.take (k + 1)
        have hut := used_take D.files (k + 1)
        rw [hsn] at hst hut
        generalize hfg : D.files[k] = f at *
        obtain ⟨pu, capu, rfl, hlcu, hl47u, hcmu, _⟩ := hin.rd.form
        have hgl := cell_lt d0
        have x0 := (below_cells HR.out.2 g (k * 3) hgl).trans d0
        have x1 := (below_cells HR.out.2 g (k * 3 + 1) hgl).trans d1
        have x2 := (below_cells HR.out.2 g (k * 3 + 2) hgl).trans d2
        have HI := Lib.hid hin
        have HSn := Lib.hid hsn
        have HSt := Lib.hid hst
        have HUt : Hid (used (D.files.take k ++ [f]) ≤ D.size) := Lib.hid (Nat.le_trans hut hroom)
        have hLb : f.data.length ≤ 1073741824 := Nat.le_trans hfl (Nat.le_trans hroom hsize)
        have HB := Lib.hid HR.out.2
        have HRd : Hid (Rd wr w.heap.size (.slice pu f.data.length capu) f.data) := Lib.hid (hin.rd.below HR.out.2)
        clear hu hin hsn hst hut hfg hroom hsize hfl d0 d1 d2
        have hbA : Below wr.heap.size wr ((wr.alloc (.cells #[.string ⟨f.name.toArray⟩, .slice pu f.data.length capu, .int .i64 (f.synced : Int)] 73)).alloc (.cells #[] 5)) := ((Below.refl _ _).alloc (Nat.le_refl _) _).alloc (by simp) _
        have HbA := Lib.hid hbA
        have HO0 : Hid (Own ((wr.alloc (.cells #[.string ⟨f.name.toArray⟩, .slice pu f.data.length capu, .int .i64 (f.synced : Int)] 73)).alloc (.cells #[] 5)) (wr.heap.size + 1) (.slice (some ⟨wr.heap.size + 1, 0, none⟩) 0 0) []) := Lib.hid (by
          have h1 := own_lit0 (wr.alloc (.cells #[.string ⟨f.name.toArray⟩, .slice pu f.data.length capu, .int .i64 (f.synced : Int)] 73)) (wr.heap.size + 1) (by simp)
          rw [show (wr.alloc (.cells #[.string ⟨f.name.toArray⟩, .slice pu f.data.length capu, .int .i64 (f.synced : Int)] 73)).heap.size = wr.heap.size + 1 by simp] at h1
          exact h1)
        have HRU : Hid (Rd ((wr.alloc (.cells #[.string ⟨f.name.toArray⟩, .slice pu f.data.length capu, .int .i64 (f.synced : Int)] 73)).alloc (.cells #[] 5)) w.heap.size (.slice pu f.data.length capu) f.data) := Lib.hid (HRd.out.under hbA hws)
        have HAB : Hid (((wr.alloc (.cells #[.string ⟨f.name.toArray⟩, .slice pu f.data.length capu, .int .i64 (f.synced : Int)] 73)).alloc (.cells #[] 5)).heap[wr.heap.size]? = some (.cells #[.string ⟨f.name.toArray⟩, .slice pu f.data.length capu, .int .i64 (f.synced : Int)] 73 (0, 0))) := Lib.hid ((alloc_old (by simp) _).trans (heap_alloc_new wr _))
        have HLen : Hid (([] : List UInt8).length + f.data.length ≤ 140737488355328) := Lib.hid (by simp; omega)
        clear hbA
        go_wp2_with (first
          | (at_builtin
             refine wpList_append_rd rfl (.tmp 32) (.tmp 34) rfl (wr.heap.size + 1) w.heap.size (.slice (some ⟨wr.heap.size + 1, 0, none⟩) 0 0) (.slice pu f.data.length capu) [] f.data rfl HO0.out rfl HRU.out HLen.out (by simp) ?_
             intro y1 w1 ho1 hb1
             have e0 : w1.heap[wr.heap.size]? = some (.cells #[.string ⟨f.name.toArray⟩, .slice pu f.data.length capu, .int .i64 (f.synced : Int)] 73 (0, 0)) := (hb1.block _ (Nat.lt_succ_self _)).trans HAB.out
             have t1 := cell_of (i := 1) e0 rfl
             have zt1 : w1.frozen? ⟨wr.heap.size, 1, none⟩ = false := frozen_of e0
             have HE0 := Lib.hid e0
             have HO1 := Lib.hid ho1
             have hb3 : Below wr.heap.size wr w1 := HbA.out.trans (hb1.mono (Nat.le_succ _))
             have HB3 := Lib.hid hb3
             rw [List.nil_append] at ho1
             obtain ⟨p1, cap1, rfl, _, _⟩ := ho1.form
             clear e0 ho1 hb1 hb3))
        obtain ⟨W2, hW2⟩ : ∃ W2, w1.setCell ⟨wr.heap.size, 1, none⟩ (.slice p1 f.data.length cap1) = W2 := ⟨_, rfl⟩
        rw [hW2]
        have hs2 : W2.heap.size = w1.heap.size := by rw [← hW2]; simp
        have hk2 : ∀ b, b ≠ wr.heap.size → W2.heap[b]? = w1.heap[b]? := fun b hb => by rw [← hW2]; exact setCell_other hb _
        have hb2 : Below wr.heap.size wr W2 := ⟨by rw [← hW2]; exact HB3.out.os, by rw [← hW2]; exact HB3.out.tape, by rw [← hW2]; exact HB3.out.output, by rw [hs2]; exact HB3.out.size, fun b hb => (hk2 b (Nat.ne_of_lt hb)).trans (HB3.out.block b hb)⟩
        have e1 := setCell_same HE0.out (off := 1) (.slice p1 f.data.length cap1)
        rw [hW2] at e1
        have t0 : W2.cell? ⟨wr.heap.size, 0, none⟩ = some (.string ⟨f.name.toArray⟩) := cell_of e1 rfl
        have t1 : W2.cell? ⟨wr.heap.size, 1, none⟩ = some (.slice p1 f.data.length cap1) := cell_of e1 rfl
        have t2 : W2.cell? ⟨wr.heap.size, 2, none⟩ = some (.int .i64 (f.synced : Int)) := cell_of e1 rfl
        have hOW : Own W2 (wr.heap.size + 1) (.slice p1 f.data.length cap1) f.data := by
          have h1 := HO1.out
          rw [List.nil_append] at h1
          exact h1.keep fun j hj => hk2 j (by have := h1.block j hj; omega)
        have HOW : Hid (InS (fun j => w.heap.size ≤ j) W2 (.slice p1 f.data.length cap1) f.data) := Lib.hid (InS.own hOW (by omega) fun j hj => by omega)
        have hX := HR.out.1.after hb2
        obtain ⟨fx, ux, hX⟩ := hX
        have hxl := hX.lt
        have cx := hX.c1
        have zx := hX.fz 1
        have HX := Lib.hid hX
        have HB2 := Lib.hid hb2
        clear hW2 hs2 hk2 hb2 e1 x0 x1 x2 zt1 hX hOW
        have hbZ : Below W2.heap.size W2 (W2.drew.alloc (.cells #[.string ⟨f.name.toArray⟩, .slice p1 f.data.length cap1, .int .i64 (f.synced : Int)] 73)) := (below_drew (Below.refl _ W2)).alloc (Nat.le_refl _) _
        have HZ : Hid (RfAt (W2.drew.alloc (.cells #[.string ⟨f.name.toArray⟩, .slice p1 f.data.length cap1, .int .i64 (f.synced : Int)] 73)) (fun j => w.heap.size ≤ j) w.heap.size { D with files := D.files.take k } fx ux) := Lib.hid (HX.out.after hbZ)
        have HOF : Hid (OwnF (W2.drew.alloc (.cells #[.string ⟨f.name.toArray⟩, .slice p1 f.data.length cap1, .int .i64 (f.synced : Int)] 73)) w.heap.size fx (D.files.take k) ux) := Lib.hid (HZ.out.ownF fun _ hj => hj)
        have HSf : Hid (Sf (W2.drew.alloc (.cells #[.string ⟨f.name.toArray⟩, .slice p1 f.data.length cap1, .int .i64 (f.synced : Int)] 73)) (.slice (some ⟨W2.heap.size, 0, none⟩) 1 1) [f] [.slice p1 f.data.length cap1]) := Lib.hid (Sf.one W2.drew f (.slice p1 f.data.length cap1) 73)
        have HOne : Hid (∀ x ∈ [Value.slice p1 f.data.length cap1], x.oneCell' = true) := Lib.hid (by simp [Value.oneCell'])
        have HLn : Hid ((D.files.take k).length + [f].length ≤ 1099511627776) := Lib.hid (by rw [List.length_take]; simp; omega)
        have HZs : Hid (w.heap.size ≤ (W2.drew.alloc (.cells #[.string ⟨f.name.toArray⟩, .slice p1 f.data.length cap1, .int .i64 (f.synced : Int)] 73)).heap.size) := Lib.hid (by have := HZ.out.lt; omega)
        have HNe : Hid (fx.ownBlock ≠ some w.heap.size) := Lib.hid (fun e => by
          obtain ⟨cur, hc⟩ := HX.out.heap e
          exact kind_ne HX.out.blk hc (by decide) rfl)
        have cxB : (W2.alloc (.cells #[.string ⟨f.name.toArray⟩, .slice p1 f.data.length cap1, .int .i64 (f.synced : Int)] 73)).cell? ⟨w.heap.size, 1, none⟩ = some fx := (World.cell?_of_block (alloc_old hxl _)).trans cx
        have HIZ : Hid (InS (fun j => w.heap.size ≤ j) (W2.drew.alloc (.cells #[.string ⟨f.name.toArray⟩, .slice p1 f.data.length cap1, .int .i64 (f.synced : Int)] 73)) (.slice p1 f.data.length cap1) f.data) := Lib.hid (HOW.out.keep (fun j hj => by
          obtain ⟨cur, hc⟩ := HOW.out.1.heap hj
          exact hbZ.block j (block_lt hc)) fun _ _ hs => hs)
        have HBZ := Lib.hid hbZ
        clear hbZ
        go_region_law (
          refine step_append_F rfl (.tmp 41) (.tmp 43) rfl w.heap.size (v := fx) (u := .slice (some ⟨W2.heap.size, 0, none⟩) 1 1) (by rfl) (by rfl) HOF.out HSf.out HOne.out HLn.out HZs.out ?_
          intro y2 w2 ho2 hg2 ha2
          have e2 : w2.heap[w.heap.size]? = _ := (hg2.block w.heap.size HZ.out.lt (fun e => HNe.out e.symm)).trans HZ.out.blk
          have c1z : w2.cell? ⟨w.heap.size, 1, none⟩ = some fx := cell_of e2 rfl
          have z1z : w2.frozen? ⟨w.heap.size, 1, none⟩ = false := frozen_of e2
          have HO2 := Lib.hid ho2
          have HG2 := Lib.hid hg2
          obtain ⟨n3, p3, cap3, rfl⟩ := ho2.shape
          clear e2 ho2 hg2 ha2)
        all_goals
          go_wp2_with fail
          go_roundw
          case rel =>
            have hm := HZ.out.more HG2.out HO2.out rfl HIZ.out hle hnm HSt.out HUt.out
            rw [← HSn.out] at hm
            have h3 : Rf _ (fun j => w.heap.size ≤ j) w.heap.size { D with files := D.files.take (k + 1) } := ⟨_, _, hm⟩
            have hb1 : Below w.heap.size w (W2.drew.alloc (.cells #[.string ⟨f.name.toArray⟩, .slice p1 f.data.length cap1, .int .i64 (f.synced : Int)] 73)) := HB.out.trans ((HB2.out.trans (HBZ.out.mono HB2.out.size)).mono hws)
            have hb2 : Below w.heap.size w w2 := hb1.grown HG2.out hb1.size HOF.out.low
            have hb3 : Below w.heap.size w (w2.setCell ⟨w.heap.size, 1, none⟩ (.slice p3 n3 cap3)) := ⟨hb2.os, hb2.tape, hb2.output, by simpa using hb2.size, fun j hj => (setCell_other (Nat.ne_of_lt hj) _).trans (hb2.block j hj)⟩
            exact ⟨k + 1, by omega, by go_num, Lib.hid ⟨h3, hb3⟩⟩
          case measure => simp [intOf]; omega
      · go_wp2_with fail
        go_ret
        have h1 := HR.out.1
        rw [List.take_of_length_le (by omega)] at h1
        exact ⟨_, rfl, h1, HR.out.2⟩
end Go.Proofs.Ytlekffhacmdnnaa
