/-
  The walk over the reference's Crash.
-/
import Derived.Test.YtlekffhacmdnnaaRqA
import Derived.Test.YtlekffhacmdnnaaCrW
namespace Go.Proofs.Ytlekffhacmdnnaa
open Go.RowKit

theorem crashL_length : ∀ (l : List Fl) (ps : List Int), (crashL l ps).length = l.length
  | [], _ => rfl
  | f :: r, ps => by simp [crashL, crashL_length r ps.tail]
theorem mid_length (l : List Fl) (ps : List Int) (k : Nat) (hk : k ≤ l.length) : (mid l ps k).length = l.length := by
  unfold mid
  rw [List.length_append, crashL_length, List.length_take, List.length_drop]
  omega
theorem mid_at {l : List Fl} {ps : List Int} {k : Nat} (hk : k < l.length) : (mid l ps k)[k]? = some l[k] := by
  unfold mid
  rw [List.getElem?_append_right (by rw [crashL_length, List.length_take]; omega), crashL_length, List.length_take, List.drop_eq_getElem_cons hk, Nat.min_eq_left (by omega), Nat.sub_self]
  rfl
theorem mid_set {l : List Fl} {ps : List Int} {k : Nat} (hk : k < l.length) : (mid l ps k).set k (torn l[k] (ps.getD k 0)) = mid l ps (k + 1) := by
  unfold mid
  have hl : (crashL (l.take k) ps).length = k := by rw [crashL_length, List.length_take]; omega
  rw [List.drop_eq_getElem_cons hk, List.set_append_right _ _ (by omega), hl, Nat.sub_self, List.set_cons_zero, crashL_snoc l ps k hk]
  simp
theorem kept_pos {p : Int} (hp : 0 ≤ p) (n : Nat) : p % ((n : Int) + 1) = ((kept p n : Nat) : Int) := by
  have h := kept_eq p n
  rw [Int.max_eq_left hp] at h
  exact h
theorem kept_neg {p : Int} (hp : p < 0) (n : Nat) : kept p n = 0 := by
  unfold kept
  rw [if_pos (by omega)]
theorem used_torn {l : List Fl} (h : Srt l) {f : Fl} (hf : f ∈ l) (p : Int) : used (put (torn f p) l) ≤ used l := by
  have h1 := used_put h (torn f p)
  rw [torn_name, look_mem h hf] at h1
  have h2 : (torn f p).data.length ≤ f.data.length := by
    show (f.data.take _).length ≤ _
    rw [List.length_take]
    omega
  simp only at h1
  omega

set_option maxRecDepth 100000 in
set_option maxHeartbeats 4000000 in
theorem rcrash_any (w : World) (S : Nat → Prop) (rb : Nat) (D : Dsk) (h : Rf w S rb D) (vp : Value) (ps : List Int) (hp : RdV w S vp (ps.map (Value.int .i64))) (hps : ∀ p ∈ ps, -9223372036854775808 ≤ p ∧ p ≤ 9223372036854775807) :
    Calls Try.prog 37 #[.pointer (some ⟨rb, 0, none⟩), vp] w fun e w' => e = .returned (.tuple #[]) ∧ Rf w' (More S w.heap.size) rb (crash D ps) ∧ Fr S w w' := by
  have HH := Lib.hid h
  have HP := Lib.hid hp
  have HPS := Lib.hid hps
  have hpf := hp.form
  rw [List.length_map] at hpf
  obtain ⟨pp, pcap, rfl, hpc, hp47, hpm⟩ := hpf
  clear h hp hps
  go_enter Try.func37, Try.ntmps37
  go_wp2_with fail
  go_loopw [4, 5, 6, 7] (fun i _ _ _ wr => ∃ (k : Nat), k ≤ D.files.length ∧ i = .int .i64 (k : Int) ∧ Hid (Rf wr (More S w.heap.size) rb { D with files := mid D.files ps k } ∧ Fr S w wr)) (fun i _ _ _ _ => D.files.length - (intOf i).toNat)
  case atStart => exact ⟨0, by omega, rfl, Lib.hid ⟨by
    have e : mid D.files ps 0 = D.files := by simp [mid, crashL]
    rw [e]
    exact HH.out.mono fun _ _ hs => .inl hs, Fr.refl _ _⟩⟩
  case round =>
    obtain ⟨k, hk, rfl, HR⟩ := hrel
    obtain ⟨hd, hfr⟩ := HR.out
    obtain ⟨fv, us, hd⟩ := hd
    have c1 := hd.c1
    have hml := mid_length D.files ps k hk
    obtain ⟨p3, cap3, rfl, hlc3, hcm3, hat⟩ := hd.form
    rw [hml] at c1 hlc3
    by_cases hlt : k < D.files.length
    · obtain ⟨g, u, rfl, d0, d1, d2, hu, hin⟩ := hat k D.files[k] (mid_at hlt)
      have hle := hd.le D.files[k] (mid_mem hlt)
      have hfl := used_mem (mid_mem (ps := ps) hlt)
      have hroom := hd.room
      have hsize := hd.size
      have HSet := Lib.hid (mid_set (ps := ps) hlt)
      have HPut := Lib.hid (mid_step hlt hd.srt)
      have HAt := Lib.hid (mid_at (ps := ps) hlt)
      have HUt := Lib.hid (used_torn hd.srt (mid_mem hlt) (ps.getD k 0))
      have HNm := Lib.hid (hd.names D.files[k] (mid_mem hlt))
      have HSrtP := Lib.hid (hd.srt.put (torn D.files[k] (ps.getD k 0)))
      have hPA := fun (hkp : k < ps.length) => (HP.out.same hfr).atv (k := k) (x := .int .i64 ps[k]) (by simp [hkp])
      obtain ⟨cur, hcur⟩ := hd.heap (k := g) rfl
      have hgl := block_lt hcur
      have hrl := hd.lt
      have HCur := Lib.hid hcur
      generalize hfg : D.files[k] = f at *
      obtain ⟨pu, capu, rfl, hlcu, hl47u, hcmu, _⟩ := hin.rd.form
      have HI := Lib.hid hin
      have HD := Lib.hid hd
      have HFr := Lib.hid hfr
      have hws := hfr.size
      have hLb : f.data.length ≤ 1073741824 := Nat.le_trans hfl (Nat.le_trans hroom hsize)
      clear hat hu hin hd hfr hcur hfg hroom hsize hfl
      obtain ⟨L, hL⟩ : ∃ L, f.data.length = L := ⟨_, rfl⟩
      obtain ⟨Y, hY⟩ : ∃ Y, f.synced = Y := ⟨_, rfl⟩
      obtain ⟨K, hK⟩ : ∃ K, kept (ps.getD k 0) (L - Y) = K := ⟨_, rfl⟩
      have hKle : K ≤ L - Y := by rw [← hK]; exact kept_le _ _
      have htorn : torn f (ps.getD k 0) = ⟨f.name, f.data.take (Y + K), (f.data.take (Y + K)).length⟩ := by
        unfold torn
        rw [hL, hY, hK]
      have HTorn := Lib.hid htorn
      rw [hL, hY] at hle
      rw [hL] at hLb d1 hlcu hl47u HI
      rw [hY] at d2
      obtain ⟨A, hA⟩ : ∃ A, wr.alloc (.cells #[.string ⟨f.name.toArray⟩, .slice pu L capu, .int .i64 (Y : Int)] 73) = A := ⟨_, rfl⟩
      have HA := Lib.hid hA
      have HTk : Hid ((f.data.take (Y + K)).length = Y + K) := Lib.hid (by rw [List.length_take]; omega)
      have HL := Lib.hid hL
      have HRd : Hid (Rd wr wr.heap.size (.slice pu (Y + K) capu) (f.data.take (Y + K))) := Lib.hid (by
        have h1 := HI.out.rd
        rw [← hL] at h1
        exact h1.take (by omega))
      rw [HTorn.out] at HSet HPut HUt HSrtP
      generalize f.data.take (Y + K) = T at *
      have ewk : IntKind.i64.wrap ((Y : Int) + (K : Int)) = (Y : Int) + (K : Int) := IntWalk.i64_in _ (by omega)
      have etk : ((Y : Int) + (K : Int)).toNat = Y + K := by omega
      by_cases hkp : k < ps.length
      · obtain ⟨b3, off3, rfl, hb3, hT3, hc3⟩ := hPA hkp
        have hpb := HPS.out ps[k] (List.getElem_mem hkp)
        have eg : ps.getD k 0 = ps[k] := by simp [List.getD_eq_getElem?_getD, List.getElem?_eq_getElem hkp]
        rw [eg] at hK
        have EG := Lib.hid eg
        clear hPA eg
        generalize ps[k] = pk at *
        by_cases hpos : 0 ≤ pk
        · have hke := kept_pos hpos (L - Y)
          rw [hK, show (((L - Y : Nat) : Int) + 1) = (L : Int) - (Y : Int) + 1 by omega] at hke
          clear hK hL hY htorn hA
          have hbA : Below wr.heap.size wr ((wr.alloc (.cells #[.string ⟨f.name.toArray⟩, .slice pu L capu, .int .i64 (Y : Int)] 73)).alloc (.cells #[] 5)) := ((Below.refl _ _).alloc (Nat.le_refl _) _).alloc (by simp) _
          have HbA := Lib.hid hbA
          have HO0 : Hid (Own ((wr.alloc (.cells #[.string ⟨f.name.toArray⟩, .slice pu L capu, .int .i64 (Y : Int)] 73)).alloc (.cells #[] 5)) (wr.heap.size + 1) (.slice (some ⟨wr.heap.size + 1, 0, none⟩) 0 0) []) := Lib.hid (by
            have h1 := own_lit0 (wr.alloc (.cells #[.string ⟨f.name.toArray⟩, .slice pu L capu, .int .i64 (Y : Int)] 73)) (wr.heap.size + 1) (by simp)
            rw [show (wr.alloc (.cells #[.string ⟨f.name.toArray⟩, .slice pu L capu, .int .i64 (Y : Int)] 73)).heap.size = wr.heap.size + 1 by simp] at h1
            exact h1)
          have HRU : Hid (Rd ((wr.alloc (.cells #[.string ⟨f.name.toArray⟩, .slice pu L capu, .int .i64 (Y : Int)] 73)).alloc (.cells #[] 5)) wr.heap.size (.slice pu (Y + K) capu) T) := Lib.hid (HRd.out.under hbA (Nat.le_refl _))
          have HAB : Hid (((wr.alloc (.cells #[.string ⟨f.name.toArray⟩, .slice pu L capu, .int .i64 (Y : Int)] 73)).alloc (.cells #[] 5)).heap[wr.heap.size]? = some (.cells #[.string ⟨f.name.toArray⟩, .slice pu L capu, .int .i64 (Y : Int)] 73 (0, 0))) := Lib.hid ((alloc_old (by simp) _).trans (heap_alloc_new wr _))
          have HLen : Hid (([] : List UInt8).length + T.length ≤ 140737488355328) := Lib.hid (by have := HTk.out; simp; omega)
          clear hbA
          go_wp2_with (first
            | (at_builtin
               refine wpList_append_rd rfl (.tmp 48) (.tmp 55) rfl (wr.heap.size + 1) wr.heap.size (.slice (some ⟨wr.heap.size + 1, 0, none⟩) 0 0) (.slice pu (Y + K) capu) [] T rfl HO0.out rfl HRU.out HLen.out (by simp) ?_
               intro y1 w1 ho1 hb1
               have e0 : w1.heap[wr.heap.size]? = some (.cells #[.string ⟨f.name.toArray⟩, .slice pu L capu, .int .i64 (Y : Int)] 73 (0, 0)) := (hb1.block _ (Nat.lt_succ_self _)).trans HAB.out
               have t0 := cell_of (i := 0) e0 rfl
               have t1 := cell_of (i := 1) e0 rfl
               have t2 := cell_of (i := 2) e0 rfl
               have zt1 : w1.frozen? ⟨wr.heap.size, 1, none⟩ = false := frozen_of e0
               have zt2 : w1.frozen? ⟨wr.heap.size, 2, none⟩ = false := frozen_of e0
               have HE0 := Lib.hid e0
               have HO1 := Lib.hid ho1
               have hb3 : Below wr.heap.size wr w1 := HbA.out.trans (hb1.mono (Nat.le_succ _))
               have HB3 := Lib.hid hb3
               rw [List.nil_append] at ho1
               obtain ⟨p1, cap1, rfl, _, _⟩ := ho1.form
               clear e0 ho1 hb1 hb3))
          obtain ⟨W2, hW2⟩ : ∃ W2, ((w1.setCell ⟨wr.heap.size, 1, none⟩ (.slice p1 T.length cap1)).setCell ⟨wr.heap.size, 2, none⟩ (.int .i64 (T.length : Int))) = W2 := ⟨_, rfl⟩
          rw [hW2]
          have hs2 : W2.heap.size = w1.heap.size := by rw [← hW2]; simp
          have hk2 : ∀ b, b ≠ wr.heap.size → W2.heap[b]? = w1.heap[b]? := fun b hb => by rw [← hW2]; exact (setCell_other hb _).trans (setCell_other hb _)
          have hb2 : Below wr.heap.size wr W2 := ⟨by rw [← hW2]; exact HB3.out.os, by rw [← hW2]; exact HB3.out.tape, by rw [← hW2]; exact HB3.out.output, by rw [hs2]; exact HB3.out.size, fun b hb => (hk2 b (Nat.ne_of_lt hb)).trans (HB3.out.block b hb)⟩
          have e1 := setCell_same HE0.out (off := 1) (.slice p1 T.length cap1)
          have e2 := setCell_same e1 (off := 2) (.int .i64 (T.length : Int))
          rw [hW2] at e2
          have t0 : W2.cell? ⟨wr.heap.size, 0, none⟩ = some (.string ⟨f.name.toArray⟩) := cell_of e2 rfl
          have t1 : W2.cell? ⟨wr.heap.size, 1, none⟩ = some (.slice p1 T.length cap1) := cell_of e2 rfl
          have t2 : W2.cell? ⟨wr.heap.size, 2, none⟩ = some (.int .i64 (T.length : Int)) := cell_of e2 rfl
          have c1 := (below_cells hb2 rb 1 hrl).trans c1
          have x0 := (below_cells hb2 g (k * 3) hgl).trans d0
          have x1 := (below_cells hb2 g (k * 3 + 1) hgl).trans d1
          have x2 := (below_cells hb2 g (k * 3 + 2) hgl).trans d2
          have hcg := (hb2.block g hgl).trans HCur.out
          have y0 : W2.frozen? ⟨g, k * 3, none⟩ = false := frozen_of hcg
          have y1 : W2.frozen? ⟨g, k * 3 + 1, none⟩ = false := frozen_of hcg
          have y2 : W2.frozen? ⟨g, k * 3 + 2, none⟩ = false := frozen_of hcg
          have HB2 := Lib.hid hb2
          have HOW : Hid (Own W2 (wr.heap.size + 1) (.slice p1 T.length cap1) T) := Lib.hid (by
            have h1 := HO1.out
            rw [List.nil_append] at h1
            exact h1.keep fun j hj => hk2 j (by have := h1.block j hj; omega))
          clear hW2 hs2 hk2 hb2 e1 e2 hcg d0 d1 d2 zt1 zt2
          go_region
          all_goals
            go_wp2_with fail
            go_roundw
            case rel =>
              have hd := (HD.out.after HB2.out).drewN 1
              have hIn : InS (More S w.heap.size) (W2.drewN 1) (.slice p1 T.length cap1) T := InS.own (HOW.out.keep fun _ _ => rfl) (by have := HTk.out; omega) fun j hj => .inr (by omega)
              obtain ⟨h1, h2⟩ := RfAt.setAt (D := { D with files := mid D.files ps k }) (g := g) (cap := cap3) (us := us) hd (P := k) (f := f) (f' := ⟨f.name, T, T.length⟩) HAt.out hIn (Nat.le_refl _) HNm.out (by simp only; rw [HSet.out, ← HPut.out]; exact HSrtP.out) (by simp only; rw [HSet.out, ← HPut.out]; exact Nat.le_trans HUt.out HD.out.room)
              simp only [HSet.out] at h1
              have h3 : Rf _ (More S w.heap.size) rb { D with files := mid D.files ps (k + 1) } := ⟨_, _, h1⟩
              exact ⟨k + 1, by omega, by go_num, Lib.hid ⟨h3, HFr.out.trans (((Fr.of_new HB2.out _).drewN 1).then h2)⟩⟩
            case measure => simp [intOf]; omega
        · have hke := kept_neg (Int.not_le.1 hpos) (L - Y)
          rw [hK] at hke
          subst hke
          have hpn : decide ((0 : Int) ≤ pk) = false := by simp; omega
          clear hK hL hY htorn hA
          have hbA : Below wr.heap.size wr ((wr.alloc (.cells #[.string ⟨f.name.toArray⟩, .slice pu L capu, .int .i64 (Y : Int)] 73)).alloc (.cells #[] 5)) := ((Below.refl _ _).alloc (Nat.le_refl _) _).alloc (by simp) _
          have HbA := Lib.hid hbA
          have HO0 : Hid (Own ((wr.alloc (.cells #[.string ⟨f.name.toArray⟩, .slice pu L capu, .int .i64 (Y : Int)] 73)).alloc (.cells #[] 5)) (wr.heap.size + 1) (.slice (some ⟨wr.heap.size + 1, 0, none⟩) 0 0) []) := Lib.hid (by
            have h1 := own_lit0 (wr.alloc (.cells #[.string ⟨f.name.toArray⟩, .slice pu L capu, .int .i64 (Y : Int)] 73)) (wr.heap.size + 1) (by simp)
            rw [show (wr.alloc (.cells #[.string ⟨f.name.toArray⟩, .slice pu L capu, .int .i64 (Y : Int)] 73)).heap.size = wr.heap.size + 1 by simp] at h1
            exact h1)
          have HRU : Hid (Rd ((wr.alloc (.cells #[.string ⟨f.name.toArray⟩, .slice pu L capu, .int .i64 (Y : Int)] 73)).alloc (.cells #[] 5)) wr.heap.size (.slice pu Y capu) T) := Lib.hid (HRd.out.under hbA (Nat.le_refl _))
          have HAB : Hid (((wr.alloc (.cells #[.string ⟨f.name.toArray⟩, .slice pu L capu, .int .i64 (Y : Int)] 73)).alloc (.cells #[] 5)).heap[wr.heap.size]? = some (.cells #[.string ⟨f.name.toArray⟩, .slice pu L capu, .int .i64 (Y : Int)] 73 (0, 0))) := Lib.hid ((alloc_old (by simp) _).trans (heap_alloc_new wr _))
          have HLen : Hid (([] : List UInt8).length + T.length ≤ 140737488355328) := Lib.hid (by have := HTk.out; simp; omega)
          clear hbA
          go_wp2_with (first
            | (at_builtin
               refine wpList_append_rd rfl (.tmp 48) (.tmp 55) rfl (wr.heap.size + 1) wr.heap.size (.slice (some ⟨wr.heap.size + 1, 0, none⟩) 0 0) (.slice pu Y capu) [] T rfl HO0.out rfl HRU.out HLen.out (by simp) ?_
               intro y1 w1 ho1 hb1
               have e0 : w1.heap[wr.heap.size]? = some (.cells #[.string ⟨f.name.toArray⟩, .slice pu L capu, .int .i64 (Y : Int)] 73 (0, 0)) := (hb1.block _ (Nat.lt_succ_self _)).trans HAB.out
               have t0 := cell_of (i := 0) e0 rfl
               have t1 := cell_of (i := 1) e0 rfl
               have t2 := cell_of (i := 2) e0 rfl
               have zt1 : w1.frozen? ⟨wr.heap.size, 1, none⟩ = false := frozen_of e0
               have zt2 : w1.frozen? ⟨wr.heap.size, 2, none⟩ = false := frozen_of e0
               have HE0 := Lib.hid e0
               have HO1 := Lib.hid ho1
               have hb3 : Below wr.heap.size wr w1 := HbA.out.trans (hb1.mono (Nat.le_succ _))
               have HB3 := Lib.hid hb3
               rw [List.nil_append] at ho1
               obtain ⟨p1, cap1, rfl, _, _⟩ := ho1.form
               clear e0 ho1 hb1 hb3))
          obtain ⟨W2, hW2⟩ : ∃ W2, ((w1.setCell ⟨wr.heap.size, 1, none⟩ (.slice p1 T.length cap1)).setCell ⟨wr.heap.size, 2, none⟩ (.int .i64 (T.length : Int))) = W2 := ⟨_, rfl⟩
          rw [hW2]
          have hs2 : W2.heap.size = w1.heap.size := by rw [← hW2]; simp
          have hk2 : ∀ b, b ≠ wr.heap.size → W2.heap[b]? = w1.heap[b]? := fun b hb => by rw [← hW2]; exact (setCell_other hb _).trans (setCell_other hb _)
          have hb2 : Below wr.heap.size wr W2 := ⟨by rw [← hW2]; exact HB3.out.os, by rw [← hW2]; exact HB3.out.tape, by rw [← hW2]; exact HB3.out.output, by rw [hs2]; exact HB3.out.size, fun b hb => (hk2 b (Nat.ne_of_lt hb)).trans (HB3.out.block b hb)⟩
          have e1 := setCell_same HE0.out (off := 1) (.slice p1 T.length cap1)
          have e2 := setCell_same e1 (off := 2) (.int .i64 (T.length : Int))
          rw [hW2] at e2
          have t0 : W2.cell? ⟨wr.heap.size, 0, none⟩ = some (.string ⟨f.name.toArray⟩) := cell_of e2 rfl
          have t1 : W2.cell? ⟨wr.heap.size, 1, none⟩ = some (.slice p1 T.length cap1) := cell_of e2 rfl
          have t2 : W2.cell? ⟨wr.heap.size, 2, none⟩ = some (.int .i64 (T.length : Int)) := cell_of e2 rfl
          have c1 := (below_cells hb2 rb 1 hrl).trans c1
          have x0 := (below_cells hb2 g (k * 3) hgl).trans d0
          have x1 := (below_cells hb2 g (k * 3 + 1) hgl).trans d1
          have x2 := (below_cells hb2 g (k * 3 + 2) hgl).trans d2
          have hcg := (hb2.block g hgl).trans HCur.out
          have y0 : W2.frozen? ⟨g, k * 3, none⟩ = false := frozen_of hcg
          have y1 : W2.frozen? ⟨g, k * 3 + 1, none⟩ = false := frozen_of hcg
          have y2 : W2.frozen? ⟨g, k * 3 + 2, none⟩ = false := frozen_of hcg
          have HB2 := Lib.hid hb2
          have HOW : Hid (Own W2 (wr.heap.size + 1) (.slice p1 T.length cap1) T) := Lib.hid (by
            have h1 := HO1.out
            rw [List.nil_append] at h1
            exact h1.keep fun j hj => hk2 j (by have := h1.block j hj; omega))
          clear hW2 hs2 hk2 hb2 e1 e2 hcg d0 d1 d2 zt1 zt2
          go_region
          all_goals
            go_wp2_with fail
            go_roundw
            case rel =>
              have hd := (HD.out.after HB2.out).drewN 1
              have hIn : InS (More S w.heap.size) (W2.drewN 1) (.slice p1 T.length cap1) T := InS.own (HOW.out.keep fun _ _ => rfl) (by have := HTk.out; omega) fun j hj => .inr (by omega)
              obtain ⟨h1, h2⟩ := RfAt.setAt (D := { D with files := mid D.files ps k }) (g := g) (cap := cap3) (us := us) hd (P := k) (f := f) (f' := ⟨f.name, T, T.length⟩) HAt.out hIn (Nat.le_refl _) HNm.out (by simp only; rw [HSet.out, ← HPut.out]; exact HSrtP.out) (by simp only; rw [HSet.out, ← HPut.out]; exact Nat.le_trans HUt.out HD.out.room)
              simp only [HSet.out] at h1
              have h3 : Rf _ (More S w.heap.size) rb { D with files := mid D.files ps (k + 1) } := ⟨_, _, h1⟩
              exact ⟨k + 1, by omega, by go_num, Lib.hid ⟨h3, HFr.out.trans (((Fr.of_new HB2.out _).drewN 1).then h2)⟩⟩
            case measure => simp [intOf]; omega
      · have eg : ps.getD k 0 = 0 := by rw [List.getD_eq_getElem?_getD, List.getElem?_eq_none (by omega)]; rfl
        rw [eg] at hK
        have hke : K = 0 := by
          rw [← hK]
          unfold kept
          rw [if_pos (by omega)]
        clear hPA eg
        subst hke
        clear hK hL hY htorn hA
        have hbA : Below wr.heap.size wr ((wr.alloc (.cells #[.string ⟨f.name.toArray⟩, .slice pu L capu, .int .i64 (Y : Int)] 73)).alloc (.cells #[] 5)) := ((Below.refl _ _).alloc (Nat.le_refl _) _).alloc (by simp) _
        have HbA := Lib.hid hbA
        have HO0 : Hid (Own ((wr.alloc (.cells #[.string ⟨f.name.toArray⟩, .slice pu L capu, .int .i64 (Y : Int)] 73)).alloc (.cells #[] 5)) (wr.heap.size + 1) (.slice (some ⟨wr.heap.size + 1, 0, none⟩) 0 0) []) := Lib.hid (by
          have h1 := own_lit0 (wr.alloc (.cells #[.string ⟨f.name.toArray⟩, .slice pu L capu, .int .i64 (Y : Int)] 73)) (wr.heap.size + 1) (by simp)
          rw [show (wr.alloc (.cells #[.string ⟨f.name.toArray⟩, .slice pu L capu, .int .i64 (Y : Int)] 73)).heap.size = wr.heap.size + 1 by simp] at h1
          exact h1)
        have HRU : Hid (Rd ((wr.alloc (.cells #[.string ⟨f.name.toArray⟩, .slice pu L capu, .int .i64 (Y : Int)] 73)).alloc (.cells #[] 5)) wr.heap.size (.slice pu Y capu) T) := Lib.hid (HRd.out.under hbA (Nat.le_refl _))
        have HAB : Hid (((wr.alloc (.cells #[.string ⟨f.name.toArray⟩, .slice pu L capu, .int .i64 (Y : Int)] 73)).alloc (.cells #[] 5)).heap[wr.heap.size]? = some (.cells #[.string ⟨f.name.toArray⟩, .slice pu L capu, .int .i64 (Y : Int)] 73 (0, 0))) := Lib.hid ((alloc_old (by simp) _).trans (heap_alloc_new wr _))
        have HLen : Hid (([] : List UInt8).length + T.length ≤ 140737488355328) := Lib.hid (by have := HTk.out; simp; omega)
        clear hbA
        go_wp2_with (first
          | (at_builtin
             refine wpList_append_rd rfl (.tmp 48) (.tmp 55) rfl (wr.heap.size + 1) wr.heap.size (.slice (some ⟨wr.heap.size + 1, 0, none⟩) 0 0) (.slice pu Y capu) [] T rfl HO0.out rfl HRU.out HLen.out (by simp) ?_
             intro y1 w1 ho1 hb1
             have e0 : w1.heap[wr.heap.size]? = some (.cells #[.string ⟨f.name.toArray⟩, .slice pu L capu, .int .i64 (Y : Int)] 73 (0, 0)) := (hb1.block _ (Nat.lt_succ_self _)).trans HAB.out
             have t0 := cell_of (i := 0) e0 rfl
             have t1 := cell_of (i := 1) e0 rfl
             have t2 := cell_of (i := 2) e0 rfl
             have zt1 : w1.frozen? ⟨wr.heap.size, 1, none⟩ = false := frozen_of e0
             have zt2 : w1.frozen? ⟨wr.heap.size, 2, none⟩ = false := frozen_of e0
             have HE0 := Lib.hid e0
             have HO1 := Lib.hid ho1
             have hb3 : Below wr.heap.size wr w1 := HbA.out.trans (hb1.mono (Nat.le_succ _))
             have HB3 := Lib.hid hb3
             rw [List.nil_append] at ho1
             obtain ⟨p1, cap1, rfl, _, _⟩ := ho1.form
             clear e0 ho1 hb1 hb3))
        obtain ⟨W2, hW2⟩ : ∃ W2, ((w1.setCell ⟨wr.heap.size, 1, none⟩ (.slice p1 T.length cap1)).setCell ⟨wr.heap.size, 2, none⟩ (.int .i64 (T.length : Int))) = W2 := ⟨_, rfl⟩
        rw [hW2]
        have hs2 : W2.heap.size = w1.heap.size := by rw [← hW2]; simp
        have hk2 : ∀ b, b ≠ wr.heap.size → W2.heap[b]? = w1.heap[b]? := fun b hb => by rw [← hW2]; exact (setCell_other hb _).trans (setCell_other hb _)
        have hb2 : Below wr.heap.size wr W2 := ⟨by rw [← hW2]; exact HB3.out.os, by rw [← hW2]; exact HB3.out.tape, by rw [← hW2]; exact HB3.out.output, by rw [hs2]; exact HB3.out.size, fun b hb => (hk2 b (Nat.ne_of_lt hb)).trans (HB3.out.block b hb)⟩
        have e1 := setCell_same HE0.out (off := 1) (.slice p1 T.length cap1)
        have e2 := setCell_same e1 (off := 2) (.int .i64 (T.length : Int))
        rw [hW2] at e2
        have t0 : W2.cell? ⟨wr.heap.size, 0, none⟩ = some (.string ⟨f.name.toArray⟩) := cell_of e2 rfl
        have t1 : W2.cell? ⟨wr.heap.size, 1, none⟩ = some (.slice p1 T.length cap1) := cell_of e2 rfl
        have t2 : W2.cell? ⟨wr.heap.size, 2, none⟩ = some (.int .i64 (T.length : Int)) := cell_of e2 rfl
        have c1 := (below_cells hb2 rb 1 hrl).trans c1
        have x0 := (below_cells hb2 g (k * 3) hgl).trans d0
        have x1 := (below_cells hb2 g (k * 3 + 1) hgl).trans d1
        have x2 := (below_cells hb2 g (k * 3 + 2) hgl).trans d2
        have hcg := (hb2.block g hgl).trans HCur.out
        have y0 : W2.frozen? ⟨g, k * 3, none⟩ = false := frozen_of hcg
        have y1 : W2.frozen? ⟨g, k * 3 + 1, none⟩ = false := frozen_of hcg
        have y2 : W2.frozen? ⟨g, k * 3 + 2, none⟩ = false := frozen_of hcg
        have HB2 := Lib.hid hb2
        have HOW : Hid (Own W2 (wr.heap.size + 1) (.slice p1 T.length cap1) T) := Lib.hid (by
          have h1 := HO1.out
          rw [List.nil_append] at h1
          exact h1.keep fun j hj => hk2 j (by have := h1.block j hj; omega))
        clear hW2 hs2 hk2 hb2 e1 e2 hcg d0 d1 d2 zt1 zt2
        go_region
        all_goals
          go_wp2_with fail
          go_roundw
          case rel =>
            have hd := (HD.out.after HB2.out).drewN 1
            have hIn : InS (More S w.heap.size) (W2.drewN 1) (.slice p1 T.length cap1) T := InS.own (HOW.out.keep fun _ _ => rfl) (by have := HTk.out; omega) fun j hj => .inr (by omega)
            obtain ⟨h1, h2⟩ := RfAt.setAt (D := { D with files := mid D.files ps k }) (g := g) (cap := cap3) (us := us) hd (P := k) (f := f) (f' := ⟨f.name, T, T.length⟩) HAt.out hIn (Nat.le_refl _) HNm.out (by simp only; rw [HSet.out, ← HPut.out]; exact HSrtP.out) (by simp only; rw [HSet.out, ← HPut.out]; exact Nat.le_trans HUt.out HD.out.room)
            simp only [HSet.out] at h1
            have h3 : Rf _ (More S w.heap.size) rb { D with files := mid D.files ps (k + 1) } := ⟨_, _, h1⟩
            exact ⟨k + 1, by omega, by go_num, Lib.hid ⟨h3, HFr.out.trans (((Fr.of_new HB2.out _).drewN 1).then h2)⟩⟩
          case measure => simp [intOf]; omega
    · clear hat
      go_wp2_with fail
      go_end0
      obtain ⟨hd, hfr⟩ := HR.out
      have e : mid D.files ps k = crashL D.files ps := by
        unfold mid
        rw [List.take_of_length_le (by omega), List.drop_of_length_le (by omega), List.append_nil]
      rw [e] at hd
      exact ⟨rfl, hd, hfr⟩
end Go.Proofs.Ytlekffhacmdnnaa
