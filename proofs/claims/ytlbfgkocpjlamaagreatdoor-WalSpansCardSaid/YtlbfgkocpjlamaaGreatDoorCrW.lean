/-
  The walk over Crash: file by file, in the order of names, a front of what is not synced is kept.
-/
import Derived.Test.YtlbfgkocpjlamaaGreatDoorTearW
import Derived.Test.YtlbfgkocpjlamaaGreatDoorListW
namespace Go.Proofs.YtlbfgkocpjlamaaGreatDoor
open Go.RowKit

/-! ### plainly -/
def crashL : List Fl → List Int → List Fl
  | [], _ => []
  | f :: r, ps => torn f (ps.headD 0) :: crashL r ps.tail
def crash (D : Dsk) (ps : List Int) : Dsk := { D with files := crashL D.files ps }
theorem torn_name (f : Fl) (p : Int) : (torn f p).name = f.name := rfl
theorem crashL_names : ∀ (l : List Fl) (ps : List Int), namesOf (crashL l ps) = namesOf l
  | [], _ => rfl
  | f :: r, ps => by
    have := crashL_names r ps.tail
    unfold namesOf at this ⊢
    simp only [crashL, List.map_cons, this, torn_name]
theorem crashL_snoc : ∀ (l : List Fl) (ps : List Int) (k : Nat) (h : k < l.length), crashL (l.take (k + 1)) ps = crashL (l.take k) ps ++ [torn l[k] (ps.getD k 0)]
  | [], _, _, h => by simp at h
  | f :: r, ps, 0, _ => by cases ps <;> simp [crashL]
  | f :: r, ps, k + 1, h => by
    have := crashL_snoc r ps.tail k (by simpa using h)
    rw [List.take_succ_cons, List.take_succ_cons]
    simp only [crashL, this, List.getElem_cons_succ, List.cons_append]
    cases ps <;> simp
theorem put_mid {A B : List Fl} {f f' : Fl} (h : Srt (A ++ f :: B)) (hn : f'.name = f.name) : put f' (A ++ f :: B) = A ++ f' :: B := by
  rw [put_map h (List.mem_append.2 (.inr (by simp))) hn, List.map_append, List.map_cons, if_pos hn.symm]
  have hne := List.pairwise_append.1 h.ne
  have h2 := List.pairwise_cons.1 hne.2.1
  rw [map_id fun x hx => by rw [hn]; exact hne.2.2 x hx f (by simp), map_id fun x hx => by rw [hn]; exact Ne.symm (h2.1 x hx)]
/-- The files behind k of the rounds. -/
def mid (l : List Fl) (ps : List Int) (k : Nat) : List Fl := crashL (l.take k) ps ++ l.drop k
theorem mid_step {l : List Fl} {ps : List Int} {k : Nat} (hk : k < l.length) (h : Srt (mid l ps k)) : put (torn l[k] (ps.getD k 0)) (mid l ps k) = mid l ps (k + 1) := by
  have e : l.drop k = l[k] :: l.drop (k + 1) := List.drop_eq_getElem_cons hk
  unfold mid at h ⊢
  rw [e] at h ⊢
  rw [put_mid h (torn_name _ _), crashL_snoc l ps k hk, List.append_assoc]
  rfl
theorem mid_mem {l : List Fl} {ps : List Int} {k : Nat} (hk : k < l.length) : l[k] ∈ mid l ps k := by
  refine List.mem_append.2 (.inr ?_)
  rw [List.drop_eq_getElem_cons hk]
  exact List.mem_cons_self

section
variable {w w' : World} {S T : Nat → Prop} {db : Nat} {D : Dsk} {mv : Value} {loc : List UInt8 → Nat} {dat : List UInt8 → Value}
theorem DkAt.tear (h : DkAt w S db D mv loc dat) {f : Fl} (hf : f ∈ D.files) {p : Int} {v' : Value} {w2 : World} (h2 : FileAt w2 T (loc f.name) v' (torn f p)) (hv : v'.ownBlock = (dat f.name).ownBlock ∨ ∀ k, v'.ownBlock = some k → w.heap.size ≤ k)
    (hfr : Fr (fun k => k = loc f.name) w w2) (hT : ∀ k, k < w.heap.size → S k → T k) {Q : Nat} (hQ : f.data.length - f.synced - kept p (f.data.length - f.synced) = Q) (hw : w' = w2.setCell ⟨db, 1, none⟩ (.int .i64 ((used D.files : Int) - (Q : Int)))) :
    DkAt w' T db { D with files := put (torn f p) D.files } mv loc (upd dat f.name v') ∧ Fr (fun k => k = db ∨ FBlk (loc f.name) (dat f.name) k) w w' := by
  subst hw
  have e := h.files.each f hf
  have b := h.block hf
  have hu := used_put h.srt (torn f p)
  rw [torn_name, look_mem h.srt hf] at hu
  have hm := used_mem hf
  have hle := e.le
  have hK := kept_le p (f.data.length - f.synced)
  have ht : (torn f p).data.length = f.synced + kept p (f.data.length - f.synced) := by
    show (f.data.take _).length = _
    rw [List.length_take]
    omega
  have hu2 : used (put (torn f p) D.files) + Q = used D.files := by simp only at hu; omega
  have hroom := h.room
  have hb2 : w2.heap[db]? = some (.cells #[.int .i64 (D.size : Int), .int .i64 (used D.files : Int), .int .i64 (D.born : Int), mv] 52 (0, 0)) := (hfr.block db h.lt b.1).trans h.blk
  have hfr2 : Fr (fun k => k = db ∨ FBlk (loc f.name) (dat f.name) k) w (w2.setCell ⟨db, 1, none⟩ (.int .i64 ((used D.files : Int) - (Q : Int)))) :=
    (hfr.mono fun k _ hk => .inr (.inl hk)).then (Fr.setCell _ w2 (p := ⟨db, 1, none⟩) (.inl rfl) _)
  refine ⟨h.setFile (f := f) (f' := torn f p) hf rfl hfr2 ?_ (h2.keep (setCell_other (Ne.symm b.1) _) (fun k hk => setCell_other ?_ _) (fun _ _ hs => hs)) hv hT (by omega), hfr2⟩
  · rw [setCell_same hb2, show ((used D.files : Int) - (Q : Int)) = (used (put (torn f p) D.files) : Int) by omega]
    rfl
  · rintro rfl
    obtain ⟨cur, hc⟩ := h2.own.heap hk
    exact kind_ne hc hb2 (by decide) rfl
end

set_option maxRecDepth 100000 in
set_option maxHeartbeats 2000000 in
theorem crash_any (w : World) (S : Nat → Prop) (db : Nat) (D : Dsk) (h : Dk w S db D) (vp : Value) (ps : List Int) (hp : RdV w S vp (ps.map (Value.int .i64))) (hps : ∀ p ∈ ps, -9223372036854775808 ≤ p ∧ p ≤ 9223372036854775807) (hcnt : D.files.length ≤ 1099511627776) :
    Calls Tryz.prog 13 #[.pointer (some ⟨db, 0, none⟩), vp] w fun e w' => e = .returned (.tuple #[]) ∧ Dk w' (More S w.heap.size) db (crash D ps) ∧ Fr S w w' := by
  have hlen : (namesOf D.files).length = D.files.length := by simp [namesOf]
  have HL := Lib.hid (list_any w S db D h 0 none hcnt)
  have HH := Lib.hid h
  have HP := Lib.hid hp
  have HPS := Lib.hid hps
  have hpf := hp.form
  rw [List.length_map] at hpf
  obtain ⟨pp, pcap, rfl, hpc, hp47, hpm⟩ := hpf
  clear h hp hps
  go_enter Tryz.func13, Tryz.ntmps13
  go_wp2_with fail
  refine HL.out.mono ?_
  rintro e w1 ⟨v1, rfl, ho1, hb1⟩
  obtain ⟨S2, hS2⟩ : ∃ S2 : Nat → Prop, S2 = fun k => (S k ∧ k < w.heap.size) ∨ w1.heap.size ≤ k := ⟨_, rfl⟩
  have hS2b : ∀ k, w1.heap.size ≤ k → S2 k := fun k hk => by rw [hS2]; exact .inr hk
  have hS2S : ∀ k, S2 k → More S w.heap.size k := fun k hk => by
    rw [hS2] at hk
    rcases hk with hk | hk
    · exact .inl hk.1
    · exact .inr (Nat.le_trans hb1.size hk)
  have hd1 : Dk w1 S2 db D := HH.out.step (Fr.of_new hb1 (fun _ => False)) (fun _ _ _ hf => hf) (fun k hk hs => by rw [hS2]; exact .inl ⟨hs, hk⟩)
  have hn1 : RdV w1 S2 v1 ((namesOf D.files).map encStr) := ho1.rdv (by omega) (fun k hk hlt hs => by
    rw [hS2] at hs
    rcases hs with hs | hs <;> omega)
  have hp1 : RdV w1 S2 (.slice pp ps.length pcap) (ps.map (Value.int .i64)) := HP.out.step (Fr.of_new hb1 S) (fun k hk hs => by
    rw [hS2] at hs
    rcases hs with hs | hs
    · exact hs.1
    · have := hb1.size
      omega)
  obtain ⟨np, ncap, rfl, hnc, hn47, hnm⟩ := hn1.formS
  rw [hlen] at hnc hn47 ⊢
  rw [hlen] at hn1
  have HN1 := Lib.hid hn1
  have HP1 := Lib.hid hp1
  have HD1 := Lib.hid hd1
  have HB1 := Lib.hid hb1
  have HSb := Lib.hid hS2b
  have HSS := Lib.hid hS2S
  have HLen := Lib.hid hlen
  clear hn1 hp1 hd1 hb1 hS2b hS2S hlen HL ho1
  clear hS2
  go_wp2_with fail
  go_loopw [4, 5, 6, 10] (fun _ _ _ i wr => ∃ (k : Nat), k ≤ D.files.length ∧ i = .int .i64 (k : Int) ∧ Hid (Dk wr S2 db { D with files := mid D.files ps k } ∧ Fr S2 w1 wr)) (fun _ _ _ i _ => D.files.length - (intOf i).toNat)
  case atStart => exact ⟨0, by omega, rfl, Lib.hid ⟨by simpa [mid, crashL] using HD1.out, Fr.refl _ _⟩⟩
  case round =>
    obtain ⟨k, hk, rfl, HR⟩ := hrel
    by_cases hlt : k < D.files.length
    · obtain ⟨⟨mv, loc, dat, hd⟩, hfr⟩ := HR.out
      obtain ⟨b, off, rfl, hb, hT, hc⟩ := (HN1.out.same hfr).at_ (k := k) (by rw [HLen.out]; exact hlt)
      simp only [namesOf, List.getElem_map] at hc
      have hm := mid_mem (ps := ps) hlt
      have hst := mid_step hlt hd.srt
      have hws := hfr.size
      generalize D.files[k] = f at *
      have hlk := (show MapIs wr.drew S2 mv loc (mid D.files ps k) from hd.map).run f.name (by have := hd.names f hm; unfold maxLen; omega)
      have eat : at_ loc (mid D.files ps k) f.name = .pointer (some ⟨loc f.name, 0, none⟩) := by unfold at_; rw [look_mem hd.srt hm]; rfl
      rw [eat] at hlk
      clear eat
      have c1 := hd.c1
      have c3 := hd.c3
      have z1 := hd.fz 1
      have hroom := hd.room
      have hszd := hd.size
      have hum := used_mem hm
      obtain ⟨X, hX⟩ : ∃ X, used (mid D.files ps k) = X := ⟨_, rfl⟩
      have HNe := Lib.hid (hd.block hm).1
      have hfa := hd.files.each f hm
      have hfl := hd.file hm
      obtain ⟨Q, hQ⟩ : ∃ Q, f.data.length - f.synced - kept (ps.getD k 0) (f.data.length - f.synced) = Q := ⟨_, rfl⟩
      have hpb : -9223372036854775808 ≤ ps.getD k 0 ∧ ps.getD k 0 ≤ 9223372036854775807 := by
        by_cases hkp : k < ps.length
        · have := HPS.out ps[k] (List.getElem_mem hkp)
          simpa [List.getD_eq_getElem?_getD, List.getElem?_eq_getElem hkp] using this
        · rw [List.getD_eq_getElem?_getD, List.getElem?_eq_none (by omega)]
          simp
      have htear := tear_any wr.drew S2 (loc f.name) (dat f.name) f (hfa.keep rfl (fun _ _ => rfl) (fun _ _ hs => hs)) hfl (ps.getD k 0) hpb.2 hpb.1
      rw [hQ] at htear
      have hQX : Q ≤ X := by
        have : f.data.length ≤ X := by rw [← hX]; exact hum
        omega
      have hX30 : X ≤ 1073741824 := by rw [← hX]; exact Nat.le_trans hroom hszd
      have HX := Lib.hid hX
      have HQ := Lib.hid hQ
      have HM : Hid (f ∈ mid D.files ps k) := Lib.hid hm
      have HSt := Lib.hid hst
      have HFr := Lib.hid hfr
      simp only [hX] at c1
      have hPA := fun (hkp : k < ps.length) => (HP1.out.same hfr).atv (k := k) (x := .int .i64 ps[k]) (by simp [hkp])
      have HD := Lib.hid hd
      clear hd hX hQ hm hst hfr hroom hum hfl hfa
      by_cases hkp : k < ps.length
      · obtain ⟨b3, off3, rfl, hb3, hT3, hc3⟩ := hPA hkp
        have eg : ps.getD k 0 = ps[k] := by simp [List.getD_eq_getElem?_getD, List.getElem?_eq_getElem hkp]
        rw [eg] at htear
        have HTear := Lib.hid htear
        clear htear hPA
        have EG := Lib.hid eg
        clear eg
        generalize ps[k] = pk at *
        go_wp2_with fail
        go_region_with (first
          | (go_at_call 31; refine HTear.out.mono ?_; rintro e w2 ⟨rfl, v', h2, hv, hf2⟩; have b2 := hf2.keep HD.out.blk HNe.out; have c1b : w2.cell? ⟨db, 1, none⟩ = some (.int .i64 (X : Int)) := by rw [← HX.out]; exact cell_of b2 rfl
             have z1b : w2.frozen? ⟨db, 1, none⟩ = false := frozen_of b2; have H2 := Lib.hid h2; have HV := Lib.hid hv; have HF2 := Lib.hid hf2; clear b2 h2 hv hf2))
        all_goals
          go_wp2_with fail
          go_roundw
          case rel =>
            have hw : w2.setCell ⟨db, 1, none⟩ (.int .i64 ((X : Int) - (Q : Int))) = w2.setCell ⟨db, 1, none⟩ (.int .i64 ((used (mid D.files ps k) : Int) - (Q : Int))) := by rw [HX.out]
            obtain ⟨hd2, hf3⟩ := HD.out.tear (T := S2) (p := ps.getD k 0) HM.out (by rw [EG.out]; exact H2.out.keep rfl (fun _ _ => rfl) (fun k hk hs => hs.elim id fun hle => HSb.out k (Nat.le_trans hws hle))) HV.out ⟨HF2.out.os, HF2.out.tape, HF2.out.output, HF2.out.size, HF2.out.block⟩ (fun _ _ hs => hs) HQ.out hw
            have e2 := HSt.out
            refine ⟨k + 1, by omega, by go_num, Lib.hid ⟨⟨mv, loc, upd dat f.name v', ?_⟩, HFr.out.then (hf3.mono fun k _ hk => ?_)⟩⟩
            · rw [← e2]
              exact hd2
            · rcases hk with rfl | rfl | hk
              · exact HD.out.inS
              · exact (HD.out.files.each f HM.out).inS
              · exact (HD.out.files.each f HM.out).row k hk
          case measure => simp [intOf]; omega

      · have eg : ps.getD k 0 = 0 := by rw [List.getD_eq_getElem?_getD, List.getElem?_eq_none (by omega)]; rfl
        rw [eg] at htear
        have HTear := Lib.hid htear
        clear htear hPA
        have EG := Lib.hid eg
        clear eg
        go_wp2_with fail
        go_region_with (first
          | (go_at_call 31; refine HTear.out.mono ?_; rintro e w2 ⟨rfl, v', h2, hv, hf2⟩; have b2 := hf2.keep HD.out.blk HNe.out; have c1b : w2.cell? ⟨db, 1, none⟩ = some (.int .i64 (X : Int)) := by rw [← HX.out]; exact cell_of b2 rfl
             have z1b : w2.frozen? ⟨db, 1, none⟩ = false := frozen_of b2; have H2 := Lib.hid h2; have HV := Lib.hid hv; have HF2 := Lib.hid hf2; clear b2 h2 hv hf2))
        all_goals
          go_wp2_with fail
          go_roundw
          case rel =>
            have hw : w2.setCell ⟨db, 1, none⟩ (.int .i64 ((X : Int) - (Q : Int))) = w2.setCell ⟨db, 1, none⟩ (.int .i64 ((used (mid D.files ps k) : Int) - (Q : Int))) := by rw [HX.out]
            obtain ⟨hd2, hf3⟩ := HD.out.tear (T := S2) (p := ps.getD k 0) HM.out (by rw [EG.out]; exact H2.out.keep rfl (fun _ _ => rfl) (fun k hk hs => hs.elim id fun hle => HSb.out k (Nat.le_trans hws hle))) HV.out ⟨HF2.out.os, HF2.out.tape, HF2.out.output, HF2.out.size, HF2.out.block⟩ (fun _ _ hs => hs) HQ.out hw
            have e2 := HSt.out
            refine ⟨k + 1, by omega, by go_num, Lib.hid ⟨⟨mv, loc, upd dat f.name v', ?_⟩, HFr.out.then (hf3.mono fun k _ hk => ?_)⟩⟩
            · rw [← e2]
              exact hd2
            · rcases hk with rfl | rfl | hk
              · exact HD.out.inS
              · exact (HD.out.files.each f HM.out).inS
              · exact (HD.out.files.each f HM.out).row k hk
          case measure => simp [intOf]; omega

    · go_wp2_with fail
      go_end0
      obtain ⟨hd, hfr⟩ := HR.out
      have e : mid D.files ps k = crashL D.files ps := by
        unfold mid
        rw [List.take_of_length_le (by omega), List.drop_of_length_le (by omega), List.append_nil]
      rw [e] at hd
      refine ⟨rfl, hd.mono fun k _ hs => HSS.out k hs, ?_⟩
      have hf0 : Fr S w w1 := Fr.of_new HB1.out S
      exact hf0.trans (hfr.mono fun k _ hs => HSS.out k hs)
end Go.Proofs.YtlbfgkocpjlamaaGreatDoor
