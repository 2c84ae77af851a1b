/-
  A log's state from step to step; a segment is laid anew by a file beside it.
-/
import Derived.Test.YtlbfgkocpjlamaaGreatDoorWlA
import Derived.Test.YtlbfgkocpjlamaaGreatDoorWlRo
import Derived.Test.YtlbfgkocpjlamaaGreatDoorWB
namespace Go.Proofs.YtlbfgkocpjlamaaGreatDoor
open Go.RowKit

/-! ### plainly -/
theorem del_ins (s : List UInt8) (f : Fl) (h : f.name = s) : ∀ l : List Fl, del s (ins f l) = del s l
  | [] => by simp [ins, del, h]
  | g :: r => by
    have ih := del_ins s f h r
    unfold ins
    unfold del at ih ⊢
    split
    · simp [List.filter_cons, h]
    · simp only [List.filter_cons, ih]
theorem del_comm (s t : List UInt8) (l : List Fl) : del s (del t l) = del t (del s l) := by
  unfold del
  rw [List.filter_filter, List.filter_filter]
  congr 1
  funext g
  exact Bool.and_comm _ _
theorem del_twice (s : List UInt8) (l : List Fl) : del s (del s l) = del s l := del_none (look_del s)
theorem del_put (f : Fl) (l : List Fl) : del f.name (put f l) = del f.name l := by
  unfold put
  rw [del_ins _ _ rfl, del_twice]
theorem put_del (f : Fl) (l : List Fl) : put f (del f.name l) = put f l := by
  unfold put
  rw [del_twice]
theorem anew_eq (D : Dsk) (hs : Srt D.files) (t s l : List UInt8) (h : look t D.files = none) :
    look t (app D t l).files = some ⟨t, l, 0⟩ ∧ look t (sync1 (app D t l) t).files = some ⟨t, l, l.length⟩ ∧ rename (sync1 (app D t l) t) t s = { D with files := put ⟨s, l, l.length⟩ D.files } := by
  have h0 : fileOf D t = ⟨t, [], 0⟩ := by simp [fileOf, h]
  have e1 : app D t l = { D with files := put ⟨t, l, 0⟩ D.files } := by simp [app, h0]
  have l1 : look t (app D t l).files = some ⟨t, l, 0⟩ := by
    rw [e1]
    exact look_put hs ⟨t, l, 0⟩
  have f1 := fileOf_look l1
  have e2 : sync1 (app D t l) t = { D with files := put ⟨t, l, l.length⟩ (put ⟨t, l, 0⟩ D.files) } := by
    unfold sync1
    rw [f1, e1]
  have l2 : look t (sync1 (app D t l) t).files = some ⟨t, l, l.length⟩ := by
    rw [e2]
    exact look_put (hs.put _) ⟨t, l, l.length⟩
  have f2 := fileOf_look l2
  refine ⟨l1, l2, ?_⟩
  unfold rename
  rw [f2, e2]
  simp only
  rw [del_comm t s, show del t (put ⟨t, l, l.length⟩ (put ⟨t, l, 0⟩ D.files)) = del t (put ⟨t, l, 0⟩ D.files) from del_put ⟨t, l, l.length⟩ _, show del t (put ⟨t, l, 0⟩ D.files) = del t D.files from del_put ⟨t, l, 0⟩ _, del_none h,
    show put ⟨s, l, l.length⟩ (del s D.files) = put ⟨s, l, l.length⟩ D.files from put_del ⟨s, l, l.length⟩ _]

/-! ### the state of a log -/
structure Lg (w : World) (S : Nat → Prop) (lb db n : Nat) (nm : List UInt8) (S1 : Nat → Prop) (w1 : World) (D1 : Dsk) : Prop where
  log : LogAt w1 lb db nm n
  dn : Dn w1 S1 db D1
  tb : Tb w1
  fr : Fr S w w1
  nx : Nx S S1 w
  out : ¬ S1 lb
section
variable {w w1 w2 : World} {S S1 S2 : Nat → Prop} {lb db n : Nat} {nm : List UInt8} {D D1 D2 : Dsk}
theorem Lg.start (hL : LogAt w lb db nm n) (h : Dn w S db D) (hT : Tb w) (hS : ¬ S lb) : Lg w S lb db n nm S w D := ⟨hL, h, hT, Fr.refl _ _, Nx.refl _ _, hS⟩
theorem Lg.again (h : Lg w S lb db n nm S1 w1 D1) : Lg w1 S1 lb db n nm S1 w1 D1 := Lg.start h.log h.dn h.tb h.out
theorem Lg.trans (h : Lg w S lb db n nm S1 w1 D1) {m : Nat} (k : Lg w1 S1 lb db m nm S2 w2 D2) : Lg w S lb db m nm S2 w2 D2 :=
  ⟨k.log, k.dn, k.tb, h.fr.next h.nx k.fr, h.nx.trans k.nx h.fr.size, k.out⟩
theorem Lg.below (h : Lg w S lb db n nm S1 w1 D1) (hb : Below w1.heap.size w1 w2) : Lg w S lb db n nm S1 w2 D1 :=
  ⟨h.log.below hb, h.dn.below hb, h.tb.below hb, h.fr.then (Fr.of_new hb S), h.nx, h.out⟩
theorem Lg.ext (h : Lg w S lb db n nm S1 w1 D1) (hfr : Fr S1 w1 w2) (hd : Dn w2 S2 db D2) (hx : Nx S1 S2 w1) : Lg w S lb db n nm S2 w2 D2 :=
  ⟨h.log.fr hfr h.out, hd, h.tb.fr hfr h.dn.lo, h.fr.next h.nx hfr, h.nx.trans hx h.fr.size, hx.old h.log.lt h.out⟩
theorem Lg.step (h : Lg w S lb db n nm S1 w1 D1) (hdk : Dk w2 (More S1 w1.heap.size) db D2) (hfr : Fr S1 w1 w2) : ∃ S2, Lg w S lb db n nm S2 w2 D2 ∧ Nx S1 S2 w1 := by
  obtain ⟨S2, hd, hx⟩ := h.dn.next hdk
  exact ⟨S2, h.ext hfr hd hx, hx⟩
theorem Lg.alloc (h : Lg w S lb db n nm S1 w1 D1) (o : Obj) : Lg w S lb db n nm S1 (w1.alloc o) D1 := h.below ((Below.refl _ _).alloc (Nat.le_refl _) o)
theorem Lg.size (h : Lg w S lb db n nm S1 w1 D1) : w.heap.size ≤ w1.heap.size := h.fr.size
/-- What was read ahead is read still. -/
theorem Lg.rdv (h : Lg w S lb db n nm S1 w1 D1) {v : Value} {xs : List Value} (hr : RdV w S v xs) : RdV w1 S1 v xs := hr.step h.fr fun k hk hs => (h.nx k hs).resolve_right (by omega)
theorem Lg.rdw (h : Lg w S lb db n nm S1 w1 D1) {v : Value} {ls : List (List UInt8)} (hr : RdW w S v ls) : RdW w1 S1 v ls := hr.step h.fr fun k hk hs => (h.nx k hs).resolve_right (by omega)
end

set_option maxRecDepth 100000 in
set_option maxHeartbeats 1000000 in
theorem layAnew_any (w : World) (S : Nat → Prop) (lb db m : Nat) (nm : List UInt8) (D : Dsk) (h : Lg w S lb db m nm S w D) (n : Nat) (hn : n ≤ 999999) (hnm : isLog nm = true)
    (v : Value) (l : List UInt8) (hv : RdV w S v (bs l)) (htmp : look (tmpName nm) D.files = none) (hroom : used D.files + l.length ≤ D.size) (hcnt : D.files.length ≤ 1099511627776) :
    Calls Tryz.prog 40 #[.pointer (some ⟨lb, 0, none⟩), .int .i64 (n : Int), v] w fun e w' => e = .returned (.int .i64 0) ∧ ∃ S', Lg w S lb db m nm S' w' { D with files := put ⟨segName nm n, l, l.length⟩ D.files } := by
  have hnl := isLog_len hnm
  have hcat : (⟨nm.toArray⟩ : ByteArray) ++ (⟨#[46, 116, 109, 112]⟩ : ByteArray) = ⟨(tmpName nm).toArray⟩ := ba_append nm [46, 116, 109, 112]
  have htl : (tmpName nm).length ≤ 64 := isName_len (tmp_isName hnm)
  have hsrt := h.dn.dk.srt
  obtain ⟨hl1, hl2, hD3⟩ := anew_eq D hsrt (tmpName nm) (segName nm n) l htmp
  have hN1 := tmp_isName hnm
  have hN2 := seg_isName hnm n
  have hne := tmp_ne nm n
  have hmx : ∀ s ∈ [tmpName nm], s.length ≤ maxLen := fun s hs => by
    obtain rfl := List.mem_singleton.1 hs
    unfold maxLen
    omega
  -- Delete: there is none
  have h1 := h.alloc (.cells #[.string ⟨(tmpName nm).toArray⟩] 9)
  have hC1 := delete_all _ S db D h1.dn.dk _ [tmpName nm] (RdV.one w S _ _ (h.dn.out (Nat.le_refl _))) hmx
  have hA : hasAll D.files [tmpName nm] = false := by simp [hasAll, htmp]
  rw [show ansNames D [tmpName nm] = 4 by simp [ansNames, hA], show actDel D [tmpName nm] = D by simp [actDel, hA]] at hC1
  have HC1 := Lib.hid hC1
  have H := Lib.hid h
  have H1 := Lib.hid h1
  have HV := Lib.hid hv
  have HM := Lib.hid hmx
  have HN1 := Lib.hid hN1
  have HN2 := Lib.hid hN2
  have HL1 := Lib.hid hl1
  have HL2 := Lib.hid hl2
  have HD3 := Lib.hid hD3
  have HNE := Lib.hid hne
  have HS := Lib.hid hsrt
  have c0 := h.log.c0
  have c1 := h.log.c1
  obtain ⟨p, cap, rfl, _⟩ := id hv
  rw [bs_length] at *
  clear h h1 hC1 hv hmx hA htmp hN1 hN2 hl1 hl2 hD3 hne hsrt
  go_enter Tryz.func40, Tryz.ntmps40
  go_wp2_with (go_at_call 29; refine HC1.out.mono ?_; rintro e w2 ⟨rfl, hdk, hfr⟩; refine Hid.out ?_)
  obtain ⟨S2, h2, _⟩ := H1.out.step hdk hfr
  clear hdk hfr c0 c1 HC1
  -- Append
  have h3 := h2.alloc (.cells #[.slice p l.length cap] 41)
  have hC3 := append_all _ S2 db D h3.dn.dk (tmpName nm) (by omega) _ [l] (RdW.one w2 S2 _ l _ (h2.rdv HV.out) (h2.dn.out (Nat.le_refl _))) (by omega)
  rw [show [l].flatten = l by simp, show ansApp D (tmpName nm) l = 0 by simp [ansApp, HN1.out, hroom], show actApp D (tmpName nm) l = app D (tmpName nm) l by simp [actApp, HN1.out, hroom]] at hC3
  have HC3 := Lib.hid hC3
  have H3 := Lib.hid h3
  have c0 := h2.log.c0
  clear h2 h3 hC3
  refine Lib.hid ?_
  go_wp2_with (go_at_call 25; refine HC3.out.mono ?_; rintro e w4 ⟨rfl, hdk, hfr⟩; refine Hid.out ?_)
  obtain ⟨S4, h4, _⟩ := H3.out.step hdk hfr
  clear hdk hfr c0 HC3
  -- Sync
  have h5 := h4.alloc (.cells #[.string ⟨(tmpName nm).toArray⟩] 9)
  have hC5 := sync_all _ S4 db _ h5.dn.dk _ [tmpName nm] (RdV.one w4 S4 _ _ (h4.dn.out (Nat.le_refl _))) HM.out
  have hA : hasAll (app D (tmpName nm) l).files [tmpName nm] = true := by simp [hasAll, HL1.out]
  rw [show ansNames (app D (tmpName nm) l) [tmpName nm] = 0 by simp [ansNames, hA], show actSync (app D (tmpName nm) l) [tmpName nm] = sync1 (app D (tmpName nm) l) (tmpName nm) by simp only [actSync, hA, if_true]; rfl] at hC5
  have HC5 := Lib.hid hC5
  have H5 := Lib.hid h5
  have c0 := h4.log.c0
  have hlen5 : Hid ((sync1 (app D (tmpName nm) l) (tmpName nm)).files.length ≤ 1099511627777) := Lib.hid (by
    have e1 := syncs_len [tmpName nm] _ h4.dn.dk.srt hA
    have e2 := len_app D (tmpName nm) l
    show (syncs (app D (tmpName nm) l) [tmpName nm]).files.length ≤ _
    omega)
  clear h4 h5 hC5 hA
  refine Lib.hid ?_
  go_wp2_with (go_at_call 28; refine HC5.out.mono ?_; rintro e w6 ⟨rfl, hdk, hfr⟩; refine Hid.out ?_)
  obtain ⟨S6, h6, _⟩ := H5.out.step hdk hfr
  clear hdk hfr c0 HC5
  have H6 := Lib.hid h6
  have c0 := h6.log.c0
  have hlb := h6.log.lt
  have C0 := Lib.hid c0
  -- Rename
  have HFile : ∀ w1, Hid (Below w6.heap.size w6 w1) → Calls Tryz.prog 26 #[.pointer (some ⟨lb, 0, none⟩), .int .i64 (n : Int)] w1 fun e w' => e = .returned (.string ⟨(segName nm n).toArray⟩) ∧ Hid (Below w6.heap.size w6 w') := fun w1 hb =>
    (file_any w1 lb db nm m (H6.out.log.below hb.out) n hn (by omega) (H6.out.tb.below hb.out).pow).mono fun e w' ⟨he, h2⟩ => ⟨he, Lib.hid (hb.out.trans (h2.mono hb.out.size))⟩
  have HRen : ∀ w1, Hid (Below w6.heap.size w6 w1) → Calls Tryz.prog 62 #[.pointer (some ⟨db, 0, none⟩), .string ⟨(tmpName nm).toArray⟩, .string ⟨(segName nm n).toArray⟩] w1 fun e w' =>
      e = .returned (.int .i64 0) ∧ Hid (∃ S', Lg w S lb db m nm S' w' { D with files := put ⟨segName nm n, l, l.length⟩ D.files }) := fun w1 hb => by
    have hR := rename_all w1 S6 db _ (H6.out.dn.below hb.out).dk (tmpName nm) (segName nm n) (by unfold maxLen; omega) (by rw [seg_length]; omega) (by have := hlen5.out; omega)
    rw [show ansRen (sync1 (app D (tmpName nm) l) (tmpName nm)) (tmpName nm) (segName nm n) = 0 by simp [ansRen, HL2.out, HN2.out], show actRen (sync1 (app D (tmpName nm) l) (tmpName nm)) (tmpName nm) (segName nm n) = rename (sync1 (app D (tmpName nm) l) (tmpName nm)) (tmpName nm) (segName nm n) by simp [actRen, HL2.out, HN2.out, HNE.out], HD3.out] at hR
    refine hR.mono fun e w' ⟨he, hdk, hfr⟩ => ⟨he, Lib.hid ?_⟩
    obtain ⟨S7, h7, _⟩ := (H6.out.below hb.out).step hdk hfr
    exact ⟨S7, h7⟩
  have H0 : Hid (Below w6.heap.size w6 w6.drew) := Lib.hid (Below.refl _ _).drew
  clear h6 hcat
  refine Lib.hid ?_
  go_upto_region 9 with (fail)
  go_region_with (first
    | (go_at_call 26
       refine (HFile _ (by assumption)).mono ?_
       rintro e wg ⟨rfl, HB4⟩
       have c0 := (below_cells HB4.out lb 0 hlb).trans C0.out)
    | (go_at_call 62
       refine (HRen _ (by assumption)).mono ?_
       rintro e wz ⟨rfl, HZ⟩))
  all_goals
    go_wp2_with fail
    go_ret
    exact ⟨rfl, HZ.out⟩
end Go.Proofs.YtlbfgkocpjlamaaGreatDoor
