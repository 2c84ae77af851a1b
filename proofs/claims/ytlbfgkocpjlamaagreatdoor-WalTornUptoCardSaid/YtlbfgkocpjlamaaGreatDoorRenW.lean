/-
  The walk over Rename.
-/
import Derived.Test.YtlbfgkocpjlamaaGreatDoorSynW
namespace Go.Proofs.YtlbfgkocpjlamaaGreatDoor
open Go.RowKit

set_option maxHeartbeats 400000 in
theorem rename_none (w : World) (S : Nat → Prop) (db : Nat) (D : Dsk) (h : Dk w S db D) (s t : List UInt8) (hs : s.length ≤ maxLen) (hn : look s D.files = none) :
    Calls Tryz.prog 62 #[.pointer (some ⟨db, 0, none⟩), .string ⟨s.toArray⟩, .string ⟨t.toArray⟩] w fun e w' => e = .returned (.int .i64 4) ∧ w = w' := by
  obtain ⟨mv, loc, dat, h⟩ := h
  have c3 := h.c3
  have HN := Lib.hid hn
  clear hn
  go_enter Tryz.func62, Tryz.ntmps62
  go_wp2_with (at_lookup; refine wpList_look_none rfl _ _ rfl h.map s hs HN.out rfl rfl ?_)
  go_ret
  exact ⟨rfl, rfl⟩

set_option maxHeartbeats 400000 in
theorem rename_arg (w : World) (S : Nat → Prop) (db : Nat) (D : Dsk) (h : Dk w S db D) (s t : List UInt8) (hs : s.length ≤ maxLen) (ht : t.length ≤ 140737488355328) (f : Fl) (hn : look s D.files = some f) (hnm : isName t = false) :
    Calls Tryz.prog 62 #[.pointer (some ⟨db, 0, none⟩), .string ⟨s.toArray⟩, .string ⟨t.toArray⟩] w fun e w' => e = .returned (.int .i64 1) ∧ w = w' := by
  obtain ⟨mv, loc, dat, h⟩ := h
  have c3 := h.c3
  have HN := Lib.hid hn
  have HC := name_any t w ht
  rw [hnm] at HC
  clear hn hnm
  go_enter Tryz.func62, Tryz.ntmps62
  go_wp2_with (at_lookup; refine wpList_look_some rfl _ _ rfl h.map s hs HN.out rfl rfl ?_)
  refine HC.mono ?_
  rintro e w' ⟨rfl, rfl⟩
  go_wp2_with fail
  go_ret
  exact ⟨rfl, rfl⟩

set_option maxHeartbeats 400000 in
theorem rename_same (w : World) (S : Nat → Prop) (db : Nat) (D : Dsk) (h : Dk w S db D) (s : List UInt8) (hs : s.length ≤ maxLen) (f : Fl) (hn : look s D.files = some f) (hnm : isName s = true) :
    Calls Tryz.prog 62 #[.pointer (some ⟨db, 0, none⟩), .string ⟨s.toArray⟩, .string ⟨s.toArray⟩] w fun e w' => e = .returned (.int .i64 0) ∧ w = w' := by
  obtain ⟨mv, loc, dat, h⟩ := h
  have c3 := h.c3
  have HN := Lib.hid hn
  have HC := name_any s w (by have := isName_len hnm; omega)
  rw [hnm] at HC
  clear hn hnm
  go_enter Tryz.func62, Tryz.ntmps62
  go_wp2_with (at_lookup; refine wpList_look_some rfl _ _ rfl h.map s hs HN.out rfl rfl ?_)
  refine HC.mono ?_
  rintro e w' ⟨rfl, rfl⟩
  go_wp2_with fail
  go_ret
  exact ⟨rfl, rfl⟩

set_option maxRecDepth 100000 in
set_option maxHeartbeats 1000000 in
theorem rename_some (w : World) (S : Nat → Prop) (db : Nat) (D : Dsk) (h : Dk w S db D) (s t : List UInt8) (hs : s.length ≤ maxLen) (hcnt : D.files.length < 4611686018427387904) (f : Fl) (hn : look s D.files = some f) (hnm : isName t = true) (hne : s ≠ t) :
    Calls Tryz.prog 62 #[.pointer (some ⟨db, 0, none⟩), .string ⟨s.toArray⟩, .string ⟨t.toArray⟩] w fun e w' => e = .returned (.int .i64 0) ∧ Dk w' S db (rename D s t) ∧ Fr S w w' := by
  obtain ⟨mv, loc, dat, h⟩ := h
  have c3 := h.c3
  have HN := Lib.hid hn
  have htl := isName_len hnm
  have htm : t.length ≤ maxLen := by unfold maxLen; omega
  have HC := name_any t w (by omega)
  rw [hnm] at HC
  have HNE := Lib.hid hne
  have hst : (s == t) = false := by simpa using hne
  have HH := Lib.hid h
  have HR : Hid (∃ dat', Calls Tryz.prog 49 #[.pointer (some ⟨db, 0, none⟩), .string ⟨t.toArray⟩] w fun e w' => e = .returned (.tuple #[]) ∧ DkAt w' S db (del1 D t) mv loc dat' ∧ Fr (DBlk db mv) w w') := Lib.hid (by
    rcases e : look t D.files with _ | g
    · refine ⟨dat, (remove_none w S db D ⟨mv, loc, dat, h⟩ t htm e).mono ?_⟩
      rintro e w' ⟨rfl, rfl⟩
      refine ⟨rfl, ?_, Fr.refl _ _⟩
      unfold del1
      rw [del_none e]
      exact h
    · exact ⟨dat, remove_some w S db D mv loc dat h t htm g e⟩)
  obtain ⟨dat', HR1⟩ := HR.out
  have HR2 := Lib.hid HR1
  clear hn hnm HR HR1 hne h
  go_enter Tryz.func62, Tryz.ntmps62
  go_wp2_with (at_lookup; refine wpList_look_some rfl _ _ rfl HH.out.map s hs HN.out rfl rfl ?_)
  refine HC.mono ?_
  rintro e w' ⟨rfl, rfl⟩
  clear HC
  go_wp2_with fail
  refine HR2.out.mono ?_
  rintro e w1 ⟨rfl, hd1, hf1⟩
  have c3b := hd1.c3
  have hl1 : look s (del1 D t).files = some f := (look_del_other HH.out.srt HNE.out).trans HN.out
  obtain ⟨hfm, hfn⟩ := look_some hl1
  obtain ⟨mb, rfl, ho, hmb⟩ := hd1.hasMap hfm
  have hnt : look t (del1 D t).files = none := look_del t
  have hln : (del1 D t).files.length < maxLen := by
    have := List.length_filter_le (fun g : Fl => !(g.name == t)) D.files
    unfold maxLen
    show (del t D.files).length < _
    unfold del
    omega
  have HD1 := Lib.hid hd1
  have HF1 := Lib.hid hf1
  have HO := Lib.hid ho
  have HFM := Lib.hid hfm
  have HFN := Lib.hid hfn
  have HNT := Lib.hid hnt
  have hlt1 := hd1.lt
  have hmlt := ho.lt
  clear hd1 hf1 ho hfm hfn hnt hl1
  go_wp2_with (at_delete; refine wpList_delete_own _ rfl _ _ 50 9 rfl 66 law Tryz.underlying50 ptrElem mb (del1 D t).files.length (dm loc (del1 D t).files) rfl HO.out _ _ rfl (key_of s hs) ?_; intro w2 hown2 hturn2)
  have c3c : w2.cell? ⟨db, 3, none⟩ = some (.map (some mb)) := (World.cell?_of_block (hturn2.grown.block db hlt1 (by simpa using Ne.symm hmb))).trans c3b
  have hm2 := hown2.lt
  have hsz2 := hturn2.grown.size
  have HO2 := Lib.hid hown2
  have HT2 := Lib.hid hturn2
  clear hown2 hturn2
  go_region_with (first
    | (go_at_call 22; refine (sclone_any t _ (by omega)).mono ?_; rintro e w3 ⟨rfl, hb⟩; have c3d := (below_cells hb db 3 (by simp; omega)).trans c3c; have HB := Lib.hid hb; obtain ⟨w4, hrun, hown4, hturn4⟩ := (own_block HO2.out (hb.block mb (by simp; omega))).store law Tryz.underlying50 hln (key_of t htm) (ptrElem_some (loc s))))
  all_goals
    go_wp2
    go_ret
    have hfa : Fr (DBlk db (.map (some mb))) w1 w2 := Fr.grown HT2.out.grown (fun k e => .inr (by rw [Option.some.inj e]))
    have hfb : Fr (DBlk db (.map (some mb))) w2 w3 := (Fr.refl (DBlk db (.map (some mb))) w2).drew.then (Fr.of_new HB.out _)
    have hfc : Fr (DBlk db (.map (some mb))) w3 w4 := Fr.grown hturn4.grown (fun k e => .inr (by rw [Option.some.inj e]))
    have hfr := hfa.then (hfb.then hfc)
    have hblk : w4.heap[db]? = w1.heap[db]? := (hturn4.grown.block db (Nat.lt_of_lt_of_le hlt1 (Nat.le_trans hfa.size hfb.size)) (by simpa using Ne.symm hmb)).trans ((HB.out.block db (Nat.lt_of_lt_of_le hlt1 hfa.size)).trans (HT2.out.grown.block db hlt1 (by simpa using Ne.symm hmb)))
    rw [← HFN.out] at hown4
    have hmv := HD1.out.move HFM.out htl HNT.out rfl hfr hblk hown4
    have e : rename D s t = { del1 D t with files := put ⟨t, f.data, f.synced⟩ (del f.name (del1 D t).files) } := by
      unfold rename
      rw [fileOf_look HN.out, HFN.out]
      rfl
    exact ⟨rfl, ⟨.map (some mb), upd loc t (loc f.name), upd dat' t (dat' f.name), by rw [e]; exact hmv⟩, (HF1.out.then hfr).mono fun k _ hk => HH.out.dblk k hk⟩
end Go.Proofs.YtlbfgkocpjlamaaGreatDoor
