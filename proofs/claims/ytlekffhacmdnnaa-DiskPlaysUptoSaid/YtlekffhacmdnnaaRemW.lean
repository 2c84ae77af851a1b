/-
  The walk over remove: the file is gone; its blocks lie there as they were.
-/
import Derived.Test.YtlekffhacmdnnaaLeafB
import Derived.Test.YtlekffhacmdnnaaDkB
import Derived.RegionTactic
import Derived.BigRegion
namespace Go.Proofs.Ytlekffhacmdnnaa
open Go.RowKit

set_option maxHeartbeats 400000 in
theorem remove_none (w : World) (S : Nat → Prop) (db : Nat) (D : Dsk) (h : Dk w S db D) (s : List UInt8) (hs : s.length ≤ maxLen) (hn : look s D.files = none) :
    Calls Try.prog 54 #[.pointer (some ⟨db, 0, none⟩), .string ⟨s.toArray⟩] w fun e w' => e = .returned (.tuple #[]) ∧ w = w' := by
  obtain ⟨mv, loc, dat, h⟩ := h
  have c3 := h.c3
  have HN := Lib.hid hn
  clear hn
  go_enter Try.func54, Try.ntmps54
  go_wp2_with (at_lookup; refine wpList_look_none rfl _ _ rfl h.map s hs HN.out rfl rfl ?_)
  go_end0
  exact ⟨rfl, rfl⟩

set_option maxHeartbeats 400000 in
theorem remove_some (w : World) (S : Nat → Prop) (db : Nat) (D : Dsk) (mv : Value) (loc : List UInt8 → Nat) (dat : List UInt8 → Value) (h : DkAt w S db D mv loc dat) (s : List UInt8) (hs : s.length ≤ maxLen) (f : Fl) (hn : look s D.files = some f) :
    Calls Try.prog 54 #[.pointer (some ⟨db, 0, none⟩), .string ⟨s.toArray⟩] w fun e w' => e = .returned (.tuple #[]) ∧ DkAt w' S db { D with files := del s D.files } mv loc dat ∧ Fr (DBlk db mv) w w' := by
  have c3 := h.c3
  have c1 := h.c1
  have z1 := h.fz 1
  obtain ⟨hm, hnm⟩ := look_some hn
  have hf := h.files.each f hm
  have hl := h.file hm
  have c0 := hf.c0
  have hu := used_del h.srt s
  rw [hn] at hu
  have hu2 : (used D.files : Int) - (f.data.length : Int) = (used (del s D.files) : Int) := by simp only at hu; omega
  have hub := h.room
  have husz := h.size
  obtain ⟨p, cap, ev, h1, h2⟩ := hf.own.form
  rw [hnm] at c0
  rw [hnm] at ev
  rw [ev] at c0
  obtain ⟨mb, rfl, ho, hmb⟩ := h.hasMap hm
  have HH := Lib.hid h
  have HN := Lib.hid hn
  have HO := Lib.hid ho
  have HU := Lib.hid hu2
  have hlu := used_mem hm
  clear hn hm hf hu hu2 ev h ho hnm
  generalize hL : f.data.length = L at *
  clear hL
  go_enter Try.func54, Try.ntmps54
  go_wp2_with (at_lookup; refine wpList_look_some rfl _ _ rfl HH.out.map s hs HN.out rfl rfl ?_)
  go_region
  all_goals (go_wp2_with (at_delete; refine wpList_delete_own _ rfl _ _ 65 9 rfl 77 law Try.underlying65 ptrElem mb D.files.length (dm loc D.files) rfl (HO.out.setCell hmb _) _ _ rfl (key_of s hs) ?_; intro w1 hown1 hturn1))
  all_goals
    go_end0
    have hs1 := (Fr.setCell (DBlk db (.map (some mb))) w (p := ⟨db, 1, none⟩) (.inl rfl) (.int .i64 ((used D.files : Int) - (L : Int)))).drew
    have hs2 : Fr (DBlk db (.map (some mb))) _ w1 := Fr.grown hturn1.grown (fun k e => .inr (by rw [Option.some.inj e]))
    have hfr := hs1.then hs2
    have hb1 := setCell_same HH.out.blk (off := 1) (.int .i64 ((used D.files : Int) - (L : Int)))
    have hb2 := (hturn1.grown.block db (by simpa using HH.out.lt) (by simpa using Ne.symm hmb)).trans hb1
    rw [HU.out] at hb2
    refine ⟨rfl, HH.out.delFile (n := D.files.length) rfl hfr hb2 ?_ (fun _ _ hs => hs), hfr⟩
    rw [← dm_del]
    exact hown1
end Go.Proofs.Ytlekffhacmdnnaa
