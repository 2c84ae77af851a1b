/-
  The walks over the disk's Lose, Born, Unsynced.
-/
import Derived.Test.YtlekffhacmdnnaaCrW
namespace Go.Proofs.Ytlekffhacmdnnaa
open Go.RowKit

set_option maxHeartbeats 400000 in
theorem born_any (w : World) (S : Nat → Prop) (db : Nat) (D : Dsk) (h : Dk w S db D) :
    Calls Try.prog 41 #[.pointer (some ⟨db, 0, none⟩)] w fun e w' => e = .returned (.int .i64 (D.born : Int)) ∧ w = w' := by
  obtain ⟨mv, loc, dat, h⟩ := h
  have c2 := h.c2
  go_enter Try.func41, Try.ntmps41
  go_wp2_with fail
  go_ret
  exact ⟨rfl, rfl⟩
set_option maxHeartbeats 400000 in
theorem lose_any (w : World) (S : Nat → Prop) (db : Nat) (D : Dsk) (h : Dk w S db D) (hb : D.born ≤ 1099511627776) :
    Calls Try.prog 38 #[.pointer (some ⟨db, 0, none⟩)] w fun e w' => e = .returned (.tuple #[]) ∧ Dk w' S db ⟨D.size, [], D.born + 1⟩ ∧ Fr S w w' := by
  obtain ⟨mv, loc, dat, h⟩ := h
  have c1 := h.c1
  have c2 := h.c2
  have c3 := h.c3
  have z1 := h.fz 1
  have z2 := h.fz 2
  have z3 := h.fz 3
  have HH := Lib.hid h
  clear h
  go_enter Try.func38, Try.ntmps38
  go_wp2_with fail
  go_end0
  have hD := HH.out
  have b1 := setCell_same hD.blk (off := 3) (.map none)
  have b2 := setCell_same b1 (off := 1) (.int .i64 0)
  have b3 := setCell_same b2 (off := 2) (.int .i64 ((D.born : Int) + 1))
  refine ⟨rfl, ⟨.map none, fun _ => 0, fun _ => .slice none 0 0, ⟨b3, .inl ⟨rfl, rfl⟩, Files.nil _ _ _ _, List.Pairwise.nil, (fun _ hf => by cases hf), by simp [used], hD.size, hD.inS⟩⟩, (((Fr.refl S w).then (Fr.setCell S w hD.inS _)).then (Fr.setCell S _ hD.inS _)).then (Fr.setCell S _ hD.inS _)⟩
set_option maxHeartbeats 400000 in
theorem dunsynced_none (w : World) (S : Nat → Prop) (db : Nat) (D : Dsk) (h : Dk w S db D) (s : List UInt8) (hs : s.length ≤ maxLen) (hn : look s D.files = none) :
    Calls Try.prog 22 #[.pointer (some ⟨db, 0, none⟩), .string ⟨s.toArray⟩] w fun e w' => e = .returned (.int .i64 0) ∧ w = w' := by
  obtain ⟨mv, loc, dat, h⟩ := h
  have c3 := h.c3
  have HN := Lib.hid hn
  clear hn
  go_enter Try.func22, Try.ntmps22
  go_wp2_with (at_lookup; refine wpList_look_none rfl _ _ rfl h.map s hs HN.out rfl rfl ?_)
  go_ret
  exact ⟨rfl, rfl⟩
set_option maxHeartbeats 400000 in
theorem dunsynced_some (w : World) (S : Nat → Prop) (db : Nat) (D : Dsk) (h : Dk w S db D) (s : List UInt8) (hs : s.length ≤ maxLen) (f : Fl) (hn : look s D.files = some f) :
    Calls Try.prog 22 #[.pointer (some ⟨db, 0, none⟩), .string ⟨s.toArray⟩] w fun e w' => e = .returned (.int .i64 ((f.data.length - f.synced : Nat) : Int)) ∧ ∃ n, w' = w.drewN n := by
  obtain ⟨mv, loc, dat, h⟩ := h
  have c3 := h.c3
  obtain ⟨hm, hnm⟩ := look_some hn
  have HC := unsynced_any w S _ _ f (h.files.each f hm) (h.file hm)
  rw [hnm] at HC
  have HN := Lib.hid hn
  clear hn hnm
  go_enter Try.func22, Try.ntmps22
  go_wp2_with (at_lookup; refine wpList_look_some rfl _ _ rfl h.map s hs HN.out rfl rfl ?_)
  refine HC.mono ?_
  rintro e w' ⟨rfl, n, rfl⟩
  go_wp2_with fail
  go_ret
  exact ⟨rfl, n, rfl⟩
end Go.Proofs.Ytlekffhacmdnnaa
