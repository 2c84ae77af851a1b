/-
  The walks over the functions of package disk that only read: used, unsynced, read, has, fits; and sync.
-/
import Derived.Test.YtlekffhacmdnnaaLeafA
import Derived.Maps.RangeWalk
namespace Go.Proofs.Ytlekffhacmdnnaa
open Go.RowKit

set_option maxHeartbeats 400000 in
theorem used_any (w : World) (S : Nat → Prop) (db : Nat) (D : Dsk) (h : Dk w S db D) :
    Calls Try.prog 25 #[.pointer (some ⟨db, 0, none⟩)] w fun e w' => e = .returned (.int .i64 (used D.files : Int)) ∧ w = w' := by
  obtain ⟨mv, loc, dat, h⟩ := h
  have c1 := h.c1
  generalize used D.files = U at *
  go_enter Try.func25, Try.ntmps25
  go_wp2
  go_ret
  exact ⟨rfl, rfl⟩

set_option maxHeartbeats 400000 in
theorem unsynced_any (w : World) (S : Nat → Prop) (b : Nat) (v : Value) (f : Fl) (h : FileAt w S b v f) (hl : f.data.length ≤ 1073741824) :
    Calls Try.prog 49 #[.pointer (some ⟨b, 0, none⟩)] w fun e w' => e = .returned (.int .i64 ((f.data.length - f.synced : Nat) : Int)) ∧ ∃ n, w' = w.drewN n := by
  have c0 := h.c0
  have c1 := h.c1
  have hle := h.le
  obtain ⟨p, cap, rfl, h1, h2⟩ := h.own.form
  have hsub : ((f.data.length - f.synced : Nat) : Int) = (f.data.length : Int) - (f.synced : Int) := by omega
  rw [hsub]
  clear hsub h
  generalize f.data.length = L at *
  generalize f.synced = Y at *
  have e0 : IntKind.i64.wrap ((L : Int) - (Y : Int)) = (L : Int) - (Y : Int) := IntWalk.i64_in _ (by omega)
  go_enter Try.func49, Try.ntmps49
  go_wp2
  go_quiet (fail)
  go_wp2
  go_ret
  exact ⟨rfl, _, rfl⟩

set_option maxHeartbeats 400000 in
theorem sync_any (w : World) (S : Nat → Prop) (b : Nat) (v : Value) (f : Fl) (h : FileAt w S b v f) :
    Calls Try.prog 55 #[.pointer (some ⟨b, 0, none⟩)] w fun e w' => e = .returned (.tuple #[]) ∧ w' = w.setCell ⟨b, 1, none⟩ (.int .i64 (f.data.length : Int)) := by
  have c0 := h.c0
  have c1 := h.c1
  have z1 := h.fz 1
  obtain ⟨p, cap, rfl, h1, h2⟩ := h.own.form
  clear h
  generalize f.data.length = L at *
  go_enter Try.func55, Try.ntmps55
  go_wp2
  go_end0
  exact ⟨rfl, rfl⟩

set_option maxHeartbeats 400000 in
theorem read_none (w : World) (S : Nat → Prop) (db : Nat) (D : Dsk) (h : Dk w S db D) (s : List UInt8) (hs : s.length ≤ maxLen) (hn : look s D.files = none) :
    Calls Try.prog 18 #[.pointer (some ⟨db, 0, none⟩), .string ⟨s.toArray⟩] w fun e w' => e = .returned (.tuple #[.slice none 0 0, .int .i64 4]) ∧ w = w' := by
  obtain ⟨mv, loc, dat, h⟩ := h
  have c3 := h.c3
  have HN := Lib.hid hn
  clear hn
  go_enter Try.func18, Try.ntmps18
  go_wp2_with (at_lookup; refine wpList_look_none rfl _ _ rfl h.map s hs HN.out rfl rfl ?_)
  go_ret2
  exact ⟨rfl, rfl⟩

set_option maxHeartbeats 400000 in
theorem read_some (w : World) (S : Nat → Prop) (db : Nat) (D : Dsk) (h : Dk w S db D) (s : List UInt8) (hs : s.length ≤ maxLen) (f : Fl) (hn : look s D.files = some f) :
    Calls Try.prog 18 #[.pointer (some ⟨db, 0, none⟩), .string ⟨s.toArray⟩] w fun e w' => ∃ v, e = .returned (.tuple #[v, .int .i64 0]) ∧ Own w' w.heap.size v f.data ∧ Below w.heap.size w w' := by
  obtain ⟨mv, loc, dat, h⟩ := h
  have c3 := h.c3
  obtain ⟨hm, rfl⟩ := look_some hn
  have hf := h.files.each f hm
  have hl := h.file hm
  have c0 := hf.c0
  have HR := Lib.hid (hf.own.rd (by omega))
  have HN := Lib.hid hn
  clear hn hm hf hl
  generalize dat f.name = v at *
  go_enter Try.func18, Try.ntmps18
  go_wp2_with (first | (at_lookup; refine wpList_look_some rfl _ _ rfl h.map f.name hs HN.out rfl rfl ?_) | (go_at_call 46; refine (clone_any v f.data _ HR.out).mono ?_; rintro e w1 ⟨v1, rfl, ho, hb⟩))
  go_ret2
  exact ⟨v1, rfl, ho, hb⟩
def hasAll (l : List Fl) (names : List (List UInt8)) : Bool := names.all fun s => (look s l).isSome
theorem hasAll_snoc (l : List Fl) (names : List (List UInt8)) (k : Nat) (h : k < names.length) : hasAll l (names.take (k + 1)) = (hasAll l (names.take k) && (look names[k] l).isSome) := by
  unfold hasAll
  rw [take_snoc names k _ (List.getElem?_eq_getElem h), List.all_append]
  simp only [List.all_cons, List.all_nil, Bool.and_true]
theorem hasAll_cut (l : List Fl) (names : List (List UInt8)) (k : Nat) : hasAll l names = (hasAll l (names.take k) && hasAll l (names.drop k)) := by
  unfold hasAll
  rw [← List.all_append, List.take_append_drop]

set_option maxHeartbeats 400000 in
theorem has_any (w : World) (S T : Nat → Prop) (db : Nat) (D : Dsk) (h : Dk w S db D) (v : Value) (names : List (List UInt8)) (hv : RdV w T v (names.map encStr)) (hs : ∀ s ∈ names, s.length ≤ maxLen) :
    Calls Try.prog 53 #[.pointer (some ⟨db, 0, none⟩), v] w fun e w' => e = .returned (.bool (hasAll D.files names)) ∧ w = w' := by
  obtain ⟨mv, loc, dat, h⟩ := h
  have c3 := h.c3
  obtain ⟨p, cap, rfl, hlc, hl47, hcm, hcn, hat⟩ := hv
  rw [List.length_map] at *
  have HS := Lib.hid hs
  have HA := Lib.hid hat
  have HM := Lib.hid h.map
  clear hs hat hcn h
  go_enter Try.func53, Try.ntmps53
  go_wp2_with fail
  go_loop [6, 9] (fun _ i => ∃ k : Nat, k ≤ names.length ∧ i = .int .i64 (k : Int) ∧ Hid (hasAll D.files (names.take k) = true)) (fun _ i => names.length - (intOf i).toNat)
  case atStart => exact ⟨0, by omega, rfl, Lib.hid rfl⟩
  case round =>
    obtain ⟨k, hk, rfl, HB⟩ := hrel
    by_cases hlt : k < names.length
    · obtain ⟨b, off, rfl, hb, hT, hc⟩ := HA.out k (encStr names[k]) (by simp [hlt])
      have HN := Lib.hid (hasAll_snoc D.files names k hlt)
      have HC := Lib.hid (hasAll_cut D.files names (k + 1))
      have hsk := HS.out names[k] (List.getElem_mem hlt)
      generalize names[k] = s at *
      rcases hq : look s D.files with _ | f
      · have HQ := Lib.hid hq
        clear hq
        go_wp2_with (at_lookup; refine wpList_look_none rfl _ _ rfl HM.out s hsk HQ.out rfl rfl ?_)
        go_ret
        refine ⟨ret_bool ?_, rfl⟩
        rw [HC.out, HN.out, HQ.out]
        simp
      · have HQ := Lib.hid hq
        clear hq
        go_wp2_with (at_lookup; refine wpList_look_some rfl _ _ rfl HM.out s hsk HQ.out rfl rfl ?_)
        go_round
        case rel => exact ⟨k + 1, by omega, by go_num, Lib.hid (by rw [HN.out, HB.out, HQ.out]; rfl)⟩
        case measure => simp [intOf]; omega
    · go_wp2_with fail
      go_ret
      refine ⟨ret_bool ?_, rfl⟩
      have h3 := HB.out
      rw [List.take_of_length_le (by omega)] at h3
      exact h3.symm

def flen (ls : List (List UInt8)) : Nat := ls.flatten.length
theorem flen_snoc (ls : List (List UInt8)) (k : Nat) (h : k < ls.length) : flen (ls.take (k + 1)) = flen (ls.take k) + ls[k].length := by
  unfold flen
  rw [take_snoc ls k _ (List.getElem?_eq_getElem h), List.flatten_append, List.length_append]
  congr 1
  simp only [List.flatten_cons, List.flatten_nil, List.append_nil]
theorem flat_snoc (ls : List (List UInt8)) (k : Nat) (h : k < ls.length) : (ls.take (k + 1)).flatten = (ls.take k).flatten ++ ls[k] := by
  rw [take_snoc ls k _ (List.getElem?_eq_getElem h), List.flatten_append]
  congr 1
  simp only [List.flatten_cons, List.flatten_nil, List.append_nil]
theorem flen_take (ls : List (List UInt8)) (k : Nat) : flen (ls.take k) ≤ flen ls := by
  have h : flen ls = flen (ls.take k) + flen (ls.drop k) := by
    unfold flen
    rw [← List.length_append, ← List.flatten_append, List.take_append_drop]
  omega

set_option maxHeartbeats 400000 in
theorem fits_any (w : World) (S T : Nat → Prop) (db : Nat) (D : Dsk) (h : Dk w S db D) (v : Value) (ls : List (List UInt8)) (hv : RdW w T v ls) :
    Calls Try.prog 51 #[.pointer (some ⟨db, 0, none⟩), v] w fun e w' => e = .returned (.bool (decide (used D.files + flen ls ≤ D.size))) ∧ ∃ n, w' = w.drewN n := by
  obtain ⟨mv, loc, dat, h⟩ := h
  have c0 := h.c0
  have c1 := h.c1
  have hroom := h.room
  have hsize := h.size
  obtain ⟨us, hul, hv, hus⟩ := hv
  obtain ⟨p, cap, rfl, hlc, hl47, hcm, hcn, hat⟩ := hv
  rw [hul] at hlc hl47 ⊢
  have HU := Lib.hid hul
  have HA := Lib.hid hat
  have HW := Lib.hid hus
  clear hul hat hus hcn h
  generalize used D.files = U at *
  generalize D.size = Z at *
  have e0 : IntKind.i64.wrap ((Z : Int) - (U : Int)) = (Z : Int) - (U : Int) := IntWalk.i64_in _ (by omega)
  go_enter Try.func51, Try.ntmps51
  go_wp2
  go_quiet (fail)
  clear e0
  go_wp2_with fail
  go_loop [5, 7, 19] (fun r _ i => ∃ k : Nat, k ≤ ls.length ∧ i = .int .i64 (k : Int) ∧ U + flen (ls.take k) ≤ Z ∧ r = .int .i64 ((Z : Int) - (U : Int) - (flen (ls.take k) : Int))) (fun _ _ i => ls.length - (intOf i).toNat)
  case atStart => exact ⟨0, by omega, rfl, by simpa [flen] using hroom, by simp [flen]⟩
  case round =>
    obtain ⟨k, hk, rfl, hU, rfl⟩ := hrel
    by_cases hlt : k < ls.length
    · obtain ⟨b, off, rfl, hb, hT, hc⟩ := HA.out k (us[k]'(by rw [HU.out]; exact hlt)) (List.getElem?_eq_getElem _)
      have hrd := (HW.out k _ _ (List.getElem?_eq_getElem (by rw [HU.out]; exact hlt)) (List.getElem?_eq_getElem hlt)).rd
      have hsn := flen_snoc ls k hlt
      have htk := flen_take ls (k + 1)
      rw [hsn] at htk
      have HSn := Lib.hid hsn
      clear hsn
      generalize us[k]'_ = u at *
      generalize ls[k] = m at *
      generalize flen (ls.take k) = R at *
      obtain ⟨p2, cap2, rfl, hlc2, hl472, hcm2, hat2⟩ := hrd.form
      clear hrd hat2
      by_cases hfit : U + R + m.length ≤ Z
      · go_wp2
        go_round
        case rel => exact ⟨k + 1, by omega, by go_num, by rw [HSn.out]; omega, by rw [HSn.out]; go_num⟩
        case measure => simp [intOf]; omega
      · go_wp2
        go_ret
        refine ⟨ret_bool ?_, _, rfl⟩
        simp
        omega
    · have e : flen (ls.take k) = flen ls := by rw [List.take_of_length_le (by omega)]
      rw [e] at hU
      go_wp2_with fail
      go_ret
      refine ⟨ret_bool ?_, _, rfl⟩
      simp
end Go.Proofs.Ytlekffhacmdnnaa
