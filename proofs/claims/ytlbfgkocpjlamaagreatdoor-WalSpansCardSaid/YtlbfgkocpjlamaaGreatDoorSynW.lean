/-
  The walks over Sync, Delete and Rename.
-/
import Derived.Test.YtlbfgkocpjlamaaGreatDoorMadeW
namespace Go.Proofs.YtlbfgkocpjlamaaGreatDoor
open Go.RowKit

/-- A slice of texts, opened at one place. -/
theorem RdV.at_ {w : World} {S : Nat → Prop} {p : Option Addr} {n cap : Nat} {ss : List (List UInt8)} (h : RdV w S (.slice p n cap) (ss.map encStr)) {k : Nat} (hk : k < ss.length) :
    ∃ b off, p = some ⟨b, off, none⟩ ∧ b < w.heap.size ∧ ¬ S b ∧ w.cell? ⟨b, off + k, none⟩ = some (.string ⟨ss[k].toArray⟩) := by
  obtain ⟨p', cap', e, _, _, _, _, h5⟩ := h
  injection e with e1 e2 e3
  obtain ⟨b, off, e4, hb, hs, hc⟩ := h5 k (encStr ss[k]) (by simp [hk])
  exact ⟨b, off, e1.trans e4, hb, hs, hc⟩
theorem RdV.atv {w : World} {S : Nat → Prop} {p : Option Addr} {n cap : Nat} {xs : List Value} (h : RdV w S (.slice p n cap) xs) {k : Nat} {x : Value} (hk : xs[k]? = some x) :
    ∃ b off, p = some ⟨b, off, none⟩ ∧ b < w.heap.size ∧ ¬ S b ∧ w.cell? ⟨b, off + k, none⟩ = some x := by
  obtain ⟨p', cap', e, _, _, _, _, h5⟩ := h
  injection e with e1 e2 e3
  obtain ⟨b, off, e4, hb, hs, hc⟩ := h5 k x hk
  exact ⟨b, off, e1.trans e4, hb, hs, hc⟩
theorem RdV.form {w : World} {S : Nat → Prop} {v : Value} {xs : List Value} (h : RdV w S v xs) : ∃ p cap, v = .slice p xs.length cap ∧ xs.length ≤ cap ∧ xs.length ≤ 140737488355328 ∧ cap ≤ 9223372036854775807 := by
  obtain ⟨p, cap, e, h1, h2, h3, _, _⟩ := h
  exact ⟨p, cap, e, h1, h2, h3⟩
theorem RdV.formS {w : World} {S : Nat → Prop} {v : Value} {ss : List (List UInt8)} (h : RdV w S v (ss.map encStr)) : ∃ p cap, v = .slice p ss.length cap ∧ ss.length ≤ cap ∧ ss.length ≤ 140737488355328 ∧ cap ≤ 9223372036854775807 := by
  have := h.form
  simpa using this

set_option maxHeartbeats 400000 in
theorem sync_no (w : World) (S T : Nat → Prop) (db : Nat) (D : Dsk) (h : Dk w S db D) (v : Value) (names : List (List UInt8)) (hv : RdV w T v (names.map encStr)) (hs : ∀ s ∈ names, s.length ≤ maxLen) (hn : hasAll D.files names = false) :
    Calls Tryz.prog 28 #[.pointer (some ⟨db, 0, none⟩), v] w fun e w' => e = .returned (.int .i64 4) ∧ w = w' := by
  have HC := has_any w S T db D h v names hv hs
  rw [hn] at HC
  clear hn
  go_enter Tryz.func28, Tryz.ntmps28
  go_wp2_with fail
  refine HC.mono ?_
  rintro e w' ⟨rfl, rfl⟩
  go_wp2_with fail
  go_ret
  exact ⟨rfl, rfl⟩
set_option maxHeartbeats 400000 in
theorem delete_no (w : World) (S T : Nat → Prop) (db : Nat) (D : Dsk) (h : Dk w S db D) (v : Value) (names : List (List UInt8)) (hv : RdV w T v (names.map encStr)) (hs : ∀ s ∈ names, s.length ≤ maxLen) (hn : hasAll D.files names = false) :
    Calls Tryz.prog 29 #[.pointer (some ⟨db, 0, none⟩), v] w fun e w' => e = .returned (.int .i64 4) ∧ w = w' := by
  have HC := has_any w S T db D h v names hv hs
  rw [hn] at HC
  clear hn
  go_enter Tryz.func29, Tryz.ntmps29
  go_wp2_with fail
  refine HC.mono ?_
  rintro e w' ⟨rfl, rfl⟩
  go_wp2_with fail
  go_ret
  exact ⟨rfl, rfl⟩

theorem remove_any (w : World) (S : Nat → Prop) (db : Nat) (D : Dsk) (h : Dk w S db D) (s : List UInt8) (hs : s.length ≤ maxLen) :
    Calls Tryz.prog 49 #[.pointer (some ⟨db, 0, none⟩), .string ⟨s.toArray⟩] w fun e w' => e = .returned (.tuple #[]) ∧ Dk w' S db (del1 D s) ∧ Fr S w w' := by
  rcases e : look s D.files with _ | f
  · have e1 : del1 D s = D := by unfold del1; rw [del_none e]
    rw [e1]
    refine (remove_none w S db D h s hs e).mono ?_
    rintro e w' ⟨rfl, rfl⟩
    exact ⟨rfl, h, Fr.refl _ _⟩
  · obtain ⟨mv, loc, dat, hd⟩ := h
    refine (remove_some w S db D mv loc dat hd s hs f e).mono ?_
    rintro e w' ⟨rfl, hd2, hf⟩
    exact ⟨rfl, ⟨mv, loc, dat, hd2⟩, hf.mono fun k _ hk => hd.dblk k hk⟩

set_option maxHeartbeats 1000000 in
theorem delete_yes (w : World) (S : Nat → Prop) (db : Nat) (D : Dsk) (h : Dk w S db D) (v : Value) (names : List (List UInt8)) (hv : RdV w S v (names.map encStr)) (hs : ∀ s ∈ names, s.length ≤ maxLen) (hn : hasAll D.files names = true) :
    Calls Tryz.prog 29 #[.pointer (some ⟨db, 0, none⟩), v] w fun e w' => e = .returned (.int .i64 0) ∧ Dk w' S db (dels D names) ∧ Fr S w w' := by
  have HC := has_any w S S db D h v names hv hs
  rw [hn] at HC
  have HH := Lib.hid h
  have HV := Lib.hid hv
  have HS := Lib.hid hs
  obtain ⟨p, cap, rfl, hlc, hl47, hcm⟩ := hv.formS
  clear hn h hs hv
  go_enter Tryz.func29, Tryz.ntmps29
  go_wp2_with fail
  refine HC.mono ?_
  rintro e w' ⟨rfl, rfl⟩
  clear HC
  go_wp2_with fail
  go_loopw [6, 13] (fun _ i wr => ∃ k : Nat, k ≤ names.length ∧ i = .int .i64 (k : Int) ∧ Hid (Dk wr S db (dels D (names.take k)) ∧ Fr S w wr)) (fun _ i _ => names.length - (intOf i).toNat)
  case atStart => exact ⟨0, by omega, rfl, Lib.hid ⟨HH.out, Fr.refl _ _⟩⟩
  case round =>
    obtain ⟨k, hk, rfl, HR⟩ := hrel
    by_cases hlt : k < names.length
    · obtain ⟨hd, hfr⟩ := HR.out
      obtain ⟨b, off, rfl, hb, hT, hc⟩ := (HV.out.same hfr).at_ hlt
      have HF := Lib.hid (fold_snoc del1 D names k hlt)
      have hsl := HS.out names[k] (List.getElem_mem hlt)
      generalize names[k] = s at *
      have HD := Lib.hid hd
      have HFr := Lib.hid hfr
      clear hd hfr
      go_wp2_with fail
      refine (remove_any wr S db _ HD.out s hsl).mono ?_
      rintro e w1 ⟨rfl, hd1, hf1⟩
      have HD1 := Lib.hid hd1
      have HF1 := Lib.hid hf1
      clear hd1 hf1
      go_wp2_with fail
      go_roundw
      case rel => exact ⟨k + 1, by omega, by go_num, Lib.hid ⟨by unfold dels; rw [HF.out]; exact HD1.out, HFr.out.then HF1.out⟩⟩
      case measure => simp [intOf]; omega
    · go_wp2_with fail
      go_ret
      obtain ⟨hd, hfr⟩ := HR.out
      rw [List.take_of_length_le (by omega)] at hd
      exact ⟨rfl, hd, hfr⟩

theorem sync1_eq {D : Dsk} {s : List UInt8} {f : Fl} (e : fileOf D s = f) : sync1 D s = { D with files := put ⟨s, f.data, f.data.length⟩ D.files } := by
  subst e
  rfl
theorem hasAll_mem {l : List Fl} {names : List (List UInt8)} (h : hasAll l names = true) {s : List UInt8} (hs : s ∈ names) : (look s l).isSome = true := List.all_eq_true.1 h s hs
theorem syncs_has {D : Dsk} (h : Srt D.files) (names : List (List UInt8)) {s : List UInt8} (hs : (look s D.files).isSome = true) : Srt (syncs D names).files ∧ (look s (syncs D names).files).isSome = true := by
  induction names generalizing D with
  | nil => exact ⟨h, hs⟩
  | cons t r ih => exact ih (h.put _) (by rw [look_sync1 D h t s, hs]; rfl)

set_option maxHeartbeats 1000000 in
theorem sync_yes (w : World) (S : Nat → Prop) (db : Nat) (D : Dsk) (h : Dk w S db D) (v : Value) (names : List (List UInt8)) (hv : RdV w S v (names.map encStr)) (hs : ∀ s ∈ names, s.length ≤ maxLen) (hn : hasAll D.files names = true) :
    Calls Tryz.prog 28 #[.pointer (some ⟨db, 0, none⟩), v] w fun e w' => e = .returned (.int .i64 0) ∧ Dk w' S db (syncs D names) ∧ Fr S w w' := by
  have HC := has_any w S S db D h v names hv hs
  have HN := Lib.hid hn
  rw [hn] at HC
  have HH := Lib.hid h
  have HV := Lib.hid hv
  have HS := Lib.hid hs
  have HSrt : Hid (Srt D.files) := Lib.hid (by obtain ⟨_, _, _, hd⟩ := h; exact hd.srt)
  obtain ⟨p, cap, rfl, hlc, hl47, hcm⟩ := hv.formS
  clear hn h hs hv
  go_enter Tryz.func28, Tryz.ntmps28
  go_wp2_with fail
  refine HC.mono ?_
  rintro e w' ⟨rfl, rfl⟩
  clear HC
  go_wp2_with fail
  go_loopw [6, 13] (fun _ i wr => ∃ k : Nat, k ≤ names.length ∧ i = .int .i64 (k : Int) ∧ Hid (Dk wr S db (syncs D (names.take k)) ∧ Fr S w wr)) (fun _ i _ => names.length - (intOf i).toNat)
  case atStart => exact ⟨0, by omega, rfl, Lib.hid ⟨HH.out, Fr.refl _ _⟩⟩
  case round =>
    obtain ⟨k, hk, rfl, HR⟩ := hrel
    by_cases hlt : k < names.length
    · obtain ⟨hd, hfr⟩ := HR.out
      obtain ⟨b, off, rfl, hb, hT, hc⟩ := (HV.out.same hfr).at_ hlt
      have HF := Lib.hid (fold_snoc sync1 D names k hlt)
      have hsl := HS.out names[k] (List.getElem_mem hlt)
      have hhas := (syncs_has HSrt.out (names.take k) (hasAll_mem HN.out (List.getElem_mem hlt))).2
      generalize names[k] = s at *
      obtain ⟨f, hf⟩ := Option.isSome_iff_exists.1 hhas
      obtain ⟨mv, loc, dat, hd⟩ := hd
      have c3 := hd.c3
      have HFO := Lib.hid (fileOf_look hf)
      obtain ⟨hfm, hfn⟩ := look_some hf
      have HL := Lib.hid hf
      have HS1 := Lib.hid (hd.sync hfm)
      have HSC := Lib.hid (sync_any wr S (loc f.name) (dat f.name) f (hd.files.each f hfm))
      have HFN := Lib.hid hfn
      have HD := Lib.hid hd
      have HFr := Lib.hid hfr
      clear hd hfr hf hfm hfn hhas
      go_wp2_with (first | (at_lookup; refine wpList_look_some rfl _ _ rfl HD.out.map s hsl HL.out rfl rfl ?_))
      rw [← HFN.out]
      refine HSC.out.mono ?_
      rintro e w1 ⟨rfl, rfl⟩
      rw [HFN.out]
      go_wp2_with fail
      go_roundw
      case rel =>
        refine ⟨k + 1, by omega, by go_num, Lib.hid ⟨?_, HFr.out.then (by rw [← HFN.out]; exact HS1.out.2)⟩⟩
        unfold syncs
        rw [HF.out]
        have := HS1.out.1
        refine ⟨mv, loc, upd dat f.name (dat f.name), ?_⟩
        have e1 : fileOf ((names.take k).foldl sync1 D) s = f := HFO.out
        rw [sync1_eq e1, ← HFN.out]
        exact this
      case measure => simp [intOf]; omega
    · go_wp2_with fail
      go_ret
      obtain ⟨hd, hfr⟩ := HR.out
      rw [List.take_of_length_le (by omega)] at hd
      exact ⟨rfl, hd, hfr⟩
end Go.Proofs.YtlbfgkocpjlamaaGreatDoor
