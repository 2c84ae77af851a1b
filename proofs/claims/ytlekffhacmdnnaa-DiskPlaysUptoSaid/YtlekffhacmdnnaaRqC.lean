/-
  The walks over the reference's Sync and Delete.
-/
import Derived.Test.YtlekffhacmdnnaaRqA
namespace Go.Proofs.Ytlekffhacmdnnaa
open Go.RowKit

set_option maxHeartbeats 400000 in
theorem rsync_no (w : World) (S T : Nat → Prop) (rb : Nat) (D : Dsk) (h : Rf w S rb D) (v : Value) (names : List (List UInt8)) (hv : RdV w T v (names.map encStr)) (hn : hasAll D.files names = false) :
    Calls Try.prog 34 #[.pointer (some ⟨rb, 0, none⟩), v] w fun e w' => e = .returned (.int .i64 4) ∧ ∃ n, w' = w.drewN n := by
  have HC := rall_any w S T rb D h v names hv
  rw [hn] at HC
  clear hn
  go_enter Try.func34, Try.ntmps34
  go_wp2_with fail
  refine HC.mono ?_
  rintro e w' ⟨rfl, n, rfl⟩
  go_wp2_with fail
  go_ret
  exact ⟨rfl, n, rfl⟩
set_option maxHeartbeats 400000 in
theorem rdelete_no (w : World) (S T : Nat → Prop) (rb : Nat) (D : Dsk) (h : Rf w S rb D) (v : Value) (names : List (List UInt8)) (hv : RdV w T v (names.map encStr)) (hn : hasAll D.files names = false) :
    Calls Try.prog 36 #[.pointer (some ⟨rb, 0, none⟩), v] w fun e w' => e = .returned (.int .i64 4) ∧ ∃ n, w' = w.drewN n := by
  have HC := rall_any w S T rb D h v names hv
  rw [hn] at HC
  clear hn
  go_enter Try.func36, Try.ntmps36
  go_wp2_with fail
  refine HC.mono ?_
  rintro e w' ⟨rfl, n, rfl⟩
  go_wp2_with fail
  go_ret
  exact ⟨rfl, n, rfl⟩

theorem drop_any (w : World) (S : Nat → Prop) (rb : Nat) (D : Dsk) (h : Rf w S rb D) (s : List UInt8) (hcnt : D.files.length ≤ 1099511627775) :
    Calls Try.prog 59 #[.pointer (some ⟨rb, 0, none⟩), .string ⟨s.toArray⟩] w fun e w' => e = .returned (.tuple #[]) ∧ Rf w' (More S w.heap.size) rb (del1 D s) ∧ Fr (fun k => k = rb) w w' := by
  rcases e : look s D.files with _ | f
  · have e1 : del1 D s = D := by unfold del1; rw [del_none e]
    rw [e1]
    refine (drop_none w S rb D h s e).mono ?_
    rintro e w' ⟨rfl, n, rfl⟩
    exact ⟨rfl, (h.drewN n).mono fun _ _ hs => .inl hs, (Fr.refl _ _).drewN n⟩
  · exact drop_some w S rb D h s f e hcnt
theorem dels_len (D : Dsk) (names : List (List UInt8)) : (dels D names).files.length ≤ D.files.length := by
  induction names generalizing D with
  | nil => exact Nat.le_refl _
  | cons s r ih => exact Nat.le_trans (ih _) (List.length_filter_le _ _)

set_option maxRecDepth 100000 in
set_option maxHeartbeats 1000000 in
theorem rdelete_yes (w : World) (S : Nat → Prop) (rb : Nat) (D : Dsk) (h : Rf w S rb D) (v : Value) (names : List (List UInt8)) (hv : RdV w S v (names.map encStr)) (hn : hasAll D.files names = true) (hcnt : D.files.length ≤ 1099511627775) :
    Calls Try.prog 36 #[.pointer (some ⟨rb, 0, none⟩), v] w fun e w' => e = .returned (.int .i64 0) ∧ Rf w' (More S w.heap.size) rb (dels D names) ∧ Fr S w w' := by
  have HC := rall_any w S S rb D h v names hv
  rw [hn] at HC
  have HH := Lib.hid h
  have HV := Lib.hid hv
  obtain ⟨p, cap, rfl, hlc, hl47, hcm⟩ := hv.formS
  clear hn h hv
  go_enter Try.func36, Try.ntmps36
  go_wp2_with fail
  refine HC.mono ?_
  rintro e w' ⟨rfl, n0, rfl⟩
  clear HC
  go_wp2_with fail
  go_loopw [5] (fun i wr => ∃ k : Nat, k ≤ names.length ∧ i = .int .i64 (k : Int) ∧ Hid (Rf wr (More S w.heap.size) rb (dels D (names.take k)) ∧ Fr S w wr)) (fun i _ => names.length - (intOf i).toNat)
  case atStart => exact ⟨0, by omega, rfl, Lib.hid ⟨(HH.out.drewN n0).mono fun _ _ hs => .inl hs, (Fr.refl _ _).drewN n0⟩⟩
  case round =>
    obtain ⟨k, hk, rfl, HR⟩ := hrel
    by_cases hlt : k < names.length
    · obtain ⟨hd, hfr⟩ := HR.out
      obtain ⟨b, off, rfl, hb, hT, hc⟩ := (HV.out.same hfr).at_ hlt
      have HF := Lib.hid (fold_snoc del1 D names k hlt)
      have hln := dels_len D (names.take k)
      generalize names[k] = s at *
      have HD := Lib.hid hd
      have HFr := Lib.hid hfr
      clear hd hfr
      go_wp2_with fail
      refine (drop_any wr _ rb _ HD.out s (by omega)).mono ?_
      rintro e w1 ⟨rfl, hd1, hf1⟩
      have HD1 := Lib.hid hd1
      have HF1 := Lib.hid hf1
      clear hd1 hf1
      go_wp2_with fail
      go_roundw
      case rel =>
        have hrs : S rb := HH.out.inS
        have hsz := HFr.out.size
        exact ⟨k + 1, by omega, by go_num, Lib.hid ⟨by
          unfold dels
          rw [HF.out]
          exact HD1.out.mono fun j _ hj => hj.elim id fun hle => .inr (Nat.le_trans hsz hle), HFr.out.then (HF1.out.mono fun j _ hj => by rw [hj]; exact hrs)⟩⟩
      case measure => simp [intOf]; omega
    · go_wp2_with fail
      go_ret
      obtain ⟨hd, hfr⟩ := HR.out
      rw [List.take_of_length_le (by omega)] at hd
      exact ⟨rfl, hd, hfr⟩

set_option maxRecDepth 100000 in
set_option maxHeartbeats 1000000 in
theorem rsync_yes (w : World) (S : Nat → Prop) (rb : Nat) (D : Dsk) (h : Rf w S rb D) (v : Value) (names : List (List UInt8)) (hv : RdV w S v (names.map encStr)) (hn : hasAll D.files names = true) :
    Calls Try.prog 34 #[.pointer (some ⟨rb, 0, none⟩), v] w fun e w' => e = .returned (.int .i64 0) ∧ Rf w' S rb (syncs D names) ∧ Fr S w w' := by
  have HC := rall_any w S S rb D h v names hv
  have HN := Lib.hid hn
  rw [hn] at HC
  have HH := Lib.hid h
  have HV := Lib.hid hv
  have HSrt := Lib.hid h.srt
  obtain ⟨p, cap, rfl, hlc, hl47, hcm⟩ := hv.formS
  clear hn h hv
  go_enter Try.func34, Try.ntmps34
  go_wp2_with fail
  refine HC.mono ?_
  rintro e w' ⟨rfl, n0, rfl⟩
  clear HC
  go_wp2_with fail
  go_loopw [5, 6, 7] (fun i _ _ wr => ∃ k : Nat, k ≤ names.length ∧ i = .int .i64 (k : Int) ∧ Hid (Rf wr S rb (syncs D (names.take k)) ∧ Fr S w wr)) (fun i _ _ _ => names.length - (intOf i).toNat)
  case atStart => exact ⟨0, by omega, rfl, Lib.hid ⟨HH.out.drewN n0, (Fr.refl _ _).drewN n0⟩⟩
  case round =>
    obtain ⟨k, hk, rfl, HR⟩ := hrel
    by_cases hlt : k < names.length
    · obtain ⟨hd, hfr⟩ := HR.out
      obtain ⟨b, off, rfl, hb, hT, hc⟩ := (HV.out.same hfr).at_ hlt
      have HF := Lib.hid (fold_snoc sync1 D names k hlt)
      have hhas := (syncs_has HSrt.out (names.take k) (hasAll_mem HN.out (List.getElem_mem hlt))).2
      generalize names[k] = s at *
      obtain ⟨f, hf⟩ := Option.isSome_iff_exists.1 hhas
      have HFd := find_any wr S rb _ hd s
      rw [hf] at HFd
      have HFr := Lib.hid hfr
      have HFO := Lib.hid (fileOf_look hf)
      obtain ⟨fv, us, hd⟩ := hd
      obtain ⟨E, hE⟩ : ∃ E, syncs D (names.take k) = E := ⟨_, rfl⟩
      rw [hE] at hd hf HFd HFO
      have c1 := hd.c1
      have hpa := plc_at hd.srt hf
      have hPlt := plc_lt hd.srt hf
      have HL := Lib.hid hf
      obtain ⟨p3, cap3, rfl, hlc3, hcm3, hat⟩ := hd.form
      obtain ⟨g, u, rfl, d0, d1, d2, hu, hin⟩ := hat _ f hpa
      obtain ⟨p4, cap4, rfl, hlc4, hl474, hcm4, _⟩ := hin.rd.form
      obtain ⟨cur, hcur⟩ := hd.heap (k := g) rfl
      have z2 : wr.frozen? ⟨g, plc s E.files * 3 + 2, none⟩ = false := frozen_of hcur
      have HS1 : ∀ n, Hid (Rf ((wr.drewN n).setCell ⟨g, plc s E.files * 3 + 2, none⟩ (.int .i64 (f.data.length : Int))) S rb { E with files := put ⟨s, f.data, f.data.length⟩ E.files } ∧ Fr S wr ((wr.drewN n).setCell ⟨g, plc s E.files * 3 + 2, none⟩ (.int .i64 (f.data.length : Int)))) := fun n => by
        obtain ⟨h1, h2⟩ := (hd.drewN n).syncAt hf
        exact Lib.hid ⟨⟨_, _, h1⟩, ((Fr.refl S wr).drewN n).then h2⟩
      have HE := Lib.hid hE
      clear hd hfr hf hhas hat hpa hu hin hcur hE
      generalize hP : plc s E.files = P at *
      generalize hZ : E.files.length = Z at *
      clear hP hZ
      go_wp2_with fail
      refine HFd.mono ?_
      rintro e w1 ⟨rfl, n1, rfl⟩
      clear HFd
      go_wp2_with fail
      go_region
      all_goals
        go_wp2_with fail
        go_roundw
        case rel =>
          refine ⟨k + 1, by omega, by go_num, Lib.hid ⟨?_, HFr.out.then (HS1 (n1 + 1)).out.2⟩⟩
          unfold syncs at HE ⊢
          rw [HF.out, HE.out, sync1_eq HFO.out]
          exact (HS1 (n1 + 1)).out.1
        case measure => simp [intOf]; omega
    · go_wp2_with fail
      go_ret
      obtain ⟨hd, hfr⟩ := HR.out
      rw [List.take_of_length_le (by omega)] at hd
      exact ⟨rfl, hd, hfr⟩
end Go.Proofs.Ytlekffhacmdnnaa
