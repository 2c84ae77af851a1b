/-
  The walk over Append: the parts stand behind the file's bytes, the file is made if there was none; or nothing has changed.
-/
import Derived.Test.YtlbfgkocpjlamaaGreatDoorMadeW
namespace Go.Proofs.YtlbfgkocpjlamaaGreatDoor
open Go.RowKit

set_option maxHeartbeats 400000 in
theorem append_arg (w : World) (db : Nat) (s : List UInt8) (hs : s.length ≤ 140737488355328) (v : Value) (hn : isName s = false) :
    Calls Tryz.prog 25 #[.pointer (some ⟨db, 0, none⟩), .string ⟨s.toArray⟩, v] w fun e w' => e = .returned (.int .i64 1) ∧ w = w' := by
  have HC := name_any s w hs
  rw [hn] at HC
  clear hn
  go_enter Tryz.func25, Tryz.ntmps25
  go_wp2_with fail
  refine HC.mono ?_
  rintro e w' ⟨rfl, rfl⟩
  go_wp2_with fail
  go_ret
  exact ⟨rfl, rfl⟩

set_option maxHeartbeats 400000 in
theorem append_full (w : World) (S T : Nat → Prop) (db : Nat) (D : Dsk) (h : Dk w S db D) (s : List UInt8) (v : Value) (ls : List (List UInt8)) (hv : RdW w T v ls) (hn : isName s = true) (hf : ¬ used D.files + flen ls ≤ D.size) :
    Calls Tryz.prog 25 #[.pointer (some ⟨db, 0, none⟩), .string ⟨s.toArray⟩, v] w fun e w' => e = .returned (.int .i64 5) ∧ ∃ n, w' = w.drewN n := by
  have hsl := isName_len hn
  have HC := name_any s w (by omega)
  have HF := fits_any w S T db D h v ls hv
  rw [hn] at HC
  rw [decide_eq_false hf] at HF
  have HH := Lib.hid h
  clear hn hf h
  go_enter Tryz.func25, Tryz.ntmps25
  go_wp2_with fail
  refine HC.mono ?_
  rintro e w' ⟨rfl, rfl⟩
  clear HC
  go_wp2_with fail
  refine HF.mono ?_
  rintro e w' ⟨rfl, n, rfl⟩
  clear HF
  go_wp2_with fail
  go_ret
  exact ⟨rfl, n, rfl⟩

set_option maxRecDepth 100000 in
set_option maxHeartbeats 1000000 in
theorem append_some (w : World) (S : Nat → Prop) (db : Nat) (D : Dsk) (h : Dk w S db D) (s : List UInt8) (v : Value) (ls : List (List UInt8)) (hv : RdW w S v ls) (hn : isName s = true) (hf : used D.files + flen ls ≤ D.size) (hcnt : D.files.length < 4611686018427387904) :
    Calls Tryz.prog 25 #[.pointer (some ⟨db, 0, none⟩), .string ⟨s.toArray⟩, v] w fun e w' => e = .returned (.int .i64 0) ∧ Dk w' (More S w.heap.size) db (app D s ls.flatten) ∧ Fr S w w' := by
  have hsl := isName_len hn
  have HC := name_any s w (by omega)
  have HF := fits_any w S S db D h v ls hv
  rw [hn] at HC
  rw [decide_eq_true hf] at HF
  have HH := Lib.hid h
  have HV := Lib.hid hv
  obtain ⟨us, hul, hva, hus⟩ := hv
  obtain ⟨p, cap, rfl, hlc, hl47, hcm, hcn, hat⟩ := hva
  rw [hul] at hlc hl47 HF ⊢
  rw [hul] at HV
  clear hn h hat hus hcn hul us
  go_enter Tryz.func25, Tryz.ntmps25
  go_wp2_with fail
  refine HC.mono ?_
  rintro e w' ⟨rfl, rfl⟩
  clear HC
  go_wp2_with fail
  refine HF.mono ?_
  rintro e w' ⟨rfl, n, rfl⟩
  clear HF
  go_wp2_with fail
  refine (made_any (w.drewN n) S db D (HH.out.step ((Fr.refl (fun _ => False) w).drewN n) (fun _ _ _ hf => hf) (fun _ _ hs => hs)) s hsl hcnt).mono ?_
  rintro e w1 ⟨mv, loc, dat, rfl, hd1, hf1⟩
  have HD1 := Lib.hid hd1
  have hf1' : Fr S w w1 := ((Fr.refl S w).drewN n).then hf1
  have HF1 := Lib.hid hf1'
  clear hd1 hf1 hf1'
  go_wp2_with fail
  have hsrt : Hid (Srt D.files) := Lib.hid (by obtain ⟨_, _, _, hd⟩ := HH.out; exact hd.srt)
  have hmu : Hid (∀ k, used (put ⟨s, (fileOf D s).data ++ (ls.take k).flatten, (fileOf D s).synced⟩ (made D s).files) = used D.files + flen (ls.take k)) := Lib.hid (made_used D hsrt.out s fun k => (ls.take k).flatten)
  have hsz := made_size D s
  have HSZ := Lib.hid hsz.1
  have hDs : D.size ≤ 1073741824 := by obtain ⟨_, _, _, hd⟩ := HH.out; exact hd.size
  clear hsz
  go_loopw [9, 22] (fun _ i wr => ∃ (k : Nat) (dat : List UInt8 → Value), k ≤ ls.length ∧ i = .int .i64 (k : Int) ∧ Hid (DkAt wr (More S w.heap.size) db { made D s with files := put ⟨s, (fileOf D s).data ++ (ls.take k).flatten, (fileOf D s).synced⟩ (made D s).files } mv loc dat ∧ Fr S w wr)) (fun _ i _ => ls.length - (intOf i).toNat)
  case atStart =>
    refine ⟨0, dat, by omega, rfl, Lib.hid ⟨?_, HF1.out⟩⟩
    have e1 := look_some (look_made D hsrt.out s)
    have e2 : (⟨s, (fileOf D s).data ++ (ls.take 0).flatten, (fileOf D s).synced⟩ : Fl) = fileOf D s := by
      rw [List.take_zero, List.flatten_nil, List.append_nil, fileOf_eta]
    rw [e2, put_self HD1.out.srt e1.1]
    exact HD1.out
  case round =>
    obtain ⟨k, dat, hk, rfl, HR⟩ := hrel
    by_cases hlt : k < ls.length
    · obtain ⟨hd, hfr⟩ := HR.out
      obtain ⟨b, off, u, rfl, hb, hT, hc, hru⟩ := (HV.out.step hfr (T := More S w.heap.size) (fun k hk hm => hm.resolve_right (by omega))).at_ hlt
      have hfm : (⟨s, (fileOf D s).data ++ (ls.take k).flatten, (fileOf D s).synced⟩ : Fl) ∈ put ⟨s, (fileOf D s).data ++ (ls.take k).flatten, (fileOf D s).synced⟩ (made D s).files := mem_put.2 (.inl rfl)
      have hfa := hd.files.each _ hfm
      have c0 : wr.cell? ⟨loc s, 0, none⟩ = some (dat s) := cell_of hfa.blk rfl
      obtain ⟨X, hX⟩ : ∃ X, used (put ⟨s, (fileOf D s).data ++ (ls.take k).flatten, (fileOf D s).synced⟩ (made D s).files) = X := ⟨_, rfl⟩
      have hX2 := hmu.out k
      rw [hX] at hX2
      have hsn := flen_snoc ls k hlt
      have htk := flen_take ls (k + 1)
      have hfl : (fileOf D s).data.length + (ls.take k).flatten.length ≤ 1073741824 := by
        have := hd.file hfm
        simpa using this
      have HSN : Hid ((ls.take (k + 1)).flatten = (ls.take k).flatten ++ ls[k]) := Lib.hid (flat_snoc ls k hlt)
      generalize ls[k] = m at *
      have hXr : X + m.length ≤ D.size := by omega
      have HRU := Lib.hid hru.rd
      have HX := Lib.hid hX
      have HFM := Lib.hid hfm
      have HFA := Lib.hid hfa.own
      obtain ⟨p2, cap2, rfl, hlc2, hl472, hcm2, hat2⟩ := hru.rd.form
      have HD := Lib.hid hd
      have HFr := Lib.hid hfr
      have hws := hfr.size
      clear hat2 hru hfa hd hfr hfm hX hX2 hsn htk
      go_wp2_with (first
        | (at_builtin; refine wpList_append_rd_at rfl _ _ rfl 0 wr.heap.size _ _ _ m rfl HFA.out rfl HRU.out (by simp only [List.length_append]; omega) (Nat.zero_le _) ?_; intro v1 w1 hown1 hg1 hat1; obtain ⟨n3, p3, cap3, rfl⟩ := hown1.shape; obtain ⟨b1, b2, b3⟩ := HD.out.behind HFM.out hg1 (.slice p3 n3 cap3); have c0b : w1.cell? ⟨loc s, 0, none⟩ = some (dat s) := cell_of b1 rfl; have z0b : w1.frozen? ⟨loc s, 0, none⟩ = false := frozen_of b1; have c1b : (w1.setCell ⟨loc s, 0, none⟩ (.slice p3 n3 cap3)).cell? ⟨db, 1, none⟩ = some (.int .i64 (X : Int)) := by rw [← HX.out]; exact cell_of b3 rfl
           have z1b : (w1.setCell ⟨loc s, 0, none⟩ (.slice p3 n3 cap3)).frozen? ⟨db, 1, none⟩ = false := frozen_of b3; have HG := Lib.hid hg1; have HAT := Lib.hid hat1; clear b1 b2 b3 hg1 hat1))
      go_roundw
      case rel =>
        have hw : ((w1.setCell ⟨loc s, 0, none⟩ (.slice p3 n3 cap3)).setCell ⟨db, 1, none⟩ (.int .i64 ((X : Int) + (m.length : Int)))) = (w1.setCell ⟨loc s, 0, none⟩ (.slice p3 n3 cap3)).setCell ⟨db, 1, none⟩ (.int .i64 ((used (put ⟨s, (fileOf D s).data ++ (ls.take k).flatten, (fileOf D s).synced⟩ (made D s).files) : Int) + (m.length : Int))) := by rw [HX.out]
        obtain ⟨hd2, hf2⟩ := HD.out.grow HFM.out hown1 HG.out HAT.out hw (fun k hk => .inr (Nat.le_trans hws hk)) (by rw [HX.out]; show X + m.length ≤ (made D s).size; rw [HSZ.out]; exact hXr)
        refine ⟨k + 1, upd dat s (.slice p3 n3 cap3), by omega, by go_num, Lib.hid ⟨?_, HFr.out.trans hf2⟩⟩
        rw [HSN.out, ← List.append_assoc]
        have e1 : put (⟨s, (fileOf D s).data ++ (ls.take k).flatten ++ m, (fileOf D s).synced⟩ : Fl) (put ⟨s, (fileOf D s).data ++ (ls.take k).flatten, (fileOf D s).synced⟩ (made D s).files) = put ⟨s, (fileOf D s).data ++ (ls.take k).flatten ++ m, (fileOf D s).synced⟩ (made D s).files := put_put HD1.out.srt rfl
        rw [← e1]
        exact hd2
      case measure => simp [intOf]; omega
    · go_wp2_with fail
      go_ret
      obtain ⟨hd, hfr⟩ := HR.out
      rw [List.take_of_length_le (by omega), made_app D hsrt.out] at hd
      exact ⟨rfl, ⟨mv, loc, dat, hd⟩, hfr⟩
end Go.Proofs.YtlbfgkocpjlamaaGreatDoor
