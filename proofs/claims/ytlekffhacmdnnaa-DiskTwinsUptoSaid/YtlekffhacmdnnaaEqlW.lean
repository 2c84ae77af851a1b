/-
  The walk over equal.
-/
import Derived.Test.YtlekffhacmdnnaaPlyW
namespace Go.Proofs.Ytlekffhacmdnnaa
open Go.RowKit

set_option maxRecDepth 100000 in
set_option maxHeartbeats 4000000 in
theorem equal_any (w : World) (S1 S2 : Nat → Prop) (xa xb : Nat) (D : Dsk) (h1 : Dk w S1 xa D) (h2 : Dk w S2 xb D) (hcnt : D.files.length ≤ 1099511627776) :
    Calls Try.prog 28 #[.pointer (some ⟨xa, 0, none⟩), .pointer (some ⟨xb, 0, none⟩)] w fun e w' => e = .returned (.bool true) ∧ Below w.heap.size w w' := by
  have hlen : (namesOf D.files).length = D.files.length := by simp [namesOf]
  have HSrt := Lib.hid h1.srt
  have HNms := Lib.hid h1.names
  have HRoom := Lib.hid h1.room
  have HLes := Lib.hid h1.le
  have HL1 := Lib.hid (list_any w S1 xa D h1 0 none hcnt)
  have HD1 := Lib.hid h1
  have HD2 := Lib.hid h2
  clear h1 h2
  go_enter Try.func28, Try.ntmps28
  go_wp2_with fail
  refine HL1.out.mono ?_
  rintro e w1 ⟨v1, rfl, ho1, hb1⟩
  have HL2 := Lib.hid (list_any w1 S2 xb D (HD2.out.after hb1) 0 none hcnt)
  obtain ⟨p1, c1, rfl, hc1, hm1⟩ := ho1.shape
  have HO1 : Hid (RdV w1 (fun _ => False) (.slice p1 (namesOf D.files).length c1) ((namesOf D.files).map encStr)) := Lib.hid (ho1.rdv (by omega) fun _ _ _ hf => hf)
  have HB1 := Lib.hid hb1
  clear ho1 hb1 HL1
  go_wp2_with fail
  refine HL2.out.mono ?_
  rintro e w2 ⟨v2, rfl, ho2, hb2⟩
  obtain ⟨p2, c2, rfl, hc2, hm2⟩ := ho2.shape
  have hO2 : RdV w2 (fun _ => False) (.slice p2 (namesOf D.files).length c2) ((namesOf D.files).map encStr) := ho2.rdv (by omega) fun _ _ _ hf => hf
  have hO1 : RdV w2 (fun _ => False) (.slice p1 (namesOf D.files).length c1) ((namesOf D.files).map encStr) := HO1.out.same (Fr.of_new hb2 _)
  rw [hlen] at hO2 hO1 hc1 hc2 ⊢
  have HO2 := Lib.hid hO2
  have HO1 := Lib.hid hO1
  have HB2 : Hid (Below w.heap.size w w2) := Lib.hid (HB1.out.trans (hb2.mono HB1.out.size))
  have HB1' := Lib.hid (born_any w2 S1 xa D (HD1.out.after HB2.out))
  have HB2' := Lib.hid (born_any w2 S2 xb D (HD2.out.after HB2.out))
  clear ho2 hb2 hO2 hO1 HL2 HB1
  go_wp2_with fail
  refine HB1'.out.mono ?_
  rintro e w3 ⟨rfl, rfl⟩
  go_wp2_with fail
  refine HB2'.out.mono ?_
  rintro e w3 ⟨rfl, rfl⟩
  clear HB1' HB2'
  go_wp2_with fail
  go_loopw [7, 8, 9, 10, 11] (fun i _ _ _ _ wr2 => ∃ (k2 : Nat), k2 ≤ D.files.length ∧ i = .int .i64 (k2 : Int) ∧ Hid (Below w.heap.size w wr2 ∧ Below w2.heap.size w2 wr2)) (fun i _ _ _ _ _ => D.files.length - (intOf i).toNat)
  case atStart => exact ⟨0, by omega, rfl, Lib.hid ⟨HB2.out, Below.refl _ _⟩⟩
  case round =>
    obtain ⟨k2, hk2, rfl, HR⟩ := hrel
    by_cases hl2 : k2 < D.files.length
    · obtain ⟨b6, o6, rfl, hb6, hT6, e6⟩ := (HO1.out.same (Fr.of_new HR.out.2 _)).at_ (k := k2) (by rw [hlen]; exact hl2)
      obtain ⟨b7, o7, rfl, hb7, hT7, e7⟩ := (HO2.out.same (Fr.of_new HR.out.2 _)).at_ (k := k2) (by rw [hlen]; exact hl2)
      simp only [namesOf, List.getElem_map] at e6 e7
      have hfm := List.getElem_mem hl2
      generalize D.files[k2] = f at *
      have hlk := look_mem HSrt.out hfm
      have hnl : f.name.length ≤ maxLen := by have := HNms.out f hfm; unfold maxLen; omega
      have hla : f.data.length ≤ 1073741824 := by
        have h1 := used_mem hfm
        have h2 := HRoom.out
        omega
      have HRa := Lib.hid (read_some wr S1 xa D (HD1.out.after HR.out.1) f.name hnl f hlk)
      have HNl := Lib.hid hnl
      have HLk := Lib.hid hlk
      clear hlk hfm
      go_wp2_with fail
      refine HRa.out.mono ?_
      rintro e w8 ⟨va, rfl, hoa, hba⟩
      obtain ⟨pa, ca, rfl, hca, hma⟩ := hoa.form
      have HRA : Hid (Rd w8 w8.heap.size (.slice pa f.data.length ca) f.data) := Lib.hid (hoa.rd (by omega))
      have HB8 : Hid (Below w.heap.size w w8 ∧ Below w2.heap.size w2 w8) := Lib.hid ⟨HR.out.1.trans (hba.mono HR.out.1.size), HR.out.2.trans (hba.mono HR.out.2.size)⟩
      have HRb := Lib.hid (read_some w8 S2 xb D (HD2.out.after HB8.out.1) f.name HNl.out f HLk.out)
      have e6 := (below_cells hba b6 _ hb6).trans e6
      have e7 := (below_cells hba b7 _ hb7).trans e7
      have hb6 := Nat.lt_of_lt_of_le hb6 hba.size
      have hb7 := Nat.lt_of_lt_of_le hb7 hba.size
      clear hoa hba HRa
      go_wp2_with fail
      refine HRb.out.mono ?_
      rintro e X ⟨vb, rfl, hob, hbb⟩
      obtain ⟨pb, cb, rfl, hcb, hmb⟩ := hob.form
      have HBX : Hid (Below w.heap.size w X ∧ Below w2.heap.size w2 X) := Lib.hid ⟨HB8.out.1.trans (hbb.mono HB8.out.1.size), HB8.out.2.trans (hbb.mono HB8.out.2.size)⟩
      have e6x := (below_cells hbb b6 _ hb6).trans e6
      have e7x := (below_cells hbb b7 _ hb7).trans e7
      have hra := HRA.out.below hbb
      have hrb := hob.rd (by omega)
      have hcv1 : ∀ m, (convert 33 9 (.slice pa f.data.length ca)).run Try.prog (X.drewN m) = .ok (.string ⟨f.data.toArray⟩) (X.drewN m) := fun m => str_run (B := w8.heap.size) hra
      have hcv2 : ∀ m, (convert 33 9 (.slice pb f.data.length cb)).run Try.prog (X.drewN m) = .ok (.string ⟨f.data.toArray⟩) (X.drewN m) := fun m => str_run (B := X.heap.size) hrb
      have HU : ∀ m q, q = xa ∨ q = xb → Calls Try.prog 22 #[.pointer (some ⟨q, 0, none⟩), .string ⟨f.name.toArray⟩] (X.drewN m) fun e w' => e = .returned (.int .i64 ((f.data.length - f.synced : Nat) : Int)) ∧ ∃ n, w' = (X.drewN m).drewN n := fun m q hq => by
        rcases hq with rfl | rfl
        · exact dunsynced_some (X.drewN m) S1 q D ((HD1.out.after HBX.out.1).drewN m) f.name HNl.out f HLk.out
        · exact dunsynced_some (X.drewN m) S2 q D ((HD2.out.after HBX.out.1).drewN m) f.name HNl.out f HLk.out
      generalize ((f.data.length - f.synced : Nat) : Int) = Q at *
      clear hob hbb HRb e6 e7 hra hrb
      go_wp2_with fail
      go_quiet ((go_at_call 22; exact q_drew (HU _ _ (by first | exact .inl rfl | exact .inr rfl))))
      go_wp2_with fail
      go_roundw
      case rel => exact ⟨k2 + 1, by omega, by go_num, Lib.hid ⟨below_drewN HBX.out.1 _, below_drewN HBX.out.2 _⟩⟩
      case measure => simp [intOf]; omega
    · go_wp2_with fail
      go_ret
      exact ⟨rfl, HR.out.1⟩
end Go.Proofs.Ytlekffhacmdnnaa
