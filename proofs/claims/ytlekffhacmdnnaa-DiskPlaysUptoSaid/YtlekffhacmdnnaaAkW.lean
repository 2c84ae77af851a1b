/-
  The walk over Alike.
-/
import Derived.Test.YtlekffhacmdnnaaActM
import Derived.Test.YtlekffhacmdnnaaIv
namespace Go.Proofs.Ytlekffhacmdnnaa
open Go.RowKit

set_option maxRecDepth 100000 in
set_option maxHeartbeats 4000000 in
theorem alike_any (w : World) (S : Nat → Prop) (db rb : Nat) (D : Dsk) (hp : Pair S w db rb D D) (hcnt : D.files.length ≤ 1099511627776) :
    Calls Try.prog 13 #[.pointer (some ⟨db, 0, none⟩), .pointer (some ⟨rb, 0, none⟩)] w fun e w' => e = .returned (.bool true) ∧ Below w.heap.size w w' := by
  have h1 := hp.one
  have h2 := hp.two
  have hlen : (namesOf D.files).length = D.files.length := by simp [namesOf]
  have HSrt := Lib.hid h1.srt
  have HNms := Lib.hid h1.names
  have HRoom := Lib.hid h1.room
  have HLes : Hid (∀ f ∈ D.files, f.data.length ≤ 1073741824) := Lib.hid fun f hf => by
    have q1 := used_mem hf
    have q2 := HRoom.out
    omega
  have HL1 := Lib.hid (list_any w S db D h1 0 none hcnt)
  have HD1 := Lib.hid h1
  have HR1 := Lib.hid h2
  obtain ⟨fv, us, h2⟩ := h2
  have c1 := h2.c1
  have c2 := h2.c2
  have hrl := h2.lt
  obtain ⟨p, cap, rfl, hlc, hcm, hat⟩ := h2.form
  have HA := Lib.hid hat
  clear h1 h2 hp hat
  go_enter Try.func13, Try.ntmps13
  go_wp2_with fail
  refine HL1.out.mono ?_
  rintro e w1 ⟨v1, rfl, ho1, hb1⟩
  obtain ⟨p1, cc1, rfl, hc1, hm1⟩ := ho1.shape
  have hO1 : RdV w1 (fun _ => False) (.slice p1 (namesOf D.files).length cc1) ((namesOf D.files).map encStr) := ho1.rdv (by omega) fun _ _ _ hf => hf
  rw [hlen] at hO1 hc1 ⊢
  have HO1 := Lib.hid hO1
  have HB1 := Lib.hid hb1
  have c1a := (below_cells hb1 rb 1 hrl).trans c1
  have c2a := (below_cells hb1 rb 2 hrl).trans c2
  have HU1 : ∀ n, Calls Try.prog 25 #[.pointer (some ⟨db, 0, none⟩)] (w1.drewN n) fun e w' => e = .returned (.int .i64 (used D.files : Int)) ∧ w1.drewN n = w' := fun n => used_any _ S db D ((HD1.out.after HB1.out).drewN n)
  have HU2 : ∀ n, Calls Try.prog 40 #[.pointer (some ⟨rb, 0, none⟩)] (w1.drewN n) fun e w' => e = .returned (.int .i64 (used D.files : Int)) ∧ w1.drewN n = w' := fun n => rused_any _ S rb D ((HR1.out.after HB1.out).drewN n)
  have HBn : ∀ n, Calls Try.prog 41 #[.pointer (some ⟨db, 0, none⟩)] (w1.drewN n) fun e w' => e = .returned (.int .i64 (D.born : Int)) ∧ w1.drewN n = w' := fun n => born_any _ S db D ((HD1.out.after HB1.out).drewN n)
  generalize used D.files = U at *
  clear ho1 hb1 hO1 HL1
  go_wp2_with fail
  go_quiet (first
    | (go_at_call 25; exact q_same (HU1 _))
    | (go_at_call 40; exact q_same (HU2 _))
    | (go_at_call 41; exact q_same (HBn _)))
  go_wp2_with fail
  generalize hX : World.drewN w1 _ = X1
  have HB2 : Hid (Below w.heap.size w X1) := Lib.hid (by rw [← hX]; exact below_drewN HB1.out _)
  have HO2 : Hid (RdV X1 (fun _ => False) (.slice p1 D.files.length cc1) ((namesOf D.files).map encStr)) := Lib.hid (by rw [← hX]; exact HO1.out.same ((Fr.refl _ _).drewN _))
  clear HU1 HU2 HBn hX c1a c2a
  go_loopw [6, 7, 8] (fun i _ _ wr2 => ∃ (k2 : Nat), k2 ≤ D.files.length ∧ i = .int .i64 (k2 : Int) ∧ Hid (Below w.heap.size w wr2 ∧ Below X1.heap.size X1 wr2)) (fun i _ _ _ => D.files.length - (intOf i).toNat)
  case atStart => exact ⟨0, by omega, rfl, Lib.hid ⟨HB2.out, Below.refl _ _⟩⟩
  case round =>
    obtain ⟨k2, hk2, rfl, HR⟩ := hrel
    by_cases hl2 : k2 < D.files.length
    · obtain ⟨b6, o6, rfl, hb6, hT6, e6⟩ := (HO2.out.same (Fr.of_new HR.out.2 _)).at_ (k := k2) (by rw [hlen]; exact hl2)
      simp only [namesOf, List.getElem_map] at e6
      obtain ⟨g, u, rfl, d0, d1, d2, _, hin⟩ := HA.out k2 _ (List.getElem?_eq_getElem hl2)
      have hgl := cell_lt d0
      have hfm := List.getElem_mem hl2
      generalize D.files[k2] = f at *
      have hlk := look_mem HSrt.out hfm
      have hnl : f.name.length ≤ maxLen := by have := HNms.out f hfm; unfold maxLen; omega
      have hla := HLes.out f hfm
      obtain ⟨pu, cu, rfl, hcu, hmu⟩ := hin.1.form
      have HIn := Lib.hid hin
      have HRa := Lib.hid (read_some wr S db D (HD1.out.after HR.out.1) f.name hnl f hlk)
      have HNl := Lib.hid hnl
      have HLk := Lib.hid hlk
      clear hlk hfm hin
      go_wp2_with fail
      refine HRa.out.mono ?_
      rintro e X ⟨va, rfl, hoa, hba⟩
      obtain ⟨pa, ca, rfl, hca, hma⟩ := hoa.form
      have HBX : Hid (Below w.heap.size w X ∧ Below X1.heap.size X1 X) := Lib.hid ⟨HR.out.1.trans (hba.mono HR.out.1.size), HR.out.2.trans (hba.mono HR.out.2.size)⟩
      have e6x := (below_cells hba b6 _ hb6).trans e6
      have c1x := (below_cells HBX.out.1 rb 1 hrl).trans c1
      have d0x := (below_cells HBX.out.1 g _ hgl).trans d0
      have d1x := (below_cells HBX.out.1 g _ hgl).trans d1
      have hra := hoa.rd (show f.data.length ≤ 140737488355328 by omega)
      have hrb := HIn.out.rd.below HBX.out.1
      have hcv1 : ∀ m, (convert 33 9 (.slice pa f.data.length ca)).run Try.prog (X.drewN m) = .ok (.string ⟨f.data.toArray⟩) (X.drewN m) := fun m => str_run (B := X.heap.size) hra
      have hcv2 : ∀ m, (convert 33 9 (.slice pu f.data.length cu)).run Try.prog (X.drewN m) = .ok (.string ⟨f.data.toArray⟩) (X.drewN m) := fun m => str_run (B := w.heap.size) hrb
      have HUa : ∀ m, Calls Try.prog 22 #[.pointer (some ⟨db, 0, none⟩), .string ⟨f.name.toArray⟩] (X.drewN m) fun e w' => e = .returned (.int .i64 ((f.data.length - f.synced : Nat) : Int)) ∧ ∃ n, w' = (X.drewN m).drewN n := fun m =>
        dunsynced_some (X.drewN m) S db D ((HD1.out.after HBX.out.1).drewN m) f.name HNl.out f HLk.out
      have HUb : ∀ m, Calls Try.prog 23 #[.pointer (some ⟨rb, 0, none⟩), .string ⟨f.name.toArray⟩] (X.drewN m) fun e w' => e = .returned (.int .i64 ((f.data.length - f.synced : Nat) : Int)) ∧ ∃ n, w' = (X.drewN m).drewN n := fun m =>
        runsynced_some (X.drewN m) S rb D ((HR1.out.after HBX.out.1).drewN m) f.name f HLk.out
      generalize ((f.data.length - f.synced : Nat) : Int) = Q at *
      clear hoa hba HRa e6 d0 d1 d2 hra hrb
      go_wp2_with fail
      go_quiet (first
        | (go_at_call 22; exact q_drew (HUa _))
        | (go_at_call 23; exact q_drew (HUb _)))
      go_wp2_with fail
      go_roundw
      case rel => exact ⟨k2 + 1, by omega, by go_num, Lib.hid ⟨below_drewN HBX.out.1 _, below_drewN HBX.out.2 _⟩⟩
      case measure => simp [intOf]; omega
    · go_wp2_with fail
      go_ret
      exact ⟨rfl, HR.out.1⟩
end Go.Proofs.Ytlekffhacmdnnaa
