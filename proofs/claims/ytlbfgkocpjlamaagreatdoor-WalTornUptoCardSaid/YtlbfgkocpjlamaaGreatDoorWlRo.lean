/-
  Rotate of a log.
-/
import Derived.Test.YtlbfgkocpjlamaaGreatDoorWlB
namespace Go.Proofs.YtlbfgkocpjlamaaGreatDoor
open Go.RowKit

theorem RdW.nil (w : World) (S : Nat → Prop) : RdW w S (.slice none 0 0) [] := ⟨[], rfl, RdV.nil w S, fun k u l h => by simp at h⟩

set_option maxRecDepth 100000 in
set_option maxHeartbeats 1000000 in
/-- Rotate, where the last segment is there, the next one isn't. -/
theorem rotate_log (w : World) (S : Nat → Prop) (lb db n : Nat) (nm : List UInt8) (D : Dsk) (hL : LogAt w lb db nm n) (h : Dn w S db D) (hT : Tb w) (hn : n < 999999) (hl : nm.length ≤ 1000) (hS : ¬ S lb)
    (hnm : isName (segName nm (n + 1)) = true) (hi : (look (segName nm n) D.files).isSome = true) (hno : look (segName nm (n + 1)) (sync1 D (segName nm n)).files = none) (hcnt : D.files.length ≤ 1099511627776) :
    Calls Tryz.prog 12 #[.pointer (some ⟨lb, 0, none⟩)] w fun e w' => e = .returned (.int .i64 0) ∧ Fr (fun k => S k ∨ k = lb) w w' ∧ LogAt w' lb db nm (n + 1) ∧ ∃ S', Dn w' S' db (app (sync1 D (segName nm n)) (segName nm (n + 1)) []) ∧ Nx S S' w := by
  have hall : hasAll D.files [segName nm n] = true := by simp [hasAll, hi]
  have hlb := hL.lt
  have HSync : Hid (Calls Tryz.prog 11 #[.pointer (some ⟨lb, 0, none⟩)] w fun e w' => e = .returned (.int .i64 0) ∧ Hid (Fr S w w' ∧ ∃ S', Dn w' S' db (sync1 D (segName nm n)) ∧ Nx S S' w)) := Lib.hid ((sync_log w S lb db n nm D hL h hT (by omega) hl).mono fun e w' ⟨he, hz⟩ => by
    have ea : ansNames D [segName nm n] = 0 := by simp [ansNames, hall]
    have ed : actSync D [segName nm n] = sync1 D (segName nm n) := by simp only [actSync, hall, if_true]; rfl
    rw [ea] at he
    rw [ed] at hz
    exact ⟨he, Lib.hid hz⟩)
  have hcnt2 : Hid ((sync1 D (segName nm n)).files.length ≤ 1099511627776) := Lib.hid (by
    have := syncs_len [segName nm n] D h.dk.srt hall
    show (syncs D [segName nm n]).files.length ≤ _
    omega)
  have c2 := hL.c2
  have HL := Lib.hid hL
  have HT := Lib.hid hT
  have HNo := Lib.hid hno
  have HNm := Lib.hid hnm
  have HDs := Lib.hid h.lo
  generalize sync1 D (segName nm n) = D1 at *
  clear h hT hL hno hnm hi hall hcnt
  go_enter Tryz.func12, Tryz.ntmps12
  go_wp2_with (go_at_call 11; refine HSync.out.mono ?_; rintro e w1 ⟨rfl, HZ⟩; refine Hid.out ?_)
  obtain ⟨hfr1, S1, hd1, hx1⟩ := HZ.out
  have hS1 := hx1.old hlb hS
  have HL1 := Lib.hid (HL.out.fr hfr1 hS)
  have HT1 := Lib.hid (HT.out.fr hfr1 HDs.out)
  have HF1 := Lib.hid hfr1
  have HX1 := Lib.hid hx1
  have HD1 := Lib.hid hd1
  have hz1 := hfr1.size
  clear HZ hfr1 hx1 hd1
  refine Lib.hid ?_
  have c2 := HL1.out.c2
  have HFile := Lib.hid (file_any w1 lb db nm n HL1.out (n + 1) (by omega) hl HT1.out.pow)
  have hwn : IntKind.i64.wrap ((n : Int) + 1) = ((n + 1 : Nat) : Int) := by
    rw [IntWalk.i64_in _ (by omega)]
    omega
  go_wp2_with (go_at_call 26; refine HFile.out.mono ?_; rintro e w2 ⟨rfl, hb2⟩; refine Hid.out ?_)
  have HL2 := Lib.hid (HL1.out.below hb2)
  have HT2 := Lib.hid (HT1.out.below hb2)
  have HD2 := Lib.hid (HD1.out.below hb2)
  have HF2 := Lib.hid (HF1.out.then (Fr.of_new hb2 S))
  have hz2 := hb2.size
  clear hb2 HFile c2
  refine Lib.hid ?_
  have hb3 : Below w2.heap.size w2 (w2.alloc (.cells #[.string ⟨(segName nm (n + 1)).toArray⟩] 9)) := (Below.refl _ _).alloc (Nat.le_refl _) _
  have HDel := delete_all _ S1 db D1 (HD2.out.below hb3).dk _ [segName nm (n + 1)] (RdV.one w2 S1 _ _ (HD2.out.out (Nat.le_refl _))) (fun s hs => by
    obtain rfl := List.mem_singleton.1 hs
    rw [seg_length]
    unfold maxLen
    omega)
  have hA : hasAll D1.files [segName nm (n + 1)] = false := by simp [hasAll, HNo.out]
  rw [show ansNames D1 [segName nm (n + 1)] = 4 by simp [ansNames, hA], show actDel D1 [segName nm (n + 1)] = D1 by simp [actDel, hA]] at HDel
  have HDel := Lib.hid HDel
  have c0 := HL2.out.c0
  clear hb3 hA
  go_wp2_with (go_at_call 29; refine HDel.out.mono ?_; rintro e w3 ⟨rfl, hdk, hfr3⟩; refine Hid.out ?_)
  obtain ⟨S3, hd3, hx3⟩ := (HD2.out.below ((Below.refl _ _).alloc (Nat.le_refl _) (.cells #[.string ⟨(segName nm (n + 1)).toArray⟩] 9))).next hdk
  have hb3 : Below w2.heap.size w2 (w2.alloc (.cells #[.string ⟨(segName nm (n + 1)).toArray⟩] 9)) := (Below.refl _ _).alloc (Nat.le_refl _) _
  have HL3 := Lib.hid ((HL2.out.below hb3).fr hfr3 hS1)
  have hz3 : w2.heap.size ≤ w3.heap.size := Nat.le_trans hb3.size hfr3.size
  have HX3 : Hid (Nx S S3 w) := Lib.hid fun k hk => (hx3 k hk).elim (fun h => HX1.out k h) fun hle => .inr (by have := hb3.size; omega)
  have hS3 : ¬ S3 lb := HX3.out.old hlb hS
  have HF3 : Hid (Fr S w w3) := Lib.hid (HF2.out.next HX1.out ((Fr.of_new hb3 S1).then hfr3))
  have HD3 := Lib.hid hd3
  clear hdk hfr3 hd3 hx3 hb3 c0 HDel
  refine Lib.hid ?_
  have c0 := HL3.out.c0
  have HApp := append_all w3 S3 db D1 HD3.out.dk (segName nm (n + 1)) (by rw [seg_length]; omega) (.slice none 0 0) [] (RdW.nil w3 S3) (by have := hcnt2.out; omega)
  have hroom := HD3.out.dk.room
  rw [show ansApp D1 (segName nm (n + 1)) ([] : List (List UInt8)).flatten = 0 by simp [ansApp, HNm.out, hroom.1], show actApp D1 (segName nm (n + 1)) ([] : List (List UInt8)).flatten = app D1 (segName nm (n + 1)) [] by simp [actApp, HNm.out, hroom.1]] at HApp
  have HApp := Lib.hid HApp
  clear hroom
  go_wp2_with (go_at_call 25; refine HApp.out.mono ?_; rintro e w4 ⟨rfl, hdk, hfr4⟩; refine Hid.out ?_)
  obtain ⟨S4, hd4, hx4⟩ := HD3.out.next hdk
  have HL4 := Lib.hid (HL3.out.fr hfr4 hS3)
  have HX4 : Hid (Nx S S4 w) := Lib.hid (HX3.out.trans hx4 (by omega))
  have HF4 : Hid (Fr S w w4) := Lib.hid (HF3.out.next HX3.out hfr4)
  have HD4 := Lib.hid hd4
  have hS4 : ¬ S4 lb := HX4.out.old hlb hS
  clear hdk hfr4 hd4 hx4 c0 HApp
  refine Lib.hid ?_
  have c2 := HL4.out.c2
  have z2 := HL4.out.fz 2
  go_wp2_with fail
  go_ret
  have hset := HL4.out.set (n + 1)
  have hfs := Fr.setCell (fun k => k = lb) w4 (p := ⟨lb, 2, none⟩) rfl (.int .i64 ((n + 1 : Nat) : Int))
  refine ⟨rfl, (HF4.out.mono fun k _ hk => .inl hk).then (hfs.mono fun k _ hk => .inr hk), hset, S4, HD4.out.same hfs fun k _ hk e => hS4 (e ▸ hk), HX4.out⟩
end Go.Proofs.YtlbfgkocpjlamaaGreatDoor
