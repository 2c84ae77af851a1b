/-
  Sync, Truncate, Rotate of a log.
-/
import Derived.Test.YtlbfgkocpjlamaaGreatDoorWlD
namespace Go.Proofs.YtlbfgkocpjlamaaGreatDoor
open Go.RowKit

set_option maxRecDepth 100000 in
set_option maxHeartbeats 1000000 in
theorem sync_log (w : World) (S : Nat → Prop) (lb db n : Nat) (nm : List UInt8) (D : Dsk) (hL : LogAt w lb db nm n) (h : Dn w S db D) (hT : Tb w) (hn : n ≤ 999999) (hl : nm.length ≤ 1000) :
    Calls Tryz.prog 11 #[.pointer (some ⟨lb, 0, none⟩)] w fun e w' => e = .returned (.int .i64 (ansNames D [segName nm n] : Int)) ∧ Fr S w w' ∧ ∃ S', Dn w' S' db (actSync D [segName nm n]) ∧ Nx S S' w := by
  have c0 := hL.c0
  have c2 := hL.c2
  have hlb := hL.lt
  have HFile : ∀ w1, Hid (Below w.heap.size w w1) → Calls Tryz.prog 26 #[.pointer (some ⟨lb, 0, none⟩), .int .i64 (n : Int)] w1 fun e w' => e = .returned (.string ⟨(segName nm n).toArray⟩) ∧ Hid (Below w.heap.size w w') := fun w1 hb =>
    (file_any w1 lb db nm n (hL.below hb.out) n hn hl (hT.below hb.out).pow).mono fun e w' ⟨he, h2⟩ => ⟨he, Lib.hid (hb.out.trans (h2.mono hb.out.size))⟩
  have HSy : ∀ (w1 : World), Hid (Below w.heap.size w w1) → Calls Tryz.prog 28 #[.pointer (some ⟨db, 0, none⟩), .slice (some ⟨w1.heap.size, 0, none⟩) 1 1] (w1.alloc (.cells #[.string ⟨(segName nm n).toArray⟩] 9)) fun e w' =>
      e = .returned (.int .i64 (ansNames D [segName nm n] : Int)) ∧ Hid (Fr S w w' ∧ ∃ S', Dn w' S' db (actSync D [segName nm n]) ∧ Nx S S' w) := fun w1 hb => by
    have hbx := hb.out.alloc hb.out.size (.cells #[.string ⟨(segName nm n).toArray⟩] 9)
    have hd := h.below hbx
    have hA := sync_all (w1.alloc (.cells #[.string ⟨(segName nm n).toArray⟩] 9)) S db D hd.dk _ [segName nm n] (RdV.one w1 S _ _ (h.out hb.out.size)) (fun s hs => by
      obtain rfl := List.mem_singleton.1 hs
      rw [seg_length]
      unfold maxLen
      omega)
    refine hA.mono fun e w' ⟨he, hdk, hfr⟩ => ⟨he, Lib.hid ⟨(Fr.of_new hbx S).then hfr, ?_⟩⟩
    obtain ⟨S', hS1, hS2⟩ := hd.next hdk
    exact ⟨S', hS1, fun j hj => (hS2 j hj).elim .inl fun hle => .inr (Nat.le_trans hbx.size hle)⟩
  have H0 : Hid (Below w.heap.size w w.drew) := Lib.hid (Below.refl _ _).drew
  have C0 := Lib.hid c0
  clear h hT hL
  generalize segName nm n = sn at *
  generalize hA : ansNames D [sn] = A at *
  clear hA
  go_enter Tryz.func11, Tryz.ntmps11
  go_upto_region 1 with (fail)
  go_region_with (first
    | (go_at_call 26
       refine (HFile _ (by assumption)).mono ?_
       rintro e wg ⟨rfl, HB4⟩
       have c0 := (below_cells HB4.out lb 0 hlb).trans C0.out
       have hlg := Nat.lt_of_lt_of_le hlb HB4.out.size
       have c0a : ∀ o, (wg.alloc o).cell? ⟨lb, 0, none⟩ = some (.pointer (some ⟨db, 0, none⟩)) := fun o => (World.cell?_of_block (w := wg) (w' := wg.alloc o) (a := ⟨lb, 0, none⟩) (alloc_old hlg o)).trans c0
       clear hlg)
    | (go_at_call 28
       refine (HSy _ (by assumption)).mono ?_
       rintro e wz ⟨rfl, HZ⟩
       clear c0a))
  all_goals
    go_wp2_with fail
    go_ret
    exact ⟨rfl, HZ.out.1, HZ.out.2⟩

set_option maxHeartbeats 400000 in
theorem truncate_log (w : World) (S : Nat → Prop) (lb db m : Nat) (nm : List UInt8) (D : Dsk) (ns : List Nat) (hL : LogAt w lb db nm m) (h : Dn w S db D) (hT : Tb w)
    (hg : Segs D nm ns) (hn : ∀ n ∈ ns, n ≤ 999999) (hl : nm.length ≤ 1000) (hcnt : D.files.length ≤ 1099511627776) (be : Int) (hbe : be ≤ (m : Int)) :
    Calls Tryz.prog 18 #[.pointer (some ⟨lb, 0, none⟩), .int .i64 be] w fun e w' => e = .returned (.int .i64 0) ∧ Fr S w w' ∧ ∃ S', Dn w' S' db (dels D (segs nm (ns.filter (inR 0 be)))) ∧ Nx S S' w := by
  have c2 := hL.c2
  have HD := Lib.hid (drop_any w S lb db m nm D ns hL h hT hg hn hl hcnt 0 be)
  clear h hT hg hn hL
  go_enter Tryz.func18, Tryz.ntmps18
  go_wp2_with (go_at_call 35; refine HD.out.mono ?_; rintro e w2 ⟨rfl, hz⟩)
  go_ret
  exact ⟨rfl, hz⟩
end Go.Proofs.YtlbfgkocpjlamaaGreatDoor
