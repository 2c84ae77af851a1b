/-
  Append to a log.
-/
import Derived.Test.YtlbfgkocpjlamaaGreatDoorWlD
import Derived.Test.YtlbfgkocpjlamaaGreatDoorCB
namespace Go.Proofs.YtlbfgkocpjlamaaGreatDoor
open Go.RowKit

theorem RdW.one (w : World) (S : Nat → Prop) (u : Value) (l : List UInt8) (t : TypeId) (h : RdV w S u (bs l)) (hS : ¬ S w.heap.size) : RdW (w.alloc (.cells #[u] t)) S (.slice (some ⟨w.heap.size, 0, none⟩) 1 1) [l] := by
  refine ⟨[u], rfl, RdV.one w S u t hS, fun k x y hx hy => ?_⟩
  have hk : k = 0 := by
    have := (List.getElem?_eq_some_iff.1 hx).1
    simpa using this
  subst hk
  obtain rfl : u = x := by simpa using hx
  obtain rfl : l = y := by simpa using hy
  exact h.same (Fr.of_new ((Below.refl _ _).alloc (Nat.le_refl _) _) _)
theorem RdL.at_ {w : World} {B : Nat} {p : Option Addr} {n cap : Nat} {ls : List (List UInt8)} (h : RdL w B (.slice p n cap) ls) {k : Nat} (hk : k < ls.length) :
    ∃ b off u, p = some ⟨b, off, none⟩ ∧ b < B ∧ w.cell? ⟨b, off + k, none⟩ = some u ∧ Rd w B u ls[k] := by
  obtain ⟨p', cap', e, _, _, _, h4⟩ := h
  injection e with e1 e2 e3
  subst e1
  exact h4 k _ (List.getElem?_eq_getElem hk)

set_option maxRecDepth 100000 in
set_option maxHeartbeats 1000000 in
theorem append_log (w : World) (S : Nat → Prop) (lb db n : Nat) (nm : List UInt8) (D : Dsk) (hL : LogAt w lb db nm n) (h : Dn w S db D) (hT : Tb w) (hn : n ≤ 999999) (hl : nm.length ≤ 1000)
    (v : Value) (ls : List (List UInt8)) (hv : RdL w w.heap.size v ls) (hls : ∀ l ∈ ls, l.length ≤ 67108864) (hr : roomC ls ≤ 140737488355000) (hcnt : D.files.length < 4611686018427387904) :
    Calls Tryz.prog 10 #[.pointer (some ⟨lb, 0, none⟩), v] w fun e w' => e = .returned (.int .i64 (ansApp D (segName nm n) (frames ls) : Int)) ∧ Fr S w w' ∧ ∃ S', Dn w' S' db (actApp D (segName nm n) (frames ls)) ∧ Nx S S' w := by
  have c0 := hL.c0
  have c2 := hL.c2
  have hlb := hL.lt
  have HFile : ∀ w1, Hid (Below w.heap.size w w1) → Calls Tryz.prog 26 #[.pointer (some ⟨lb, 0, none⟩), .int .i64 (n : Int)] w1 fun e w' => e = .returned (.string ⟨(segName nm n).toArray⟩) ∧ Hid (Below w1.heap.size w1 w') ∧ Hid (Below w.heap.size w w') := fun w1 hb =>
    (file_any w1 lb db nm n (hL.below hb.out) n hn hl (hT.below hb.out).pow).mono fun e w' ⟨he, h2⟩ => ⟨he, Lib.hid h2, Lib.hid (hb.out.trans (h2.mono hb.out.size))⟩
  have HFrm : ∀ w1, Hid (Below w.heap.size w w1) → Calls Tryz.prog 27 #[v] w1 fun e w' => ∃ q cp, e = .returned (.slice q (frames ls).length cp) ∧ Hid (Own w' w.heap.size (.slice q (frames ls).length cp) (frames ls)) ∧ Hid (Below w1.heap.size w1 w') ∧ Hid (Below w.heap.size w w') := fun w1 hb =>
    (frames_any v ls w.heap.size w1 (hv.below hb.out) hb.out.size (hT.below hb.out).tabs hr).mono fun e w' ⟨v', he, h1, h2⟩ => by
      obtain ⟨q, cp, rfl, _⟩ := h1.form
      exact ⟨q, cp, he, Lib.hid (h1.more hb.out.size), Lib.hid h2, Lib.hid (hb.out.trans (h2.mono hb.out.size))⟩
  have hfl : (frames ls).length ≤ 140737488355328 := by
    have h1 := frames_length ls (by unfold roomC at hr; omega)
    omega
  have HApp : ∀ (w1 : World) (v' : Value), Hid (Below w.heap.size w w1) → Hid (Own w1 w.heap.size v' (frames ls)) → Calls Tryz.prog 25 #[.pointer (some ⟨db, 0, none⟩), .string ⟨(segName nm n).toArray⟩, .slice (some ⟨w1.heap.size, 0, none⟩) 1 1] (w1.alloc (.cells #[v'] 41)) fun e w' =>
      e = .returned (.int .i64 (ansApp D (segName nm n) (frames ls) : Int)) ∧ Hid (Fr S w w' ∧ ∃ S', Dn w' S' db (actApp D (segName nm n) (frames ls)) ∧ Nx S S' w) := fun w1 v' hb ho => by
    have hbx := hb.out.alloc hb.out.size (.cells #[v'] 41)
    have hd := h.below hbx
    have hrw := RdW.one w1 S v' (frames ls) 41 (ho.out.rdv hfl fun k hk => h.out hk) (h.out hb.out.size)
    have hA := append_all (w1.alloc (.cells #[v'] 41)) S db D hd.dk (segName nm n) (by rw [seg_length]; omega) _ [frames ls] hrw hcnt
    rw [show [frames ls].flatten = frames ls by simp] at hA
    refine hA.mono fun e w' ⟨he, hdk, hfr⟩ => ⟨he, Lib.hid ⟨(Fr.of_new hbx S).then hfr, ?_⟩⟩
    obtain ⟨S', hS1, hS2⟩ := hd.next hdk
    exact ⟨S', hS1, fun j hj => (hS2 j hj).elim .inl fun hle => .inr (Nat.le_trans hbx.size hle)⟩
  have H0 : Hid (Below w.heap.size w w.drew) := Lib.hid (Below.refl _ _).drew
  have HLS := Lib.hid hls
  have C0 := Lib.hid c0
  have C2 := Lib.hid c2
  obtain ⟨p, cap, rfl, hlc, hl47, hcm, _⟩ := id hv
  have HV := Lib.hid hv
  clear hv hls h hT hL
  generalize frames ls = fs at *
  generalize segName nm n = sn at *
  generalize hA : ansApp D sn fs = A at *
  clear hA
  go_enter Tryz.func10, Tryz.ntmps10
  go_wp2_with fail
  go_loop [6, 9] (fun _ i => ∃ k : Nat, k ≤ ls.length ∧ i = .int .i64 (k : Int)) (fun _ i => ls.length - (intOf i).toNat)
  case atStart => exact ⟨0, by omega, rfl⟩
  case round =>
    obtain ⟨k, hk, rfl⟩ := hrel
    by_cases hlt : k < ls.length
    · obtain ⟨b, off, u, rfl, hb, hc, hru⟩ := HV.out.at_ hlt
      have hlen := HLS.out ls[k] (List.getElem_mem hlt)
      obtain ⟨p2, cap2, rfl, h21, ⟨h22, h23, _⟩, _⟩ := hru
      generalize ls[k].length = L at *
      go_wp2_with fail
      go_round
      case rel => exact ⟨k + 1, by omega, by go_num⟩
      case measure => simp [intOf]; omega
    · clear hk
      go_upto_region 7 with (fail)
      go_region_with (first
        | (go_at_call 26
           refine (HFile _ (by assumption)).mono ?_
           rintro e wf ⟨rfl, HB1, HB2⟩
           have c0 := (below_cells HB2.out lb 0 hlb).trans C0.out
           have c2 := (below_cells HB2.out lb 2 hlb).trans C2.out)
        | (go_at_call 27
           refine (HFrm _ (by assumption)).mono ?_
           rintro e wg ⟨q, cp, rfl, HO, HB3, HB4⟩
           have c0 := (below_cells HB4.out lb 0 hlb).trans C0.out
           have hlg := Nat.lt_of_lt_of_le hlb HB4.out.size
           have c0a : ∀ o, (wg.alloc o).cell? ⟨lb, 0, none⟩ = some (.pointer (some ⟨db, 0, none⟩)) := fun o => (World.cell?_of_block (w := wg) (w' := wg.alloc o) (a := ⟨lb, 0, none⟩) (alloc_old hlg o)).trans c0
           clear hlg)
        | (go_at_call 25
           first
             | (refine (HApp _ _ (by assumption) (by assumption)).mono ?_)
             | (refine (HApp _ _ (by assumption) (by exact Lib.hid (HO.out.after HB1.out))).mono ?_)
           rintro e wz ⟨rfl, HZ⟩
           clear c0a))
      all_goals
        go_wp2_with fail
        go_ret
        exact ⟨rfl, HZ.out.1, HZ.out.2⟩
end Go.Proofs.YtlbfgkocpjlamaaGreatDoor
