/-
  The walk over the law's looks: a table looks as the reference's.
-/
import Derived.Test.YtagehnclkneolaaGreatDoorGUd
import Derived.Deep.RegionHeld3
namespace Go.Proofs.YtagehnclkneolaaGreatDoor
open Go.RowKit

set_option maxRecDepth 100000 in
set_option maxHeartbeats 1000000 in
theorem looks_any (w : World) (base base' tb rb : Nat) (L : List Ent) (bks : List TBk) (h : TblM w base tb L bks.length) (r : RTbM w base' rb L bks) (hs : ShL L) (hsr : SrtE L) (hl : L.length ≤ 1048576) :
    Calls Tryz.prog 7 #[.pointer (some ⟨tb, 0, none⟩), .pointer (some ⟨rb, 0, none⟩)] w fun x w' => x = .returned (.bool true) ∧ Below w.heap.size w w' := by
  obtain ⟨pe, ce, us, pk, ck, qf, cf, r1, r2, _⟩ := r.out
  have HEr : Hid (En w (fun k => base' ≤ k) (.slice pe L.length ce) L) := Lib.hid ⟨us, r2.len47 (fun e he => by have := wgt_mem L e he; have := hs.2; omega) (by omega)⟩
  have HEu : Hid (EnU w (fun k => base' ≤ k) (.slice pe L.length ce) L us) := Lib.hid (r2.len47 (fun e he => by have := wgt_mem L e he; have := hs.2; omega) (by omega))
  have HBo := Lib.hid (bounds_any w base tb bks.length L h hs hl)
  have HLen := Lib.hid (fun (V : World) (hV : Below w.heap.size w V) => len_any V base tb bks.length L (h.below hV))
  have HBlk := Lib.hid (fun (V : World) (hV : Below w.heap.size w V) => blocks_any V base tb bks.length L (h.below hV))
  have HAll := Lib.hid (fun (V : World) (hV : Below w.heap.size w V) => lall_any V base tb bks.length L (h.below hV) hs hsr hl)
  have HSame := Lib.hid (fun (V : World) (G : Nat → Prop) (v : Value) (hv : En V G v L) (hV : Below w.heap.size w V) => l5_sameRows V G (fun k => base' ≤ k) v (.slice pe L.length ce) L L hv (HEr.out.below hV))
  have hsl : sameL L L = true := sameL_iff.2 rfl
  rw [hsl] at HSame
  have HC := Lib.hid (fun (V : World) (hV : Below w.heap.size w V) => ((hV.block _ (block_lt r1)).trans r1))
  have c0 := cell_of (i := 0) r1 rfl
  have c1 := cell_of (i := 1) r1 rfl
  generalize bks.length = nb at *
  obtain ⟨K0, hK0⟩ : ∃ K, hdK L = K := ⟨_, rfl⟩
  obtain ⟨K1, hK1⟩ : ∃ K, lasK L = K := ⟨_, rfl⟩
  rw [hK0, hK1] at HBo
  have HK := Lib.hid (And.intro hK0 hK1)
  clear h r r1 r2 hs hsr hsl hK0 hK1
  by_cases h0 : 0 < L.length
  · have hz : decide ((0 : Int) < (L.length : Int)) = true := decide_eq_true (by omega)
    have hzn : decide (0 < L.length) = true := decide_eq_true h0
    rw [hzn] at HBo
    go_enter Tryz.func7, Tryz.ntmps7
    go_wp2_with fail
    refine HBo.out.mono ?_
    rintro x w1 ⟨rfl, m, rfl⟩
    have HB1 : Hid (Below w.heap.size w (w.drewN m).drew) := Lib.hid (below_drew (below_drewN (Below.refl _ _) m))
    go_wp2_with fail
    go_upto_region 2 with (fail)
    go_cut [51] (fun s wx => s = .bool false ∧ Hid (Below w.heap.size w wx))
    case first =>
      go_region_held3 (fun w' => w'.cell? ⟨rb, 0, none⟩ = some (.slice pe L.length ce) ∧ w'.cell? ⟨rb, 1, none⟩ = some (.slice pk nb ck))
        (first | exact ⟨c0, c1⟩ | exact ⟨e0, e1⟩ | exact ⟨z0, z1⟩)
        (first
        | (go_at_call 20
           refine (HLen.out _ HB1.out).mono ?_
           rintro e w2 ⟨rfl, rfl⟩)
        | (go_at_call 21
           refine (HBlk.out _ HB1.out).mono ?_
           rintro e w2 ⟨rfl, rfl⟩)
        | (go_at_call 29
           refine (HAll.out _ HB1.out).mono ?_
           rintro e w2 ⟨v2, rfl, hen2, hb2⟩
           have hb3 : Below w.heap.size w w2 := HB1.out.trans (hb2.mono HB1.out.size)
           have e0 := cell_of (i := 0) (HC.out w2 hb3) rfl
           have e1 := cell_of (i := 1) (HC.out w2 hb3) rfl
           have HS2 := Lib.hid (HSame.out w2 _ v2 hen2 hb3)
           have HB3 := Lib.hid hb3
           clear hen2 hb2 hb3)
        | (go_at_call 15
           refine HS2.out.mono ?_
           rintro e w3 ⟨rfl, hb4⟩
           have hb5 : Below w.heap.size w w3 := HB3.out.trans (hb4.mono HB3.out.size)
           have z0 := cell_of (i := 0) (HC.out w3 hb5) rfl
           have z1 := cell_of (i := 1) (HC.out w3 hb5) rfl
           have HB4 := Lib.hid hb5
           clear hb4))
      all_goals
        go_wp2_with fail
        go_meet
        exact ⟨rfl, HB4⟩
    case rest =>
      obtain ⟨rfl, HW⟩ := hcut
      obtain ⟨wx, rfl⟩ : ∃ wx : World, wx = wc := ⟨_, rfl⟩
      obtain ⟨b1, o1, q1, g1, hp1, t1⟩ := (HEu.out.below HW.out).at_ (k := 0) (List.getElem?_eq_getElem h0)
      have d0 := t1.2.2.2.2.1
      rw [Nat.zero_mul, Nat.add_zero] at d0
      obtain ⟨b2, o2, q2, g2, hp2, t2⟩ := (HEu.out.below HW.out).at_ (k := L.length - 1) (List.getElem?_eq_getElem (by omega))
      have e0 := t2.2.2.2.2.1
      have a0 := cell_of (i := 0) (HC.out wx HW.out) rfl
      clear t1 t2
      subst hp1
      obtain ⟨rfl, rfl⟩ : b1 = b2 ∧ o1 = o2 := by simpa using hp2
      have hk0 : L[0].key = K0 := by rw [← HK.out.1]; cases L with | nil => simp at h0 | cons x r => rfl
      have hk1 : (L[L.length - 1]'(by omega)).key = K1 := by rw [← HK.out.2]; unfold lasK; rw [List.getElem?_eq_getElem (by omega)]
      rw [hk0] at d0
      rw [hk1] at e0
      have hwr : IntKind.i64.wrap ((L.length : Int) - 1) = (L.length : Int) - 1 := IntWalk.i64_in _ (by omega)
      have hkt : ((L.length : Int) - 1).toNat = L.length - 1 := by omega
      have hk1' : (0 : Int) ≤ (L.length : Int) - 1 := by omega
      have hkl : ((L.length : Int) - 1) < (L.length : Int) := by omega
      have hpi : (0 : Int) < (L.length : Int) := by omega
      clear hp2 hk0 hk1 c0 c1
      go_wp2_with fail
      go_quiet (fail)
      go_wp2_with fail
      go_ret
      exact ⟨rfl, below_drewN HW.out _⟩
  · obtain rfl : L = [] := List.eq_nil_of_length_eq_zero (by omega)
    obtain rfl : K0 = [] := HK.out.1.symm
    obtain rfl : K1 = [] := HK.out.2.symm
    have hzn : decide (0 < ([] : List Ent).length) = false := rfl
    rw [hzn] at HBo
    go_enter Tryz.func7, Tryz.ntmps7
    go_wp2_with fail
    refine HBo.out.mono ?_
    rintro x w1 ⟨rfl, m, rfl⟩
    have HB1 : Hid (Below w.heap.size w (w.drewN m).drew) := Lib.hid (below_drew (below_drewN (Below.refl _ _) m))
    go_wp2_with fail
    go_upto_region 2 with (fail)
    go_cut [51] (fun s wx => s = .bool false ∧ Hid (Below w.heap.size w wx))
    case first =>
      go_region_held3 (fun w' => w'.cell? ⟨rb, 0, none⟩ = some (.slice pe 0 ce) ∧ w'.cell? ⟨rb, 1, none⟩ = some (.slice pk nb ck))
        (first | exact ⟨c0, c1⟩ | exact ⟨e0, e1⟩ | exact ⟨z0, z1⟩)
        (first
        | (go_at_call 20
           refine (HLen.out _ HB1.out).mono ?_
           rintro e w2 ⟨rfl, rfl⟩)
        | (go_at_call 21
           refine (HBlk.out _ HB1.out).mono ?_
           rintro e w2 ⟨rfl, rfl⟩)
        | (go_at_call 29
           refine (HAll.out _ HB1.out).mono ?_
           rintro e w2 ⟨v2, rfl, hen2, hb2⟩
           have hb3 : Below w.heap.size w w2 := HB1.out.trans (hb2.mono HB1.out.size)
           have e0 := cell_of (i := 0) (HC.out w2 hb3) rfl
           have e1 := cell_of (i := 1) (HC.out w2 hb3) rfl
           have HS2 := Lib.hid (HSame.out w2 _ v2 hen2 hb3)
           have HB3 := Lib.hid hb3
           clear hen2 hb2 hb3)
        | (go_at_call 15
           refine HS2.out.mono ?_
           rintro e w3 ⟨rfl, hb4⟩
           have hb5 : Below w.heap.size w w3 := HB3.out.trans (hb4.mono HB3.out.size)
           have z0 := cell_of (i := 0) (HC.out w3 hb5) rfl
           have z1 := cell_of (i := 1) (HC.out w3 hb5) rfl
           have HB4 := Lib.hid hb5
           clear hb4))
      all_goals
        go_wp2_with fail
        go_meet
        exact ⟨rfl, HB4⟩
    case rest =>
      obtain ⟨rfl, HW⟩ := hcut
      clear c0 c1
      go_wp2_with fail
      go_quiet (fail)
      go_wp2_with fail
      go_ret
      exact ⟨rfl, below_drewN HW.out _⟩
end Go.Proofs.YtagehnclkneolaaGreatDoor
