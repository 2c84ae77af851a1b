/-
  The walks over codec.ReadFrame and glacierref1.ReadFrame.
-/
import Derived.Test.YtjhafhfneedmjaaDoorRbW
import Derived.Deep.RegionWith
namespace Go.Proofs.YtjhafhfneedmjaaDoor
open Go.RowKit

theorem Rd.heap {w W : World} {B : Nat} {v : Value} {l : List UInt8} (h : Rd w B v l) (e : W.heap = w.heap) : Rd W B v l := h.keep fun _ _ _ => World.cell?_of_block (by rw [e])
theorem RdL.heap {w W : World} {B : Nat} {v : Value} {ls : List (List UInt8)} (h : RdL w B v ls) (e : W.heap = w.heap) : RdL W B v ls := h.keep fun _ _ _ => World.cell?_of_block (by rw [e])
theorem Tabs.heap {w W : World} (h : Tabs w) (e : W.heap = w.heap) : Tabs W := h.keep fun _ _ _ => World.cell?_of_block (by rw [e])
theorem below_heap {B : Nat} {w w1 W : World} (h : Below B w w1) (e : W.heap = w1.heap) (ho : W.os = w1.os) (ht : W.tape = w1.tape) (hp : W.output = w1.output) : Below B w W :=
  ⟨ho.trans h.os, ht.trans h.tape, hp.trans h.output, by rw [e]; exact h.size, fun k hk => by rw [e]; exact h.block k hk⟩

theorem q_same {P : Program} {f : FuncId} {args : Array Value} {w : World} {n : Nat} {v : Value}
    (h : Calls P f args (w.drewN n) fun e w' => e = .returned v ∧ w.drewN n = w') : Calls P f args (w.drewN n) fun e w'' => e = .returned v ∧ ∃ m, w'' = w.drewN m :=
  h.mono fun _ _ ⟨he, hm⟩ => ⟨he, n, hm.symm⟩
theorem q_drew {P : Program} {f : FuncId} {args : Array Value} {w : World} {n : Nat} {v : Value}
    (h : Calls P f args (w.drewN n) fun e w' => e = .returned v ∧ ∃ m, (w.drewN n).drewN m = w') : Calls P f args (w.drewN n) fun e w'' => e = .returned v ∧ ∃ m, w'' = w.drewN m :=
  h.mono fun _ _ ⟨he, m, hm⟩ => ⟨he, n + m, by rw [← hm, World.drewN_drewN]⟩

set_option maxRecDepth 100000 in
set_option maxHeartbeats 1000000 in
theorem refReadFrame_any (v : Value) (l : List UInt8) (B : Nat) (w : World) (h : Rd w B v l) :
    Calls Tryd.prog 22 #[v] w fun e w' =>
      ∃ v', e = .returned (.tuple #[v', .int .i64 ((rdFrame l).2.1 : Int), .int .i64 ((rdFrame l).2.2 : Int)]) ∧ Rd w B v' (rdFrame l).1 ∧ ∃ n, w.drewN n = w' := by
  have HR := Lib.hid h
  obtain ⟨p, cap, rfl, hlc, hl47, hcm, hat⟩ := h.form
  clear h hat
  go_enter Tryd.func22, Tryd.ntmps22
  go_wp2_with fail
  refine (refReadNumber_any _ l B w HR.out).mono ?_
  rintro e w1 ⟨rfl, rfl⟩
  rcases rdNum_form l with ⟨n, k, hr, h1, h2, h3, h4⟩ | hr | hr
  · rw [hr]
    have HN := Lib.hid h4
    by_cases hv : 67108864 < n
    · have HE := Lib.hid (rdFrame_err l 3 (rdLen_long l 67108864 4 n k hr hv) (by decide))
      clear hr h4
      have d1 : decide ((67108864 : Int) < (n : Int)) = true := by simp; omega
      go_wp2_with fail
      go_ret3
      exact ⟨_, ret3b HE.out rfl rfl, by rw [HE.out]; exact Rd.none_ _ _, 0, rfl⟩
    · have d1 : decide ((67108864 : Int) < (n : Int)) = false := by simp; omega
      by_cases hl : n + k + 4 ≤ l.length
      · have hlen := rdLen_ok l 67108864 4 n k hr hv hl
        obtain ⟨p2, cap2, hcut, hsl⟩ := cut_run (n := k + 4) (m := n) HR.out (by omega)
        obtain ⟨p3, cap3, htl, hsl3⟩ := tail_run (n := k) HR.out (by omega)
        have HC := Lib.hid hcut
        have HD := Lib.hid htl
        clear hr h4 hcut htl
        have e4 : ((k + 4 : Nat) : Int) = (k : Int) + 4 := by omega
        rw [e4] at hsl
        clear e4
        have d2 : decide ((l.length : Int) - (k : Int) < 4) = false := by simp; omega
        have d3 : decide ((l.length : Int) - (k : Int) - 4 < (n : Int)) = false := by simp; omega
        have h4d : 4 ≤ (l.drop k).length := by rw [List.length_drop]; omega
        have hdl : (l.drop k).length = l.length - k := List.length_drop
        have HDL := Lib.hid hdl
        have HS4 := Lib.hid h4d
        clear hdl h4d
        by_cases hc : crc ((l.drop (k + 4)).take n) = unfour (l.drop k)
        · have HE := Lib.hid (rdFrame_ok l n k hlen hc)
          have b1 : ((crc ((l.drop (k + 4)).take n) : Int) != (unfour (l.drop k) : Int)) = false := by simp [hc]
          clear hc hlen
          go_wp2_with fail
          go_quiet (first
            | (go_at_call 14; exact q_same (refSum_any _ _ B _ (HC.out.drewN _)))
            | (go_at_call 37; exact q_drew (refReadFour_any _ _ B _ (HD.out.drewN _) HS4.out)))
          go_wp2_with fail
          go_ret3
          exact ⟨_, ret3b HE.out (by omega) rfl, by rw [HE.out]; exact HC.out, nq, rfl⟩
        · have HE := Lib.hid (rdFrame_sum l n k hlen hc)
          have b1 : ((crc ((l.drop (k + 4)).take n) : Int) != (unfour (l.drop k) : Int)) = true := by rw [bne_iff_ne]; omega
          clear hc hlen
          go_wp2_with fail
          go_quiet (first
            | (go_at_call 14; exact q_same (refSum_any _ _ B _ (HC.out.drewN _)))
            | (go_at_call 37; exact q_drew (refReadFour_any _ _ B _ (HD.out.drewN _) HS4.out)))
          go_wp2_with fail
          go_ret3
          exact ⟨_, ret3b HE.out rfl rfl, by rw [HE.out]; exact Rd.none_ _ _, nq, rfl⟩
      · have HE := Lib.hid (rdFrame_err l 11 (rdLen_short l 67108864 4 n k hr hv hl) (by decide))
        clear hr h4
        by_cases hk4 : l.length < k + 4
        · have d2 : decide ((l.length : Int) - (k : Int) < 4) = true := by simp; omega
          go_wp2_with fail
          go_ret3
          exact ⟨_, ret3b HE.out rfl rfl, by rw [HE.out]; exact Rd.none_ _ _, 0, rfl⟩
        · have d2 : decide ((l.length : Int) - (k : Int) < 4) = false := by simp; omega
          have d3 : decide ((l.length : Int) - (k : Int) - 4 < (n : Int)) = true := by simp; omega
          go_wp2_with fail
          go_ret3
          exact ⟨_, ret3b HE.out rfl rfl, by rw [HE.out]; exact Rd.none_ _ _, 0, rfl⟩
  · rw [hr]
    have HE := Lib.hid (rdFrame_err l 11 (rdLen_err l 67108864 4 11 hr (by decide)) (by decide))
    clear hr
    go_wp2_with fail
    go_ret3
    exact ⟨_, ret3b HE.out rfl rfl, by rw [HE.out]; exact Rd.none_ _ _, 0, rfl⟩
  · rw [hr]
    have HE := Lib.hid (rdFrame_err l 12 (rdLen_err l 67108864 4 12 hr (by decide)) (by decide))
    clear hr
    go_wp2_with fail
    go_ret3
    exact ⟨_, ret3b HE.out rfl rfl, by rw [HE.out]; exact Rd.none_ _ _, 0, rfl⟩

set_option maxRecDepth 100000 in
set_option maxHeartbeats 1000000 in
theorem readFrame_any (v : Value) (l : List UInt8) (B : Nat) (w : World) (h : Rd w B v l) (hB : B ≤ w.heap.size) (ht : Tabs w) :
    Calls Tryd.prog 21 #[v] w fun e w' =>
      ∃ v', e = .returned (.tuple #[v', .int .i64 ((rdFrame l).2.1 : Int), .int .i64 ((rdFrame l).2.2 : Int)]) ∧ Rd w' w'.heap.size v' (rdFrame l).1 ∧ (∀ k, v'.ownBlock = some k → w.heap.size ≤ k) ∧ Below w.heap.size w w' := by
  have HR := Lib.hid h
  have HT := Lib.hid ht
  obtain ⟨p, cap, rfl, hlc, hl47, hcm, hat⟩ := h.form
  clear h hat ht
  go_enter Tryd.func21, Tryd.ntmps21
  go_wp2_with fail
  refine (readLength_any _ l 67108864 4 B w HR.out (by omega) (by omega)).mono ?_
  rintro e w1 ⟨rfl, rfl⟩
  rcases rdLen_form l 67108864 4 with ⟨n, k, hr, hnum, hv, hl, h1, h2⟩ | ⟨e, hr, he⟩
  · rw [hr]
    obtain ⟨p2, cap2, hcut, hsl⟩ := cut_run (n := k + 4) (m := n) HR.out (by omega)
    obtain ⟨p3, cap3, htl, hsl3⟩ := tail_run (n := k) HR.out (by omega)
    have HC := Lib.hid hcut
    have HL := Lib.hid (RdL.one hcut hB 28)
    have HBl := Lib.hid (below_alloc w (.cells #[.slice p2 n cap2] 28))
    have HC1 := Lib.hid (hcut.under HBl.out hB)
    have HD1 := Lib.hid (htl.under HBl.out hB)
    have HT1 := Lib.hid (HT.out.under HBl.out HT.out.two)
    have HD := Lib.hid htl
    clear hnum hcut htl
    have e4 : ((k + 4 : Nat) : Int) = (k : Int) + 4 := by omega
    rw [e4] at hsl
    clear e4
    have h4d : 4 ≤ (l.drop k).length := by rw [List.length_drop]; omega
    have HS4 := Lib.hid h4d
    clear h4d
    by_cases hc : crc ((l.drop (k + 4)).take n) = unfour (l.drop k)
    · have HE := Lib.hid (rdFrame_ok l n k hr hc)
      have b1 : ((crc ((l.drop (k + 4)).take n) : Int) != (unfour (l.drop k) : Int)) = false := by simp [hc]
      clear hc hr
      go_wp2_with fail
      go_region_with (first
        | (go_at_call 13; refine (sum_any _ [(l.drop (k + 4)).take n] (w.heap.size + 1) _ (by exact HL.out.heap rfl) (by exact HT1.out.heap rfl)).mono ?_; rintro e w' ⟨rfl, m, rfl⟩)
        | (go_at_call 36; refine (readSum_any _ (l.drop k) B _ (by exact HD.out.heap rfl) HS4.out).mono ?_; rintro e w' ⟨rfl, m, rfl⟩)
        | (go_at_call 36; refine (readSum_any _ (l.drop k) B _ (by exact HD1.out.heap rfl) HS4.out).mono ?_; rintro e w' ⟨rfl, m, rfl⟩))
      go_wp2_with fail
      refine (clone_any _ _ B _ (by exact HC1.out.heap rfl) (by simp; omega)).mono ?_
      rintro e w2 ⟨v2, rfl, hrd2, hnew2, hb2⟩
      go_wp2_with fail
      go_ret3
      have hb3 := hb2.mono (B' := w.heap.size) (by simp)
      exact ⟨_, ret3b HE.out (by omega) rfl, by rw [HE.out]; exact hrd2, (fun k hk => by have := hnew2 k hk; simp at this; omega), Below.trans (by exact below_heap HBl.out rfl rfl rfl rfl) hb3⟩
    · have HE := Lib.hid (rdFrame_sum l n k hr hc)
      have b1 : ((crc ((l.drop (k + 4)).take n) : Int) != (unfour (l.drop k) : Int)) = true := by rw [bne_iff_ne]; omega
      clear hc hr
      go_wp2_with fail
      go_region_with (first
        | (go_at_call 13; refine (sum_any _ [(l.drop (k + 4)).take n] (w.heap.size + 1) _ (by exact HL.out.heap rfl) (by exact HT1.out.heap rfl)).mono ?_; rintro e w' ⟨rfl, m, rfl⟩)
        | (go_at_call 36; refine (readSum_any _ (l.drop k) B _ (by exact HD.out.heap rfl) HS4.out).mono ?_; rintro e w' ⟨rfl, m, rfl⟩)
        | (go_at_call 36; refine (readSum_any _ (l.drop k) B _ (by exact HD1.out.heap rfl) HS4.out).mono ?_; rintro e w' ⟨rfl, m, rfl⟩))
      go_wp2_with fail
      go_ret3
      exact ⟨_, ret3b HE.out rfl rfl, by rw [HE.out]; exact Rd.none_ _ _, (fun k hk => by cases hk), below_heap HBl.out rfl rfl rfl rfl⟩
  · rw [hr]
    have HE := Lib.hid (rdFrame_err l e hr (by omega))
    have e0 : ((e : Int) != 0) = true := by rw [bne_iff_ne]; omega
    clear hr he
    go_wp2_with fail
    go_ret3
    exact ⟨_, ret3b HE.out rfl rfl, by rw [HE.out]; exact Rd.none_ _ _, (fun k hk => by cases hk), Below.refl _ _⟩
end Go.Proofs.YtjhafhfneedmjaaDoor
