/-
  The walk over few of acts on a log: it counts, and changes nothing.
-/
import Derived.Test.YtlbfgkocpjlamaaGreatDoorAcK
import Derived.Deep.CutBlock
import Derived.BigQuiet
import Derived.Deep.QuietTactic
namespace Go.Proofs.YtlbfgkocpjlamaaGreatDoor
open Go.RowKit

theorem fln_sn (ls : List (List UInt8)) (k : Nat) (h : k < ls.length) : fln (ls.take (k + 1)) = fln (ls.take k) + ls[k].length := by
  unfold fln
  rw [take_snoc ls k _ (List.getElem?_eq_getElem h), List.flatten_append, List.length_append]
  simp
theorem fln_tk (ls : List (List UInt8)) (k : Nat) : fln (ls.take k) ≤ fln ls := by
  unfold fln
  conv => rhs; rw [← List.take_append_drop k ls, List.flatten_append, List.length_append]
  omega

set_option maxRecDepth 100000 in
set_option maxHeartbeats 4000000 in
theorem few_any (w : World) (S : Nat → Prop) (v : Value) (xs : List WAct) (h : RdK w S v xs) (hf : ∀ x ∈ xs, FitK x) (hl : xs.length ≤ 1048576) (r : Bool) (hr : (decide (xs.length ≤ 300) && decide (cntX xs ≤ 65536)) = r) :
    Calls Tryz.prog 7 #[v] w fun e w' => e = .returned (.bool r) ∧ ∃ n, w' = w.drewN n := by
  have HV := Lib.hid h
  have HF := Lib.hid hf
  have HR := Lib.hid hr
  have hle := cntX_le xs hf
  have hct : cntX xs ≤ 3298534883328 := by omega
  obtain ⟨p, cap, rfl, hlc, hl47, hcm⟩ := h.form
  clear h hf hr hle
  go_enter Tryz.func7, Tryz.ntmps7
  go_wp2_with fail
  go_loopw [3, 4, 5] (fun n i _ wr => ∃ (k m : Nat), k ≤ xs.length ∧ n = .int .i64 (cntX (xs.take k) : Int) ∧ i = .int .i64 (k : Int) ∧ wr = w.drewN m) (fun _ i _ _ => xs.length - (intOf i).toNat)
  case atStart => exact ⟨0, 0, by omega, by simp [cntX], rfl, rfl⟩
  case round =>
    obtain ⟨k, m, hk, rfl, rfl, rfl⟩ := hrel
    have hck := cntX_take xs k
    by_cases hlt : k < xs.length
    · obtain ⟨b, off, lv, pp, pc, rfl, hb, hS, hA, d0, d1, d2, d3⟩ := HV.out.at_ (List.getElem?_eq_getElem hlt)
      have HSn := Lib.hid (cntX_snoc xs k hlt)
      have HSt := cntX_take xs (k + 1)
      have hfit := HF.out xs[k] (List.getElem_mem hlt)
      generalize xs[k] = x at *
      have HA := Lib.hid hA
      obtain ⟨p1, c1, rfl, h11, h12, h13⟩ := hA.shape
      have hx1 := hfit.len
      have hx2 := hfit.np
      have hx3 := hfit.fl
      rw [HSn.out] at HSt
      generalize hC : cntX (xs.take k) = C at *
      clear hA hfit hC
      go_wp2_with fail
      go_quiet (fail)
      go_wp2_with fail
      rename_i nq
      clear d0 d1 d3
      go_loopw [3, 5] (fun n j wr => ∃ (l m2 : Nat), l ≤ x.l.length ∧ n = .int .i64 ((C + x.l.length + x.np + fln (x.l.take l) : Nat) : Int) ∧ j = .int .i64 (l : Int) ∧ wr = w.drewN m2) (fun _ j _ => x.l.length - (intOf j).toNat)
      case atStart => exact ⟨0, _, by omega, by go_num, rfl, World.drewN_drewN _ _ _⟩
      case round =>
        obtain ⟨l, m2, hl2, rfl, rfl, rfl⟩ := hrel
        have hft := fln_tk x.l l
        by_cases hll : l < x.l.length
        · obtain ⟨b3, off3, u3, rfl, hb3, hT3, hc3, hu3⟩ := HA.out.at_ hll
          have HFs := Lib.hid (fln_sn x.l l hll)
          have hft2 := fln_tk x.l (l + 1)
          rw [HFs.out] at hft2
          generalize x.l[l] = s at *
          obtain ⟨p4, c4, rfl, _⟩ := hu3.form
          rw [bs_length] at *
          generalize fln (x.l.take l) = G at *
          clear hu3
          go_wp2_with fail
          go_roundw
          case rel => exact ⟨l + 1, m2, by omega, by rw [HFs.out]; go_num, by go_num, rfl⟩
          case measure => simp [intOf]; omega
        · have hll2 : l = x.l.length := by omega
          subst hll2
          rw [List.take_length] at *
          go_wp2_with fail
          go_roundw
          case rel => exact ⟨k + 1, m2, by omega, by rw [HSn.out]; unfold cntA; congr 2; omega, by go_num, rfl⟩
          case measure => simp [intOf]; omega
    · have hk2 : k = xs.length := by omega
      subst hk2
      rw [List.take_length]
      by_cases q1 : xs.length ≤ 300
      · by_cases q2 : cntX xs ≤ 65536
        · have hrt : r = true := by rw [← HR.out]; simp [q1, q2]
          subst hrt
          generalize cntX xs = C at *
          go_wp2_with fail
          go_ret
          exact ⟨by first | rfl | (simp; omega), _, rfl⟩
        · have hrt : r = false := by rw [← HR.out]; simp [q2]
          subst hrt
          generalize cntX xs = C at *
          go_wp2_with fail
          go_ret
          exact ⟨by first | rfl | (simp; omega), _, rfl⟩
      · have hrt : r = false := by rw [← HR.out]; simp [q1]
        subst hrt
        go_wp2_with fail
        go_ret
        exact ⟨by first | rfl | (simp; omega), _, rfl⟩
end Go.Proofs.YtlbfgkocpjlamaaGreatDoor
