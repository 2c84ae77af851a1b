/-
  The walks over functions that go over versions and only read them: glacierlaw5.Few, SameRows, glacierref6.Right, glacierref5.From.
-/
import Derived.Test.YthmjpnllphihgaaDoorEnA
import Derived.Deep.CutBlock
import Derived.BigQuiet
import Derived.Deep.QuietTactic
import Derived.StillTailTactics
namespace Go.Proofs.YthmjpnllphihgaaDoor
open Go.RowKit

theorem En.drew {w : World} {F : Nat → Prop} {v : Value} {es : List Ent} (h : En w F v es) : En w.drew F v es := h.below (below_drew (Below.refl _ _))
theorem By.drew {w : World} {F : Nat → Prop} {v : Value} {l : List UInt8} (h : By w F v l) : By w.drew F v l := h.below (below_drew (Below.refl _ _))

set_option maxRecDepth 100000 in
set_option maxHeartbeats 4000000 in
theorem l5_few (w : World) (F : Nat → Prop) (v : Value) (es : List Ent) (h : En w F v es) (hf : ∀ x ∈ es, FitE x) (hl : es.length ≤ 1048576) (most : Int) :
    Calls Tryd.prog 5 #[v, .int .i64 most] w fun e w' => e = .returned (.bool (fewE es most)) ∧ ∃ n, w' = w.drewN n := by
  have HV := Lib.hid h
  have HF := Lib.hid hf
  obtain ⟨r, hr⟩ : ∃ r, fewE es most = r := ⟨_, rfl⟩
  have HR := Lib.hid hr
  have hle := bulkE_fit es hf
  have hct : bulkE es ≤ 2305843009213693952 := by omega
  obtain ⟨p, cap, rfl, hlc, hl47, hcm, _⟩ := h.form
  rw [hr]
  clear h hf hr hle
  go_enter Tryd.func5, Tryd.ntmps5
  go_wp2_with fail
  go_loopw [5, 6] (fun n i wr => ∃ (k m : Nat), k ≤ es.length ∧ n = .int .i64 (bulkE (es.take k) : Int) ∧ i = .int .i64 (k : Int) ∧ wr = w.drewN m) (fun _ i _ => es.length - (intOf i).toNat)
  case atStart => exact ⟨0, 0, by omega, by simp [bulkE], rfl, rfl⟩
  case round =>
    obtain ⟨k, m, hk, rfl, rfl, rfl⟩ := hrel
    have hck := bulkE_take es k
    by_cases hlt : k < es.length
    · obtain ⟨b, off, q, c, rfl, hb, hFb, hV, d0, d1, d2, d3⟩ := HV.out.at_ (List.getElem?_eq_getElem hlt)
      have HSn := Lib.hid (bulkE_snoc es k hlt)
      have HSt := bulkE_take es (k + 1)
      have hfit := HF.out es[k] (List.getElem_mem hlt)
      have hx1 := hfit.key
      have hx2 := hfit.val
      have hsz : (⟨es[k].key.toArray⟩ : ByteArray).size = es[k].key.length := by simp [ByteArray.size]
      generalize es[k] = x at *
      rw [HSn.out] at HSt
      generalize hC : bulkE (es.take k) = C at *
      clear hV hfit hC d1 d2
      go_wp2_with fail
      go_quiet (fail)
      go_wp2_with fail
      go_roundw
      case rel => exact ⟨k + 1, _, by omega, by rw [HSn.out]; go_num, by go_num, rfl⟩
      case measure => simp [intOf]; omega
    · have hk2 : k = es.length := by omega
      subst hk2
      rw [List.take_length]
      by_cases q1 : (es.length : Int) ≤ most
      · by_cases q2 : bulkE es ≤ 131072
        · have hrt : r = true := by rw [← HR.out]; simp [fewE, q1, q2]
          subst hrt
          generalize bulkE es = C at *
          go_wp2_with fail
          go_ret
          exact ⟨by first | rfl | (simp; omega), _, rfl⟩
        · have hrt : r = false := by rw [← HR.out]; simp [fewE, q2]
          subst hrt
          generalize bulkE es = C at *
          go_wp2_with fail
          go_ret
          exact ⟨by first | rfl | (simp; omega), _, rfl⟩
      · have hrt : r = false := by rw [← HR.out]; simp [fewE, q1]
        subst hrt
        go_wp2_with fail
        go_ret
        exact ⟨by first | rfl | (simp; omega), _, rfl⟩

end Go.Proofs.YthmjpnllphihgaaDoor
