/-
  The walks over the reference's disk: find, used, name.
-/
import Derived.Test.YtlekffhacmdnnaaRf
import Derived.Test.YtlekffhacmdnnaaLeafA
import Derived.Maps.RangeWalk
namespace Go.Proofs.Ytlekffhacmdnnaa
open Go.RowKit

set_option maxRecDepth 100000 in
set_option maxHeartbeats 1000000 in
theorem find_any (w : World) (S : Nat → Prop) (rb : Nat) (D : Dsk) (h : Rf w S rb D) (s : List UInt8) :
    Calls Try.prog 47 #[.pointer (some ⟨rb, 0, none⟩), .string ⟨s.toArray⟩] w fun e w' => e = .returned (.tuple #[.int .i64 (plc s D.files : Int), .bool (look s D.files).isSome]) ∧ ∃ n, w' = w.drewN n := by
  obtain ⟨fv, us, h⟩ := h
  have c1 := h.c1
  obtain ⟨p, cap, rfl, hlc, hcm, hat⟩ := h.form
  have HA := Lib.hid hat
  have HS := Lib.hid h.srt
  clear hat h
  go_enter Try.func47, Try.ntmps47
  go_wp2_with fail
  go_loop [6] (fun i => ∃ k : Nat, k ≤ D.files.length ∧ i = .int .i64 (k : Int) ∧ Hid (∀ j f, j < k → D.files[j]? = some f → bytesBefore f.name s = true)) (fun i => D.files.length - (intOf i).toNat)
  case atStart => exact ⟨0, by omega, rfl, Lib.hid fun j f hj => by omega⟩
  case round =>
    obtain ⟨k, hk, rfl, HB⟩ := hrel
    by_cases hlt : k < D.files.length
    · obtain ⟨g, u, rfl, d0, d1, d2, _, _⟩ := HA.out k _ (List.getElem?_eq_getElem hlt)
      have HG : Hid (D.files[k]? = some D.files[k]) := Lib.hid (List.getElem?_eq_getElem hlt)
      generalize D.files[k] = f at *
      rcases hq : bytesBefore f.name s with _ | _
      · have hq2 : Op.bytesLess f.name s = false := (less_eq _ _).trans hq
        have hpl : plc s D.files = k := plc_is s D.files k hk HB.out (fun f' hf' => by
          rw [HG.out] at hf'
          obtain rfl := Option.some.inj hf'
          exact hq)
        have hpl2 := HG.out
        rw [← hpl] at hpl2
        have HI := Lib.hid (find_is HS.out hpl2)
        have HPl := Lib.hid hpl
        clear hq hpl hpl2
        go_wp2_with fail
        go_quiet (fail)
        go_wp2_with fail
        go_ret2
        rw [HPl.out, HI.out]
        exact ⟨rfl, _, rfl⟩
      · have hq2 : Op.bytesLess f.name s = true := (less_eq _ _).trans hq
        have HQ := Lib.hid hq
        clear hq
        go_wp2_with fail
        go_round
        case rel => exact ⟨k + 1, by omega, by go_num, Lib.hid fun j f' hj hf' => by
          rcases Nat.lt_or_ge j k with h | h
          · exact HB.out j f' h hf'
          · obtain rfl : j = k := by omega
            rw [HG.out] at hf'
            obtain rfl := Option.some.inj hf'
            exact HQ.out⟩
        case measure => simp [intOf]; omega
    · have hpl : plc s D.files = D.files.length := by
        have hke : k = D.files.length := by omega
        subst hke
        exact plc_is s D.files _ (Nat.le_refl _) HB.out (fun f' hf' => by
          have := (List.getElem?_eq_some_iff.1 hf').1
          omega)
      have HK := Lib.hid (show D.files.length = k by omega)
      have hd : decide ((k : Int) < (D.files.length : Int)) = false := by simp; omega
      have HPl := Lib.hid hpl
      clear hpl
      go_wp2_with fail
      go_quiet (fail)
      go_wp2_with fail
      go_ret2
      rw [find_end HS.out HPl.out, HPl.out, HK.out]
      exact ⟨rfl, _, rfl⟩
end Go.Proofs.Ytlekffhacmdnnaa
