/-
  The walk over few: some answer, nothing changed.
-/
import Derived.Test.YtlekffhacmdnnaaActM
namespace Go.Proofs.Ytlekffhacmdnnaa
open Go.RowKit

def SomeBool (e : Ending) : Prop := ∃ r, e = .returned (.bool r)
theorem someBool (r : Bool) : SomeBool (.returned (.bool r)) := ⟨r, rfl⟩

set_option maxRecDepth 100000 in
set_option maxHeartbeats 4000000 in
theorem few_any (w : World) (S : Nat → Prop) (v : Value) (xs : List PAct) (h : RdA w S v xs) :
    Calls Try.prog 9 #[v] w fun e w' => SomeBool e ∧ ∃ n, w' = w.drewN n := by
  have HV := Lib.hid h
  obtain ⟨p, cap, rfl, hlc, hl47, hcm⟩ := h.form
  clear h
  go_enter Try.func9, Try.ntmps9
  go_wp2_with fail
  go_loopw [3, 4, 5] (fun n i _ wr => ∃ (N : Int) (k m : Nat), k ≤ xs.length ∧ n = .int .i64 N ∧ i = .int .i64 (k : Int) ∧ wr = w.drewN m) (fun _ i _ _ => xs.length - (intOf i).toNat)
  case atStart => exact ⟨0, 0, 0, by omega, rfl, rfl, rfl⟩
  case round =>
    obtain ⟨N, k, m, hk, rfl, rfl, rfl⟩ := hrel
    by_cases hlt : k < xs.length
    · obtain ⟨b, off, nv, bv, pv, rfl, hb, hS, hA, d0, d1, d2, d3, d4, d5⟩ := HV.out.at_ (List.getElem?_eq_getElem hlt)
      generalize xs[k] = x at *
      have HA := Lib.hid hA
      obtain ⟨p1, c1, rfl, h11, h12, h13⟩ := hA.names.formS
      obtain ⟨p2, c2, rfl, h21, h22, h23⟩ := hA.bytes.form
      obtain ⟨p3, c3, rfl, h31, h32, h33⟩ := hA.picks.form
      rw [bs_length] at *
      rw [List.length_map] at *
      clear hA
      go_wp2_with fail
      go_quiet (fail)
      go_wp2_with fail
      rename_i nq
      clear d0 d1 d2 d4 d5
      go_loopw [3, 5] (fun n j wr => ∃ (N2 : Int) (l m2 : Nat), l ≤ x.names.length ∧ n = .int .i64 N2 ∧ j = .int .i64 (l : Int) ∧ wr = w.drewN m2) (fun _ j _ => x.names.length - (intOf j).toNat)
      case atStart => exact ⟨_, 0, _, by omega, rfl, rfl, World.drewN_drewN _ _ _⟩
      case round =>
        obtain ⟨N2, l, m2, hl, rfl, rfl, rfl⟩ := hrel
        by_cases hll : l < x.names.length
        · obtain ⟨b3, off3, rfl, hb3, hT3, hc3⟩ := HA.out.names.at_ hll
          generalize x.names[l] = s at *
          go_wp2_with fail
          go_roundw
          case rel => exact ⟨_, l + 1, m2, by omega, rfl, by go_num, rfl⟩
          case measure => simp [intOf]; omega
        · go_wp2_with fail
          go_roundw
          case rel => exact ⟨_, k + 1, m2, by omega, rfl, by go_num, rfl⟩
          case measure => simp [intOf]; omega
    · go_wp2_with fail
      all_goals
        go_ret
        exact ⟨someBool _, _, rfl⟩
end Go.Proofs.Ytlekffhacmdnnaa
