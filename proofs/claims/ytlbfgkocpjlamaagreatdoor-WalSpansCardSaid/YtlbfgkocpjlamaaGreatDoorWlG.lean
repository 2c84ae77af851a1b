/-
  Rows of payloads compared; the chapter's example.
-/
import Derived.Test.YtlbfgkocpjlamaaGreatDoorWlK
import Derived.Test.YtlbfgkocpjlamaaGreatDoorNewW
import Derived.Test.YtlbfgkocpjlamaaGreatDoorCB
namespace Go.Proofs.YtlbfgkocpjlamaaGreatDoor
open Go.RowKit

set_option maxRecDepth 100000 in
set_option maxHeartbeats 1000000 in
theorem same_rows (w : World) (v u : Value) (ls : List (List UInt8)) (B C : Nat) (hv : RdL w B v ls) (hu : RdL w C u ls) :
    Calls Tryz.prog 14 #[v, u] w fun e w' => e = .returned (.bool true) ∧ ∃ n, w' = w.drewN n := by
  obtain ⟨p, cap, rfl, hlc, hl47, hcm, _⟩ := id hv
  obtain ⟨q, cq, rfl, hlq, _, hcq, _⟩ := id hu
  have HV := Lib.hid hv
  have HU := Lib.hid hu
  clear hv hu
  go_enter Tryz.func14, Tryz.ntmps14
  go_wp2_with fail
  go_loopw [5] (fun i wr => ∃ (k m : Nat), k ≤ ls.length ∧ i = .int .i64 (k : Int) ∧ wr = w.drewN m) (fun i _ => ls.length - (intOf i).toNat)
  case atStart => exact ⟨0, 0, by omega, rfl, rfl⟩
  case round =>
    obtain ⟨k, m, hk, rfl, rfl⟩ := hrel
    by_cases hlt : k < ls.length
    · obtain ⟨b, off, x, rfl, hb, hc, hrx⟩ := HV.out.at_ hlt
      obtain ⟨b2, off2, y, rfl, hb2, hc2, hry⟩ := HU.out.at_ hlt
      generalize ls[k] = l at *
      have hcx : ∀ m : Nat, (Go.convert 41 9 x).run Tryz.prog (w.drewN m) = .ok (.string ⟨l.toArray⟩) (w.drewN m) := fun m => convert_rd (hrx.drewN m)
      have hcy : ∀ m : Nat, (Go.convert 41 9 y).run Tryz.prog (w.drewN m) = .ok (.string ⟨l.toArray⟩) (w.drewN m) := fun m => convert_rd (hry.drewN m)
      obtain ⟨px, cx, rfl, _⟩ := hrx
      obtain ⟨py, cy, rfl, _⟩ := hry
      go_wp2_with fail
      go_quiet (fail)
      go_wp2_with fail
      go_roundw
      case rel => exact ⟨k + 1, _, by omega, by go_num, rfl⟩
      case measure => simp [intOf]; omega
    · go_wp2_with fail
      go_ret
      exact ⟨rfl, m, rfl⟩
end Go.Proofs.YtlbfgkocpjlamaaGreatDoor
