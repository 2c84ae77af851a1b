/-
  The walks over glacierref6.Prune, and over glacierref6.Seen where the list is not right.
-/
import Derived.Test.YtbjdopbbejgkiaaMgC
namespace Go.Proofs.Ytbjdopbbejgkiaa
open Go.RowKit

set_option maxRecDepth 100000 in
set_option maxHeartbeats 1000000 in
theorem r6_seen_no (w : World) (F : Nat → Prop) (v : Value) (es : List Ent) (h : En w F v es) (hR : rightE es = false) (up : Nat) :
    Calls Try.prog 10 #[v, .int .u64 (up : Int)] w fun r w' => r = .returned (.tuple #[.slice none 0 0, .int .i64 15]) ∧ Below w.heap.size w w' := by
  have HRt := Lib.hid (r6_right w F v es h)
  obtain ⟨p, cap, rfl, hlc, hl47, hcm, _⟩ := h.form
  rw [hR] at HRt
  clear h hR
  go_enter Try.func10, Try.ntmps10
  go_wp2_with fail
  refine HRt.out.mono ?_
  rintro r w1 ⟨rfl, hb1⟩
  go_wp2_with fail
  go_ret2
  exact ⟨rfl, hb1⟩
end Go.Proofs.Ytbjdopbbejgkiaa
