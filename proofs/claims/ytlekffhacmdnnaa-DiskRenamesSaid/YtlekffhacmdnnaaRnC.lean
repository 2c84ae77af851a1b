/-
  DiskRenames: all its ways together.
-/
import Derived.Test.YtlekffhacmdnnaaRnW
namespace Go.Proofs.Ytlekffhacmdnnaa
open Go.RowKit

set_option maxRecDepth 100000 in
set_option maxHeartbeats 1000000 in
theorem renames_long (W : World) (v0 v1 : Value) (a b : List UInt8) (x q : Int) (h0 : Rd W W.heap.size v0 a) (h1 : Rd W W.heap.size v1 b) (hl : 10000 < a.length ∨ 10000 < b.length) :
    Calls Try.prog 7 #[v0, v1, .int .i64 x, .int .i64 q] W fun e w' => e = .returned (.bool true) ∧ Below W.heap.size W w' := by
  obtain ⟨p0, cap0, rfl, hc0, hl0, hm0, _⟩ := h0.form
  obtain ⟨p1, cap1, rfl, hc1, hl1, hm1, _⟩ := h1.form
  clear h0 h1
  by_cases ha : 10000 < a.length
  all_goals
    go_enter Try.func7, Try.ntmps7
    go_wp2_with fail
    refine (known_any W).mono ?_
    rintro e w0 ⟨rfl, hb0⟩
    go_wp2_with fail
    go_ret
    exact ⟨rfl, hb0⟩

theorem renames_all (W : World) (v0 v1 : Value) (a b : List UInt8) (x q : Int) (h0 : Rd W W.heap.size v0 a) (h1 : Rd W W.heap.size v1 b) (hx : -9223372036854775808 ≤ x ∧ x ≤ 9223372036854775807) (hq : -9223372036854775808 ≤ q ∧ q ≤ 9223372036854775807) :
    Calls Try.prog 7 #[v0, v1, .int .i64 x, .int .i64 q] W fun e w' => e = .returned (.bool true) ∧ Below W.heap.size W w' := by
  by_cases hl : 10000 < a.length ∨ 10000 < b.length
  · exact renames_long W v0 v1 a b x q h0 h1 hl
  · have ha : a.length ≤ 10000 := by omega
    have hb : b.length ≤ 10000 := by omega
    have t1 := Int.tmod_lt_of_pos x (show (0 : Int) < 4 by omega)
    have t2 := Int.lt_tmod_of_pos x (show (0 : Int) < 4 by omega)
    have hm : x.tmod 4 = 0 ∨ x.tmod 4 = 1 ∨ x.tmod 4 = -1 ∨ x.tmod 4 = 2 ∨ x.tmod 4 = -2 ∨ x.tmod 4 = 3 ∨ x.tmod 4 = -3 := by omega
    rcases hm with h | h | h | h | h | h | h
    · exact renames_p0 W v0 v1 a b x q h0 h1 h hx hq ha hb
    · exact renames_p1 W v0 v1 a b x q h0 h1 h hx hq ha hb
    · exact renames_m1 W v0 v1 a b x q h0 h1 h hx hq ha hb
    · exact renames_p2 W v0 v1 a b x q h0 h1 h hx hq ha hb
    · exact renames_m2 W v0 v1 a b x q h0 h1 h hx hq ha hb
    · exact renames_p3 W v0 v1 a b x q h0 h1 h hx hq ha hb
    · exact renames_m3 W v0 v1 a b x q h0 h1 h hx hq ha hb
end Go.Proofs.Ytlekffhacmdnnaa
