/-
  The walks over what compares versions: cmp.Compare, cmp.Or, version.compare.
-/
import Derived.Test.YteclnnjijfbfoaaEnC
import Derived.Test.YteclnnjijfbfoaaClR
import Derived.Test.YteclnnjijfbfoaaShelf
namespace Go.Proofs.Yteclnnjijfbfoaa
open Go.RowKit

/-- A version as the table keeps it. -/
def verV (e : Ent) : Value := .agg #[.string ⟨e.key.toArray⟩, .int .u64 (e.seq : Int), .bool e.gone, .string ⟨e.val.toArray⟩]
def cmpU (a b : Nat) : Int := if a < b then -1 else if b < a then 1 else 0
theorem compareBytes_is : ∀ (a b : List UInt8), Lib.compareBytes a b = if Op.bytesLess a b = true then -1 else if a = b then 0 else 1
  | [], [] => by simp [Lib.compareBytes, Op.bytesLess]
  | [], _ :: _ => by simp [Lib.compareBytes, Op.bytesLess]
  | _ :: _, [] => by simp [Lib.compareBytes, Op.bytesLess]
  | x :: r, y :: s => by
    have ih := compareBytes_is r s
    simp only [Lib.compareBytes, Op.bytesLess, ih, Bool.or_eq_true, Bool.and_eq_true, decide_eq_true_eq, beq_iff_eq, List.cons.injEq]
    by_cases h1 : x < y
    · simp [h1]
    · by_cases h2 : y < x
      · have hne : ¬ x = y := fun e => by subst e; exact h1 h2
        simp [h1, h2, hne]
      · have he : x = y := UInt8.le_antisymm (UInt8.not_lt.1 h2) (UInt8.not_lt.1 h1)
        subst he
        simp [h1]
set_option maxRecDepth 100000 in
set_option maxHeartbeats 1000000 in
theorem nan_u64 (w : World) (a : Nat) : Calls Try.prog 62 #[.int .u64 (a : Int)] w fun r w' => r = .returned (.bool false) ∧ w' = w := by
  have hq : ((a : Int) != (a : Int)) = false := by simp
  go_enter Try.func62, Try.ntmps62
  go_wp2_with fail
  go_ret
  exact ⟨rfl, rfl⟩
set_option maxRecDepth 100000 in
set_option maxHeartbeats 1000000 in
theorem cmp_u64 (w : World) (a b : Nat) : Calls Try.prog 52 #[.int .u64 (a : Int), .int .u64 (b : Int)] w fun r w' => r = .returned (.int .i64 (cmpU a b)) ∧ w' = w := by
  have H1 := Lib.hid (nan_u64 w a)
  have H2 := Lib.hid (nan_u64 w b)
  obtain ⟨c, hc⟩ : ∃ c, cmpU a b = c := ⟨_, rfl⟩
  rw [hc]
  have hways : (a < b ∧ c = -1) ∨ (¬ a < b ∧ b < a ∧ c = 1) ∨ (¬ a < b ∧ ¬ b < a ∧ c = 0) := by
    rw [← hc]
    unfold cmpU
    by_cases h1 : a < b
    · exact .inl ⟨h1, by simp [h1]⟩
    · by_cases h2 : b < a
      · exact .inr (.inl ⟨h1, h2, by simp [h1, h2]⟩)
      · exact .inr (.inr ⟨h1, h2, by simp [h1, h2]⟩)
  clear hc
  rcases hways with ⟨q1, rfl⟩ | ⟨q1, q2, rfl⟩ | ⟨q1, q2, rfl⟩
  all_goals
    go_enter Try.func52, Try.ntmps52
    go_wp2_with (first | (go_at_call 62; refine H1.out.mono ?_; rintro r w1 ⟨rfl, rfl⟩) | (go_at_call 62; refine H2.out.mono ?_; rintro r w1 ⟨rfl, rfl⟩))
    go_ret
    exact ⟨rfl, rfl⟩
/-- The first of two that is not 0. -/
def orI (x y : Int) : Int := if x = 0 then y else x
set_option maxRecDepth 100000 in
set_option maxHeartbeats 1000000 in
theorem cmp_or (w : World) (b c : Nat) (x y : Int) (h0 : w.cell? ⟨b, 0, none⟩ = some (.int .i64 x)) (h1 : w.cell? ⟨b, 1, none⟩ = some (.int .i64 y)) :
    Calls Try.prog 50 #[.slice (some ⟨b, 0, none⟩) 2 c] w fun r w' => r = .returned (.int .i64 (orI x y)) ∧ w' = w := by
  go_enter Try.func50, Try.ntmps50
  go_wp2_with fail
  go_loop [8] (fun i => i = .int .i64 0 ∨ (i = .int .i64 1 ∧ x = 0) ∨ (i = .int .i64 2 ∧ x = 0 ∧ y = 0)) (fun i => 2 - (intOf i).toNat)
  case atStart => exact .inl rfl
  case round =>
    rcases hrel with rfl | ⟨rfl, hx⟩ | ⟨rfl, hx, hy⟩
    · by_cases hq : x = 0
      · have q1 : (x != 0) = false := by simp [hq]
        have HQ := Lib.hid hq
        clear hq
        go_wp2_with fail
        go_round
        case rel => exact .inr (.inl ⟨rfl, HQ.out⟩)
        case measure => simp [intOf]
      · have q1 : (x != 0) = true := by simp [hq]
        have HR : Hid (orI x y = x) := Lib.hid (by unfold orI; rw [if_neg hq])
        clear hq
        go_wp2_with fail
        go_ret
        exact ⟨ret_int HR.out.symm, rfl⟩
    · have HX := Lib.hid hx
      clear hx
      by_cases hq : y = 0
      · have q1 : (y != 0) = false := by simp [hq]
        have HQ := Lib.hid hq
        clear hq
        go_wp2_with fail
        go_round
        case rel => exact .inr (.inr ⟨rfl, HX.out, HQ.out⟩)
        case measure => simp [intOf]
      · have q1 : (y != 0) = true := by simp [hq]
        have HR : Hid (orI x y = y) := Lib.hid (by unfold orI; rw [if_pos HX.out])
        clear hq
        go_wp2_with fail
        go_ret
        exact ⟨ret_int HR.out.symm, rfl⟩
    · have HR : Hid (orI x y = 0) := Lib.hid (by unfold orI; rw [if_pos hx, hy])
      clear hx hy
      go_wp2_with fail
      go_ret
      exact ⟨ret_int HR.out.symm, rfl⟩
theorem orI_cmp (a b : Ent) : orI (Lib.compareBytes a.key b.key) (cmpU b.seq a.seq) = cmpE a b := by
  rw [compareBytes_is]
  unfold orI cmpU cmpE lessE atE
  rcases h1 : Op.bytesLess a.key b.key with _ | _
  · by_cases h2 : a.key = b.key
    · by_cases h3 : b.seq < a.seq
      · simp [h2, h3]
      · by_cases h4 : a.seq < b.seq
        · have : a.seq ≠ b.seq := by omega
          simp [h2, h3, h4, this]
        · have : a.seq = b.seq := by omega
          simp [h2, this]
    · simp [h2]
  · simp

end Go.Proofs.Yteclnnjijfbfoaa
