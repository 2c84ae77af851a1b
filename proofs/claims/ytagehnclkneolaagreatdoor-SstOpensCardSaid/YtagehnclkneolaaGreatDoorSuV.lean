/-
  errors.Is at a *sst.Wrong and the number that it wraps; the numbers' texts, decimals, (*sst.Wrong).Error (not pruned).
-/
import Derived.Test.YtagehnclkneolaaGreatDoorSuW
import Derived.Test.YtagehnclkneolaaGreatDoorShelfI
import Derived.Lib.IfaceEq
import Derived.Lib.ItoaNum
import Derived.Lib.QuietBelow
namespace Go.Proofs.YtagehnclkneolaaGreatDoor
open Go.RowKit Go.Extern.Stop Go.Stop Go.Extern

theorem isF.typeOf (v : Value) (w : World) : (ReflectliteType.typeOf #[.iface 51 v]).run Tryz.prog w = .ok (.iface 149 (.agg #[.pointer (some ⟨7, 51, none⟩)])) w := by kernel_rfl
noncomputable def isF.entry : Array Value → Sem Value := ReflectliteType.method fun t => do Rtype.noPackHeld "Comparable" t; pure (.bool (← typeInfo t).comparable)
theorem isF.comparable (w : World) : (isF.entry #[.agg #[.pointer (some ⟨7, 51, none⟩)]]).run Tryz.prog w = .ok (.bool true) w := by kernel_rfl
theorem isF.methodComparable (v : Value) (w : World) : (Go.method 335 149 v "Comparable").run Tryz.prog w = .ok (153, v) w := by kernel_rfl
theorem isF.noIs (v : Value) (xT : TypeId) (w : World) : (Instr.typeAssert (.iface 61 v) xT 161 true).run Tryz.prog w = .ok (.tuple #[.nilIface, .bool false]) w := run_typeAssert_lacksB Tryz.underlying161 (by kernel_rfl) (by kernel_rfl) v xT w
theorem isF.hasUnwrap (v : Value) (xT : TypeId) (w : World) : (Instr.typeAssert (.iface 61 v) xT 156 true).run Tryz.prog w = .ok (.tuple #[.iface 61 v, .bool true]) w := run_typeAssert_hasB Tryz.underlying156 (by kernel_rfl) v xT w
theorem isF.methodUnwrap (v : Value) (w : World) : (Go.method 335 61 v "Unwrap").run Tryz.prog w = .ok (147, v) w := by kernel_rfl

set_option maxRecDepth 100000 in
set_option maxHeartbeats 4000000 in
/-- errors.Is(e, x), e a *sst.Wrong whose number is x. -/
theorem is_wrong (g : Nat) (x : Int) (w : World) (h1 : w.cell? ⟨g, 1, none⟩ = some (.int .i64 x)) :
    Calls Tryz.prog 24 #[.iface 61 (.pointer (some ⟨g, 0, none⟩)), .iface 51 (.int .i64 x)] w fun e w' => e = .returned (.bool true) ∧ w = w' := by
  have h8 := @run_callFunc_extern Tryz.prog 54 _ ReflectliteType.typeOf Tryz.func54 (by kernel_rfl) (by kernel_rfl) (by kernel_rfl) (by kernel_rfl)
  have h32 := @run_callFunc_extern Tryz.prog 153 _ isF.entry Tryz.func153 (by kernel_rfl) (by kernel_rfl) (by kernel_rfl) (by kernel_rfl)
  have tT := isF.typeOf
  have cT := isF.comparable
  have mR := isF.methodComparable
  have nE := isF.noIs
  have uW := isF.hasUnwrap
  have mU := isF.methodUnwrap
  have hty := run_eql_iface_types (P := Tryz.prog) 61 51 (.pointer (some ⟨g, 0, none⟩)) (.int .i64 x) Tryz.underlying55 (by decide) w
  have heq := Lib.run_eql_iface_int (P := Tryz.prog) w (t := 55) (tx := 51) (k := .i64) x x Tryz.underlying55 (by kernel_rfl) Tryz.underlying51
  go_enter Tryz.func24, Tryz.ntmps24
  go_wp2
  refine wp_loop_rounds 2 ?_
  rw [rounds_succ]
  go_wp2
  rw [rounds_succ]
  go_wp2
  go_ret
  exact ⟨rfl, rfl⟩
end Go.Proofs.YtagehnclkneolaaGreatDoor
