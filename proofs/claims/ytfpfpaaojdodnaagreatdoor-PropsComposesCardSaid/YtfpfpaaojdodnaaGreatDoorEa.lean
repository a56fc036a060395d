/- Errors of package api: errors.Is at a fault and at a number; errors.As at a fault. -/
import Derived.Test.YtfpfpaaojdodnaaGreatDoorProg
import Derived.Test.YtfpfpaaojdodnaaGreatDoorGz5
import Derived.WalkKit
import Derived.LaidEql
import Derived.Stop.Asserts
import Derived.RowKitTokens
import Derived.Lib.Hide
namespace Go.Proofs.YtfpfpaaojdodnaaGreatDoor
open Go Go.RowKit Go.Kt Go.Extern.Stop Go.Stop Go.Extern

abbrev fv (k l a : Int) : Value := .agg #[.int .i64 k, .int .i64 l, .int .i64 a]

theorem errno_eq (a b : Int) (w : World) : (binOp .eql 25 (.iface 60 (.int .i64 a)) (.iface 60 (.int .i64 b))).run Tryz.prog w = .ok (.bool (a == b)) w := by
  obtain ⟨i, hi, hc⟩ := Option.map_eq_some_iff.1 (show (Tryz.prog.info? 60).map (·.comparable) = some true by kernel_rfl)
  have h1 : ∀ d, (Op.equalIn (d + 2) 25 (.iface 60 (.int .i64 a)) (.iface 60 (.int .i64 b))).run Tryz.prog w = .ok (a == b) w := fun d => by
    simp [Op.equalIn, run_underlying Tryz.underlying25, run_underlying Tryz.underlying60, typeInfo, hi, hc]
  simp only [binOp]
  simp [Op.equal, Op.maxDepth, h1 9998]

def xComparable : Array Value → Sem Value := ReflectliteType.method fun t => do Rtype.noPackHeld "Comparable" t; pure (.bool (← typeInfo t).comparable)
theorem errTypeOf (v : Value) (w : World) : (ReflectliteType.typeOf #[.iface 60 v]).run Tryz.prog w = .ok (.iface 344 (.agg #[.pointer (some ⟨11, 60, none⟩)])) w := by kernel_rfl
theorem errComparable (w : World) : (xComparable #[.agg #[.pointer (some ⟨11, 60, none⟩)]]).run Tryz.prog w = .ok (.bool true) w := by kernel_rfl
theorem errMethodComparable (v : Value) (w : World) : (Go.method 554 344 v "Comparable").run Tryz.prog w = .ok (298, v) w := by kernel_rfl
theorem errNoIsF (v : Value) (xT : TypeId) (w : World) : (Instr.typeAssert (.iface 150 v) xT 377 true).run Tryz.prog w = .ok (.tuple #[.nilIface, .bool false]) w := run_typeAssert_lacksB Tryz.underlying377 (by kernel_rfl) (by kernel_rfl) v xT w
theorem errNoIsE (v : Value) (xT : TypeId) (w : World) : (Instr.typeAssert (.iface 60 v) xT 377 true).run Tryz.prog w = .ok (.tuple #[.nilIface, .bool false]) w := run_typeAssert_lacksB Tryz.underlying377 (by kernel_rfl) (by kernel_rfl) v xT w
theorem errNoUnwrapE (v : Value) (xT : TypeId) (w : World) : (Instr.typeAssert (.iface 60 v) xT 351 true).run Tryz.prog w = .ok (.tuple #[.nilIface, .bool false]) w := run_typeAssert_lacksB Tryz.underlying351 (by kernel_rfl) (by kernel_rfl) v xT w
theorem errNoUnwrapsE (v : Value) (xT : TypeId) (w : World) : (Instr.typeAssert (.iface 60 v) xT 353 true).run Tryz.prog w = .ok (.tuple #[.nilIface, .bool false]) w := run_typeAssert_lacksB Tryz.underlying353 (by kernel_rfl) (by kernel_rfl) v xT w
theorem errHasUnwrapF (v : Value) (xT : TypeId) (w : World) : (Instr.typeAssert (.iface 150 v) xT 351 true).run Tryz.prog w = .ok (.tuple #[.iface 150 v, .bool true]) w := run_typeAssert_hasB Tryz.underlying351 (by kernel_rfl) v xT w
theorem errMethodUnwrap (v : Value) (w : World) : (Go.method 554 150 v "Unwrap").run Tryz.prog w = .ok (292, v) w := by kernel_rfl

set_option maxRecDepth 100000 in
theorem is_fault (k l a n : Int) (w : World) :
    Calls Tryz.prog 159 #[.iface 150 (fv k l a), .iface 60 (.int .i64 n)] w fun e w' => e = .returned (.bool (k == n)) ∧ Below w.heap.size w w' := by
  have h8 := @run_callFunc_extern Tryz.prog 206 _ ReflectliteType.typeOf Tryz.func206 (by kernel_rfl) (by kernel_rfl) (by kernel_rfl) (by kernel_rfl)
  have h32 := @run_callFunc_extern Tryz.prog 298 _ xComparable Tryz.func298 (by kernel_rfl) (by kernel_rfl) (by kernel_rfl) (by kernel_rfl)
  have tT := errTypeOf
  have cT := errComparable
  have mR := errMethodComparable
  have nF := errNoIsF
  have nE := errNoIsE
  have uE := errNoUnwrapE
  have vE := errNoUnwrapsE
  have uF := errHasUnwrapF
  have mU := errMethodUnwrap
  have hty := run_eql_iface_types (P := Tryz.prog) 150 60 (fv k l a) (.int .i64 n) Tryz.underlying25 (by decide)
  have heq := errno_eq k n
  by_cases hkn : k = n
  · subst hkn
    have hb : (k == k) = true := by simp
    rw [hb] at heq ⊢
    clear hb
    go_enter Tryz.func159, Tryz.ntmps159
    go_wp2
    refine wp_loop_rounds 2 ?_
    rw [rounds_succ]
    go_wp2
    rw [rounds_succ]
    go_wp2
    go_ret
    exact ⟨rfl, (Below.refl _ _).alloc (Nat.le_refl _) _⟩
  · have hb : (k == n) = false := by simp [hkn]
    rw [hb] at heq ⊢
    clear hb
    go_enter Tryz.func159, Tryz.ntmps159
    go_wp2
    refine wp_loop_rounds 2 ?_
    rw [rounds_succ]
    go_wp2
    rw [rounds_succ]
    go_wp2
    go_ret
    exact ⟨rfl, (Below.refl _ _).alloc (Nat.le_refl _) _⟩

end Go.Proofs.YtfpfpaaojdodnaaGreatDoor
