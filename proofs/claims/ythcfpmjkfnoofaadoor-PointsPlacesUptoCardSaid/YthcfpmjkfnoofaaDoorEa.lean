/- Errors of package api: errors.Is at a fault and at a number; errors.As at a fault. -/
import Derived.Test.YthcfpmjkfnoofaaDoorProg
import Derived.Test.YthcfpmjkfnoofaaDoorK3
import Derived.WalkKit
import Derived.LaidEql
import Derived.Stop.Asserts
import Derived.RowKitTokens
import Derived.Lib.Hide
namespace Go.Proofs.YthcfpmjkfnoofaaDoor
open Go Go.RowKit Go.Kt Go.Extern.Stop Go.Stop Go.Extern

abbrev fv (k l a : Int) : Value := .agg #[.int .i64 k, .int .i64 l, .int .i64 a]

/-- Two numbers of errors, held against each other. -/
theorem errno_eq (a b : Int) (w : World) : (binOp .eql 55 (.iface 99 (.int .i64 a)) (.iface 99 (.int .i64 b))).run Tryd.prog w = .ok (.bool (a == b)) w := by
  obtain ⟨i, hi, hc⟩ := Option.map_eq_some_iff.1 (show (Tryd.prog.info? 99).map (·.comparable) = some true by kernel_rfl)
  have h1 : ∀ d, (Op.equalIn (d + 2) 55 (.iface 99 (.int .i64 a)) (.iface 99 (.int .i64 b))).run Tryd.prog w = .ok (a == b) w := fun d => by
    simp [Op.equalIn, run_underlying Tryd.underlying55, run_underlying Tryd.underlying99, typeInfo, hi, hc]
  simp only [binOp]
  simp [Op.equal, Op.maxDepth, h1 9998]

def xComparable : Array Value → Sem Value := ReflectliteType.method fun t => do Rtype.noPackHeld "Comparable" t; pure (.bool (← typeInfo t).comparable)
theorem errTypeOf (v : Value) (w : World) : (ReflectliteType.typeOf #[.iface 99 v]).run Tryd.prog w = .ok (.iface 204 (.agg #[.pointer (some ⟨10, 99, none⟩)])) w := by kernel_rfl
theorem errComparable (w : World) : (xComparable #[.agg #[.pointer (some ⟨10, 99, none⟩)]]).run Tryd.prog w = .ok (.bool true) w := by kernel_rfl
theorem errMethodComparable (v : Value) (w : World) : (Go.method 374 204 v "Comparable").run Tryd.prog w = .ok (231, v) w := by kernel_rfl
theorem errNoIsF (v : Value) (xT : TypeId) (w : World) : (Instr.typeAssert (.iface 101 v) xT 216 true).run Tryd.prog w = .ok (.tuple #[.nilIface, .bool false]) w := run_typeAssert_lacksB Tryd.underlying216 (by kernel_rfl) (by kernel_rfl) v xT w
theorem errNoIsE (v : Value) (xT : TypeId) (w : World) : (Instr.typeAssert (.iface 99 v) xT 216 true).run Tryd.prog w = .ok (.tuple #[.nilIface, .bool false]) w := run_typeAssert_lacksB Tryd.underlying216 (by kernel_rfl) (by kernel_rfl) v xT w
theorem errNoUnwrapE (v : Value) (xT : TypeId) (w : World) : (Instr.typeAssert (.iface 99 v) xT 211 true).run Tryd.prog w = .ok (.tuple #[.nilIface, .bool false]) w := run_typeAssert_lacksB Tryd.underlying211 (by kernel_rfl) (by kernel_rfl) v xT w
theorem errNoUnwrapsE (v : Value) (xT : TypeId) (w : World) : (Instr.typeAssert (.iface 99 v) xT 213 true).run Tryd.prog w = .ok (.tuple #[.nilIface, .bool false]) w := run_typeAssert_lacksB Tryd.underlying213 (by kernel_rfl) (by kernel_rfl) v xT w
theorem errHasUnwrapF (v : Value) (xT : TypeId) (w : World) : (Instr.typeAssert (.iface 101 v) xT 211 true).run Tryd.prog w = .ok (.tuple #[.iface 101 v, .bool true]) w := run_typeAssert_hasB Tryd.underlying211 (by kernel_rfl) v xT w
theorem errMethodUnwrap (v : Value) (w : World) : (Go.method 374 101 v "Unwrap").run Tryd.prog w = .ok (224, v) w := by kernel_rfl

set_option maxRecDepth 100000 in
/-- errors.Is of a fault and a number. -/
theorem is_fault (k l a n : Int) (w : World) :
    Calls Tryd.prog 133 #[.iface 101 (fv k l a), .iface 99 (.int .i64 n)] w fun e w' => e = .returned (.bool (k == n)) ∧ Below w.heap.size w w' := by
  have h8 := @run_callFunc_extern Tryd.prog 152 _ ReflectliteType.typeOf Tryd.func152 (by kernel_rfl) (by kernel_rfl) (by kernel_rfl) (by kernel_rfl)
  have h32 := @run_callFunc_extern Tryd.prog 231 _ xComparable Tryd.func231 (by kernel_rfl) (by kernel_rfl) (by kernel_rfl) (by kernel_rfl)
  have tT := errTypeOf
  have cT := errComparable
  have mR := errMethodComparable
  have nF := errNoIsF
  have nE := errNoIsE
  have uE := errNoUnwrapE
  have vE := errNoUnwrapsE
  have uF := errHasUnwrapF
  have mU := errMethodUnwrap
  have hty := run_eql_iface_types (P := Tryd.prog) 101 99 (fv k l a) (.int .i64 n) Tryd.underlying55 (by decide)
  have heq := errno_eq k n
  by_cases hkn : k = n
  · subst hkn
    have hb : (k == k) = true := by simp
    rw [hb] at heq ⊢
    clear hb
    go_enter Tryd.func133, Tryd.ntmps133
    go_wp2
    refine wp_loop_rounds 2 ?_
    rw [rounds_succ]
    go_wp2
    rw [rounds_succ]
    go_wp2
    go_ret
    exact ⟨rfl, (Below.refl _ _).alloc (Nat.le_refl _) _⟩
  · have hb : (k == n) = false := by simp [hkn]
    rw [hb] at heq ⊢
    clear hb
    go_enter Tryd.func133, Tryd.ntmps133
    go_wp2
    refine wp_loop_rounds 2 ?_
    rw [rounds_succ]
    go_wp2
    rw [rounds_succ]
    go_wp2
    go_ret
    exact ⟨rfl, (Below.refl _ _).alloc (Nat.le_refl _) _⟩

set_option maxRecDepth 100000 in
/-- errors.Is of two numbers. -/
theorem is_errno (k n : Int) (w : World) :
    Calls Tryd.prog 133 #[.iface 99 (.int .i64 k), .iface 99 (.int .i64 n)] w fun e w' => e = .returned (.bool (k == n)) ∧ w = w' := by
  have h8 := @run_callFunc_extern Tryd.prog 152 _ ReflectliteType.typeOf Tryd.func152 (by kernel_rfl) (by kernel_rfl) (by kernel_rfl) (by kernel_rfl)
  have h32 := @run_callFunc_extern Tryd.prog 231 _ xComparable Tryd.func231 (by kernel_rfl) (by kernel_rfl) (by kernel_rfl) (by kernel_rfl)
  have tT := errTypeOf
  have cT := errComparable
  have mR := errMethodComparable
  have nE := errNoIsE
  have uE := errNoUnwrapE
  have vE := errNoUnwrapsE
  have heq := errno_eq k n
  by_cases hkn : k = n
  · subst hkn
    have hb : (k == k) = true := by simp
    rw [hb] at heq ⊢
    clear hb
    go_enter Tryd.func133, Tryd.ntmps133
    go_wp2
    refine wp_loop_rounds 1 ?_
    rw [rounds_succ]
    go_wp2
    go_ret
    exact ⟨rfl, rfl⟩
  · have hb : (k == n) = false := by simp [hkn]
    rw [hb] at heq ⊢
    clear hb
    go_enter Tryd.func133, Tryd.ntmps133
    go_wp2
    refine wp_loop_rounds 1 ?_
    rw [rounds_succ]
    go_wp2
    go_ret
    exact ⟨rfl, rfl⟩
end Go.Proofs.YthcfpmjkfnoofaaDoor
