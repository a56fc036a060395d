/- errors.As of a fault, at a fault's variable. -/
import Derived.Test.YtfpfpaaojdodnaaGreatDoorEa
namespace Go.Proofs.YtfpfpaaojdodnaaGreatDoor
open Go Go.RowKit Go.Kt Go.Extern.Stop Go.Stop Go.Extern

def xValueOf (args : Array Value) : Sem Value := ReflectliteValue.unpack (args.getD 0 (.tuple #[]))
def xType : Array Value → Sem Value := ReflectliteValue.methodAny (ReflectliteValue.valueError "reflectlite.Value.Type" 0) fun t _ _ _ => ReflectliteType.toType t
def xKind : Array Value → Sem Value := ReflectliteType.abiMethod fun t => do pure (.int .u8 (← Rtype.kind t))
def xIsNil : Array Value → Sem Value := ReflectliteValue.method (ReflectliteValue.valueError "reflectlite.Value.IsNil" 0) ReflectliteValue.isNil
def xElemT : Array Value → Sem Value := ReflectliteType.method ReflectliteType.elem
def xImplements : Array Value → Sem Value := ReflectliteType.relation "Implements" ReflectliteType.implements_
def xAssignable : Array Value → Sem Value := ReflectliteType.relation "AssignableTo" ReflectliteType.assignableTo
def xElemV : Array Value → Sem Value := ReflectliteValue.method (ReflectliteValue.valueError "reflectlite.Value.Elem" 0) ReflectliteValue.elem
def xSet : Array Value → Sem Value := ReflectliteValue.set

abbrev tyH (t : Nat) : Value := .pointer (some ⟨11, t, none⟩)
abbrev vagg (t : Nat) (a : Addr) (f : Int) : Value := .agg #[tyH t, .pointer (some a), .int .u64 f]

theorem asValueOfP (t : Addr) (w : World) : (xValueOf #[.iface 173 (.pointer (some t))]).run Tryz.prog w
    = .ok (vagg 173 ⟨w.heap.size, 0, none⟩ 150) (w.alloc (.cells #[.pointer (some t)] 173)) := by kernel_rfl
theorem asTypeP (a : Addr) (w : World) : (xType #[vagg 173 a 150]).run Tryz.prog w = .ok (.iface 344 (.agg #[tyH 173])) w := by kernel_rfl
theorem asMethodKind (h : Value) (w : World) : (Go.method 554 344 (.agg #[h]) "Kind").run Tryz.prog w = .ok (287, h) w := by kernel_rfl
theorem asKindP (w : World) : (xKind #[tyH 173]).run Tryz.prog w = .ok (.int .u8 22) w := by kernel_rfl
theorem asKindF (w : World) : (xKind #[tyH 150]).run Tryz.prog w = .ok (.int .u8 25) w := by kernel_rfl

theorem rlm (z : Sem Value) (f : TypeId → Addr → Nat → Nat → Sem Value) (v : Value) :
    ReflectliteValue.method z f #[v] = (do match ← ReflectliteValue.parts v with | none => z | some (t, a, fl) => f t a fl (fl % 32)) := rfl
theorem asPartsP (a : Addr) (w : World) : (ReflectliteValue.parts (vagg 173 a 150)).run Tryz.prog w = .ok (some (173, a, 150)) w := by kernel_rfl
theorem asIsNil (a p : Addr) (W : World) (ha : W.cell? a = some (.pointer (some p))) : (xIsNil #[vagg 173 a 150]).run Tryz.prog W = .ok (.bool false) W := by
  unfold xIsNil
  rw [rlm]
  simp only [Sem.run_bind, asPartsP, Result.andThen]
  simp [ReflectliteValue.isNil, loadVar, isAgg, underlying, Tryz.underlying173, ha, Result.andThen]
theorem asMethodElem (h : Value) (w : World) : (Go.method 554 344 (.agg #[h]) "Elem").run Tryz.prog w = .ok (299, .agg #[h]) w := by kernel_rfl
theorem asMethodImplements (h : Value) (w : World) : (Go.method 554 344 (.agg #[h]) "Implements").run Tryz.prog w = .ok (300, .agg #[h]) w := by kernel_rfl
theorem asMethodAssignable (h : Value) (w : World) : (Go.method 554 344 (.agg #[h]) "AssignableTo").run Tryz.prog w = .ok (297, .agg #[h]) w := by kernel_rfl
theorem asElemT (w : World) : (xElemT #[.agg #[tyH 173]]).run Tryz.prog w = .ok (.iface 344 (.agg #[tyH 150])) w := by kernel_rfl
theorem asImplements (w : World) : (xImplements #[.agg #[tyH 150], .iface 344 (.agg #[tyH 25])]).run Tryz.prog w = .ok (.bool true) w := by kernel_rfl
theorem asTypeOfF (v : Value) (w : World) : (ReflectliteType.typeOf #[.iface 150 v]).run Tryz.prog w = .ok (.iface 344 (.agg #[tyH 150])) w := by kernel_rfl
theorem asAssignable (w : World) : (xAssignable #[.agg #[tyH 150], .iface 344 (.agg #[tyH 150])]).run Tryz.prog w = .ok (.bool true) w := by kernel_rfl
theorem asValueOfF (k l a : Int) (w : World) : (xValueOf #[.iface 150 (fv k l a)]).run Tryz.prog w
    = .ok (vagg 150 ⟨w.heap.size, 0, none⟩ 153) (w.alloc (.cells #[.int .i64 k, .int .i64 l, .int .i64 a] 150)) := by kernel_rfl
theorem asElemOfP (w : World) : (Rtype.elem? 173).run Tryz.prog w = .ok (some 150) w := by kernel_rfl
theorem asMkF (p : Addr) (w : World) : (ReflectliteValue.mk 150 p ReflectliteValue.flagAddr).run Tryz.prog w = .ok (vagg 150 p 409) w := by kernel_rfl
theorem asElemV (a p : Addr) (W : World) (ha : W.cell? a = some (.pointer (some p))) : (xElemV #[vagg 173 a 150]).run Tryz.prog W = .ok (vagg 150 p 409) W := by
  unfold xElemV
  rw [rlm]
  simp only [Sem.run_bind, asPartsP, Result.andThen]
  simp [ReflectliteValue.elem, loadVar, isAgg, underlying, Tryz.underlying173, ha, Result.andThen, asElemOfP, asMkF]
theorem rls (v x : Value) : ReflectliteValue.set #[v, x] = (do
    let (some (dst, a, fl), some (src, b, _)) := (← ReflectliteValue.parts v, ← ReflectliteValue.parts x)
      | unsupported (.noEntry "extern/(internal/reflectlite.Value).Set.zeroValue")
    if fl / ReflectliteValue.flagAddr % 2 == 0 then unsupported (.noEntry "extern/(internal/reflectlite.Value).Set.unaddressable")
    let val ← loadVar src b
    if ← Rtype.directlyAssignable dst src then storeVar dst a val
    else if ← Rtype.implements dst src then
      if (← Rtype.kind src) == 20 then
        match val with
        | .nilIface => unsupported (.noEntry "extern/reflectlite: a nil value of one interface type handed on as a value of another")
        | _ => storeVar dst a val
      else storeVar dst a (.iface src val)
    else panicString ("reflectlite.Set: value of type " ++ (← Rtype.spelt src) ++ " is not assignable to type " ++ (← Rtype.spelt dst))
    pure (.tuple #[])) := rfl
theorem asPartsFa (a : Addr) (w : World) : (ReflectliteValue.parts (vagg 150 a 409)).run Tryz.prog w = .ok (some (150, a, 409)) w := by kernel_rfl
theorem asPartsF (a : Addr) (w : World) : (ReflectliteValue.parts (vagg 150 a 153)).run Tryz.prog w = .ok (some (150, a, 153)) w := by kernel_rfl
theorem asDirect (w : World) : (Rtype.directlyAssignable 150 150).run Tryz.prog w = .ok true w := by kernel_rfl
theorem asLoad (b : Nat) (x y z : Value) (t : TypeId) (fr : Nat × Nat) (W : World) (hb : W.heap[b]? = some (.cells #[x, y, z] t fr)) : (loadVar 150 ⟨b, 0, none⟩).run Tryz.prog W = .ok (.agg #[x, y, z]) W := by
  have h0 : W.cell? ⟨b, 0, none⟩ = some x := by rw [World.cell?, hb]; rfl
  have h1 : W.cell? ⟨b, 1, none⟩ = some y := by rw [World.cell?, hb]; rfl
  have h2 : W.cell? ⟨b, 2, none⟩ = some z := by rw [World.cell?, hb]; rfl
  simp [loadVar, isAgg, underlying, Tryz.underlying150, Result.andThen, loadCells, loadCellsFrom, Addr.add, h0, h1, h2]
theorem asStore (g : Nat) (x y z x' y' z' : Value) (t : TypeId) (W : World) (hg : W.heap[g]? = some (.cells #[x, y, z] t (0, 0))) (k1 : x'.oneCell' = true) (k2 : y'.oneCell' = true) (k3 : z'.oneCell' = true) : (storeVar 150 ⟨g, 0, none⟩ (.agg #[x', y', z'])).run Tryz.prog W = .ok () (((W.setCell ⟨g, 0, none⟩ x').setCell ⟨g, 1, none⟩ y').setCell ⟨g, 2, none⟩ z') := by
  have e1 : (W.setCell ⟨g, 0, none⟩ x').heap[g]? = some (.cells #[x', y, z] t (0, 0)) := by simp [World.setCell, Array.getElem?_modify, hg]
  have e2 : ((W.setCell ⟨g, 0, none⟩ x').setCell ⟨g, 1, none⟩ y').heap[g]? = some (.cells #[x', y', z] t (0, 0)) := by
    rw [World.setCell, Array.getElem?_modify]; simp [e1]
  have h0 : W.cell? ⟨g, 0, none⟩ = some x := by rw [World.cell?, hg]; rfl
  have h1 : (W.setCell ⟨g, 0, none⟩ x').cell? ⟨g, 1, none⟩ = some y := by rw [World.cell?, e1]; rfl
  have h2 : ((W.setCell ⟨g, 0, none⟩ x').setCell ⟨g, 1, none⟩ y').cell? ⟨g, 2, none⟩ = some z := by rw [World.cell?, e2]; rfl
  have f0 : W.frozen? ⟨g, 0, none⟩ = false := by simp [World.frozen?, hg]
  have f1 : (W.setCell ⟨g, 0, none⟩ x').frozen? ⟨g, 1, none⟩ = false := by simp [World.frozen?, e1]
  have f2 : ((W.setCell ⟨g, 0, none⟩ x').setCell ⟨g, 1, none⟩ y').frozen? ⟨g, 2, none⟩ = false := by simp [World.frozen?, e2]
  have c : (Value.agg #[x', y', z']).cells = #[x', y', z'] := rfl
  simp [storeVar, c, storeCells, Addr.add, Result.andThen]
  simp [run_store Tryz.prog _ _ _ _ k1, run_store Tryz.prog _ _ _ _ k2, run_store Tryz.prog _ _ _ _ k3, h0, f0, h1, f1, h2, f2]
theorem asSet (g b : Nat) (x y z x' y' z' : Value) (t tb : TypeId) (fr : Nat × Nat) (W : World) (hb : W.heap[b]? = some (.cells #[x', y', z'] tb fr)) (hg : W.heap[g]? = some (.cells #[x, y, z] t (0, 0))) (k1 : x'.oneCell' = true) (k2 : y'.oneCell' = true) (k3 : z'.oneCell' = true) :
    (xSet #[vagg 150 ⟨g, 0, none⟩ 409, vagg 150 ⟨b, 0, none⟩ 153]).run Tryz.prog W = .ok (.tuple #[]) (((W.setCell ⟨g, 0, none⟩ x').setCell ⟨g, 1, none⟩ y').setCell ⟨g, 2, none⟩ z') := by
  unfold xSet
  rw [rls]
  simp only [Sem.run_bind, asPartsFa, asPartsF, Result.andThen]
  simp [ReflectliteValue.flagAddr, asLoad b x' y' z' tb fr W hb, Result.andThen, asDirect, asStore g x y z x' y' z' t W hg k1 k2 k3]

end Go.Proofs.YtfpfpaaojdodnaaGreatDoor
