/- props: Class, Kind, Compose. -/
import Derived.Test.YtcfhblbmpbfoaaaGreatDoorUpx
import Derived.Test.YtcfhblbmpbfoaaaGreatDoorGv8
import Derived.Test.YtcfhblbmpbfoaaaGreatDoorGv15
namespace Go.Proofs.YtcfhblbmpbfoaaaGreatDoor
open Go Go.RowKit Go.Kt Go.Kt.Rg Go.Maps

set_option maxRecDepth 100000 in
theorem pclsP {g : Nat} {S : RdS} {md : MdT} (w : World) (h : PrW g S md w) (r : Int) :
    Calls Tryz.prog 42 #[.pointer (some ⟨g, 0, none⟩), .int .i32 r] w fun e w' => e = .returned (.int .i64 (clsV S r)) ∧ Below w.heap.size w w' := by
  obtain ⟨B, h⟩ := h
  have C := Lib.hid (pat B.cL B.cv r w h.c h.cp.1 h.cp.2.1)
  rw [h.cp.2.2 r] at C
  have c0 : w.cell? ⟨g, 0, none⟩ = some B.cv := by rw [Lib.cell_of_heap h.cell]; rfl
  clear h
  go_enter Tryz.func42, Tryz.ntmps42
  go_wp2_with fail
  refine C.out.mono ?_
  rintro e w' ⟨rfl, hb⟩
  go_wp2
  go_ret
  exact ⟨rfl, hb⟩
def cmpV (md : MdT) (a b : Int) : Option Int := match synP a b with
  | some x => some x
  | none => (md a b).map fun x => (x : Int)
set_option maxRecDepth 100000 in
theorem pcmpP {g : Nat} {S : RdS} {md : MdT} (w : World) (h : PrW g S md w) (a b : Int) (ha : I32 a) (hb : I32 b) :
    Calls Tryz.prog 71 #[.pointer (some ⟨g, 0, none⟩), .int .i32 a, .int .i32 b] w fun e w' => e = .returned (.tuple #[.int .i32 ((cmpV md a b).getD 0), .bool (cmpV md a b).isSome]) ∧ Below w.heap.size w w' := by
  obtain ⟨B, h⟩ := h
  have C := Lib.hid (psyllable a b w)
  have c0 : w.cell? ⟨g, 4, none⟩ = some (.map (some B.bm)) := by rw [Lib.cell_of_heap h.cell]; rfl
  have hl := h.m.look ha hb
  have HX : Hid (cmpV md a b = match synP a b with | some x => some x | none => (md a b).map fun x => (x : Int)) := Lib.hid rfl
  clear h
  cases hs : synP a b with
  | some x =>
    rw [hs] at C HX
    clear hs hl
    go_enter Tryz.func71, Tryz.ntmps71
    go_wp2_with fail
    refine C.out.mono ?_
    rintro e w' ⟨rfl, rfl⟩
    go_wp2
    refine bodyPost_ret (results_tmp2 rfl _ _ _) rfl ?_
    exact ⟨by rw [HX.out]; rfl, Below.refl _ _⟩
  | none =>
    rw [hs] at C HX
    have HY : Hid ((cmpV md a b).getD 0 = ((md a b).getD 0 : Nat) ∧ (cmpV md a b).isSome = (md a b).isSome) := Lib.hid (by
      rw [HX.out]
      cases md a b <;> exact ⟨rfl, rfl⟩)
    have hpk : (Value.agg #[.int .i32 a, .int .i32 b]) = pkV a b := rfl
    have hl' : (Instr.lookup 121 (.map (some B.bm)) (.agg #[.int .i32 a, .int .i32 b]) true).run Tryz.prog w = .ok (.tuple #[.int .i32 (((md a b).getD 0 : Nat) : Int), .bool (md a b).isSome]) w := hl
    clear hs hl hpk HX
    generalize (md a b).isSome = s2 at *
    generalize (md a b).getD 0 = m2 at *
    go_enter Tryz.func71, Tryz.ntmps71
    go_wp2_with fail
    refine C.out.mono ?_
    rintro e w' ⟨rfl, rfl⟩
    go_wp2
    refine bodyPost_ret (results_tmp2 rfl _ _ _) rfl ?_
    exact ⟨by rw [HY.out.1, HY.out.2]; rfl, Below.refl _ _⟩
end Go.Proofs.YtcfhblbmpbfoaaaGreatDoor
