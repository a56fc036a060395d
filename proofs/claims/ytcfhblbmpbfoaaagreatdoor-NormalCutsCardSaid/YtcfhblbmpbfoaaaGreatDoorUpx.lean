/- props: properties in memory; pairs as keys of a map. -/
import Derived.Test.YtcfhblbmpbfoaaaGreatDoorUcx
import Derived.Test.YtcfhblbmpbfoaaaGreatDoorGv13
import Derived.Test.YtcfhblbmpbfoaaaGreatDoorGv16
import Derived.DeepKeys4
namespace Go.Proofs.YtcfhblbmpbfoaaaGreatDoor
open Go Go.RowKit Go.Kt Go.Kt.Rg Go.Maps

def clsV (S : RdS) (r : Int) : Int := if r < 0 then 0 else (lastV (S.cs ++ hanR ++ noR) r.toNat).getD 0
def kndV (S : RdS) (r : Int) : Int := if r < 0 then 0 else (lastV (sylR ++ S.ks ++ noR) r.toNat).getD 0
def atZ {A : Type} (f : Nat → Option A) (r : Int) : Option A := if 0 ≤ r then f r.toNat else none
theorem atZ_nat {A : Type} (f : Nat → Option A) (r : Nat) : atZ f (r : Int) = f r := by unfold atZ; rw [if_pos (by omega), Int.toNat_natCast]
theorem atZ_neg {A : Type} (f : Nat → Option A) (r : Int) (h : r < 0) : atZ f r = none := by unfold atZ; rw [if_neg (by omega)]
theorem ptF_atZ (vs : Nat → Option Value) (x : Int) : ptF vs (.int .i32 x) = atZ vs x := rfl
abbrev MdT := Int → Int → Option Nat
def updP (md : MdT) (a b : Int) (x : Nat) : MdT := fun c d => if c = a ∧ d = b then some x else md c d
def mdStep (S : RdS) (md : MdT) (x : Nat) : MdT := match S.ds x with
  | some [a, b] => if clsV S a ≠ 0 then md else if (md a b).isSome then md else updP md a b x
  | _ => md
def mdOf (S : RdS) (L : List Nat) : MdT := L.foldl (mdStep S) (fun _ _ => none)

def pkV (a b : Int) : Value := .agg #[.int .i32 a, .int .i32 b]
def pkL (a b : Int) : Lit := .string (keyBytes [.int .i32 a, .int .i32 b])
def I32 (a : Int) : Prop := -2147483648 ≤ a ∧ a ≤ 2147483647
theorem I32.wf {a : Int} (h : I32 a) : (Lit.int .i32 a).wf = true := WalkArith.wf_i32 (n := a) ⟨h.1, by have := h.2; omega⟩
set_option maxRecDepth 100000 in
theorem laidOutP : laidOutB Tryz.prog = true := by kernel_rfl
theorem rowPk : (163 : TypeId) < Tryz.prog.types.size := of_decide_eq_true (by kernel_rfl)
set_option maxRecDepth 100000 in
theorem widePk : (match Tryz.prog.underlying 163 with | some (.array _ _) | some (.struct _) => true | _ => false) = true := by kernel_rfl
set_option maxRecDepth 100000 in
theorem pkK : Keyed Tryz.prog 163 := Keyed.of_law (deep_law_laid laidOutP (m := 2) (by omega) rowPk (by kernel_rfl) widePk)
theorem pk_key {a b : Int} (ha : I32 a) (hb : I32 b) : keyOf Tryz.prog 163 (pkV a b) = some (pkL a b) := by
  have h1 : Tryz.prog.keyType 163 = true := by kernel_rfl
  have hc : Tryz.prog.cellsOf 163 = 2 := by kernel_rfl
  have hc1 : Tryz.prog.cellsOf 21 = 1 := by kernel_rfl
  have h2 : (pkV a b).formed Tryz.prog 163 = true := by simp [pkV, Value.formed, Tryz.underlying163, hc]
  obtain ⟨n, hn⟩ : ∃ n, Tryz.prog.types.size = n + 1 := ⟨Tryz.prog.types.size - 1, by have h9 : 0 < Tryz.prog.types.size := of_decide_eq_true (by kernel_rfl); omega⟩
  have h3 : ∀ x : Int, I32 x → Tryz.prog.keyLits (n + 1) 21 [.int .i32 x] = some [.int .i32 x] := fun x hx => by
    unfold Program.keyLits
    rw [Tryz.underlying21]
    simp [hx.wf]
  unfold keyOf
  rw [Tryz.underlying163]
  simp only [h1, h2, Bool.and_self, if_true]
  rw [hn]
  unfold Program.keyLits
  rw [Tryz.underlying163]
  simp [pkV, Value.cells, hc, hc1, h3 a ha, h3 b hb, pkL]
theorem pk_inj {a b c d : Int} (ha : I32 a) (hb : I32 b) (hc : I32 c) (hd : I32 d) (h : pkL a b = pkL c d) : a = c ∧ b = d := by
  have e := pkK.inj (pk_key ha hb) (by rw [h]; exact pk_key hc hd)
  simp [pkV] at e
  exact e
def MdM (b n : Nat) (md : MdT) (w : World) : Prop := ∃ f, MapG Tryz.prog 163 b n f w ∧ ∀ x y : Int, I32 x → I32 y → f (pkL x y) = (md x y).map fun z => .int .i32 (z : Nat)
theorem MdM.keep {b n : Nat} {md : MdT} {X : Nat → Prop} {w w' : World} (h : MdM b n md w) (hk : Keep X w w') (hX : ¬ X b) : MdM b n md w' := by
  obtain ⟨f, h1, h2⟩ := h
  exact ⟨f, h1.keep hk hX, h2⟩
theorem MdM.mono {b n m : Nat} {md : MdT} {w : World} (h : MdM b n md w) (hn : n ≤ m) : MdM b m md w := by
  obtain ⟨f, h1, h2⟩ := h
  exact ⟨f, h1.mono hn, h2⟩
theorem MdM.lt {b n : Nat} {md : MdT} {w : World} (h : MdM b n md w) : b < w.heap.size := by
  obtain ⟨f, h1, _⟩ := h
  exact h1.lt
set_option maxRecDepth 100000 in
theorem MdM.look {b n : Nat} {md : MdT} {w : World} (h : MdM b n md w) {x y : Int} (hx : I32 x) (hy : I32 y) :
    (Instr.lookup 121 (.map (some b)) (pkV x y) true).run Tryz.prog w = .ok (.tuple #[.int .i32 (((md x y).getD 0 : Nat) : Int), .bool (md x y).isSome]) w := by
  obtain ⟨f, h1, h2⟩ := h
  have hl := h1.look pkK Tryz.underlying121 (z := .int .i32 0) rfl (pk_key hx hy)
  rw [h2 x y hx hy] at hl
  rw [hl]
  cases md x y <;> rfl
theorem MdM.put {b n : Nat} {md : MdT} {w : World} (h : MdM b n md w) (hn : n < maxLen) {x y : Int} (hx : I32 x) (hy : I32 y) (z : Nat) :
    ∃ w', (Instr.mapUpdate 121 (.map (some b)) (pkV x y) (.int .i32 (z : Nat))).run Tryz.prog w = .ok () w' ∧ MdM b (n + 1) (updP md x y z) w' ∧ Keep (fun c => c = b) w w' := by
  obtain ⟨f, h1, h2⟩ := h
  obtain ⟨w', r1, r2, r3⟩ := h1.put pkK Tryz.underlying121 hn (val := .int .i32 (z : Nat)) (pk_key hx hy)
  refine ⟨w', r1, ⟨_, r2, fun c d hc hd => ?_⟩, r3⟩
  unfold updP
  by_cases e : c = x ∧ d = y
  · obtain ⟨rfl, rfl⟩ := e
    rw [putF_same _ _ (pkK.key (pk_key hc hd)), if_pos ⟨rfl, rfl⟩]
    rfl
  · rw [if_neg e, putF_other _ (fun h9 => e (pk_inj hc hd hx hy h9))]
    exact h2 c d hc hd

structure PrB where
  cv : Value
  kv : Value
  cL : List (Nat × Int)
  kL : List (Nat × Int)
  bd : Nat
  bf : Nat
  bm : Nat
  n : Nat
  ro : Nat → Nat
def RunOk (L : List (Nat × Int)) (V : Int → Int) : Prop := L.Pairwise (fun a b => a.1 < b.1) ∧ L.length ≤ 1114113 ∧ ∀ r : Int, runVal L r = V r
def prC (B : PrB) : Array Value := #[B.cv, B.kv, .map (some B.bd), .map (some B.bf), .map (some B.bm)]
structure PrI (B : PrB) (g : Nat) (S : RdS) (md : MdT) (w : World) : Prop where
  cell : w.heap[g]? = some (.cells (prC B) 123 (0, 0))
  c : RunV w B.cv B.cL
  k : RunV w B.kv B.kL
  cp : RunOk B.cL (clsV S)
  kp : RunOk B.kL (kndV S)
  d : DecM B.ro 4 B.bd B.n S.ds w
  f : DecM B.ro 5 B.bf B.n S.fs w
  m : MdM B.bm B.n md w
def PrW (g : Nat) (S : RdS) (md : MdT) (w : World) : Prop := ∃ B, PrI B g S md w
theorem PrI.below {B : PrB} {g : Nat} {S : RdS} {md : MdT} {w w' : World} (h : PrI B g S md w) (hb : Below w.heap.size w w') : PrI B g S md w' where
  cell := (hb.block g (Array.getElem?_eq_some_iff.1 h.cell).1).trans h.cell
  c := h.c.below hb
  k := h.k.below hb
  cp := h.cp
  kp := h.kp
  d := h.d.keep (X := fun _ => False) (Keep.of_all hb) (fun _ h => h.elim)
  f := h.f.keep (X := fun _ => False) (Keep.of_all hb) (fun _ h => h.elim)
  m := h.m.keep (X := fun _ => False) (Keep.of_all hb) (fun h => h)
theorem PrW.below {g : Nat} {S : RdS} {md : MdT} {w w' : World} (h : PrW g S md w) (hb : Below w.heap.size w w') : PrW g S md w' := by
  obtain ⟨B, h⟩ := h
  exact ⟨B, h.below hb⟩
end Go.Proofs.YtcfhblbmpbfoaaaGreatDoor
