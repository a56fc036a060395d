/- Parts of the proof of what the last text says. -/
import Derived.Test.YthhepebkfokddaaGreatDoorGy12
import Derived.Test.YthhepebkfokddaaGreatDoorGy14
import Derived.DeepKeys4
import Derived.Test.YthhepebkfokddaaGreatDoorGy13
import Derived.Test.YthhepebkfokddaaGreatDoorGy1
import Derived.Laws.Rows
import Derived.Test.YthhepebkfokddaaGreatDoorProg
import Derived.Test.YthhepebkfokddaaGreatDoorGy5
import Derived.Lib.Hide
import Derived.Deep.QuietTactic
import Derived.BigQuiet
import Derived.Lib.TrimUEq
import Derived.RangeFuncBound
import Derived.Shelf.Abstract
import Derived.Shelf.RegionOpen
import Derived.OwnWalkIn
import Derived.TacticsInMore
import Derived.LoopNIn
import Derived.LoopIn
import Derived.Deep.Draws
import Derived.WalkSpells
import Derived.WalkLawsBesides
import Derived.Laws.IdiomStrings
import Derived.Laws.Cover4
import Derived.Laws.MakeOwn
import Derived.Sort.QuietIn
import Derived.Sort.QuietTacIn
/- props: properties in memory; pairs as keys of a map. -/
namespace Go.Proofs.YthhepebkfokddaaGreatDoor
open Go Go.RowKit Go.Kt Go.Kt.Rg Go.Maps

def clsV (S : RdS) (r : Int) : Int := if r < 0 then 0 else (lastV (S.cs ++ hanR ++ noR) r.toNat).getD 0
def kndV (S : RdS) (r : Int) : Int := if r < 0 then 0 else (lastV (sylR ++ S.ks ++ noR) r.toNat).getD 0
def atZ {A : Type} (f : Nat → Option A) (r : Int) : Option A := if 0 ≤ r then f r.toNat else none
theorem atZ_nat {A : Type} (f : Nat → Option A) (r : Nat) : atZ f (r : Int) = f r := by unfold atZ; rw [if_pos (by omega), Int.toNat_natCast]
theorem ptF_atZ (vs : Nat → Option Value) (x : Int) : ptF vs (.int .i32 x) = atZ vs x := rfl
abbrev MdT := Int → Int → Option Nat
def updP (md : MdT) (a b : Int) (x : Nat) : MdT := fun c d => if c = a ∧ d = b then some x else md c d
def mdStep (S : RdS) (md : MdT) (x : Nat) : MdT := match S.ds x with
  | some [a, b] => if clsV S a ≠ 0 then md else if (md a b).isSome then md else updP md a b x
  | _ => md
def mdOf (S : RdS) (L : List Nat) : MdT := L.foldl (mdStep S) (fun _ _ => none)

def pkV (a b : Int) : Value := .agg #[.int .i32 a, .int .i32 b]
def pkL (a b : Int) : Lit := .string (keyBytes [.int .i32 a, .int .i32 b])
def I32 (a : Int) : Prop := -2147483648 ≤ a ∧ a ≤ 2147483647
theorem I32.wf {a : Int} (h : I32 a) : (Lit.int .i32 a).wf = true := WalkArith.wf_i32 (n := a) ⟨h.1, by have := h.2; omega⟩
set_option maxRecDepth 100000 in
theorem laidOutP : laidOutB Tryz.prog = true := by kernel_rfl
theorem rowPk : (110 : TypeId) < Tryz.prog.types.size := of_decide_eq_true (by kernel_rfl)
set_option maxRecDepth 100000 in
theorem widePk : (match Tryz.prog.underlying 110 with | some (.array _ _) | some (.struct _) => true | _ => false) = true := by kernel_rfl
set_option maxRecDepth 100000 in
theorem pkK : Keyed Tryz.prog 110 := Keyed.of_law (deep_law_laid laidOutP (m := 2) (by omega) rowPk (by kernel_rfl) widePk)
theorem pk_key {a b : Int} (ha : I32 a) (hb : I32 b) : keyOf Tryz.prog 110 (pkV a b) = some (pkL a b) := by
  have h1 : Tryz.prog.keyType 110 = true := by kernel_rfl
  have hc : Tryz.prog.cellsOf 110 = 2 := by kernel_rfl
  have hc1 : Tryz.prog.cellsOf 21 = 1 := by kernel_rfl
  have h2 : (pkV a b).formed Tryz.prog 110 = true := by simp [pkV, Value.formed, Tryz.underlying110, hc]
  obtain ⟨n, hn⟩ : ∃ n, Tryz.prog.types.size = n + 1 := ⟨Tryz.prog.types.size - 1, by have h9 : 0 < Tryz.prog.types.size := of_decide_eq_true (by kernel_rfl); omega⟩
  have h3 : ∀ x : Int, I32 x → Tryz.prog.keyLits (n + 1) 21 [.int .i32 x] = some [.int .i32 x] := fun x hx => by
    unfold Program.keyLits
    rw [Tryz.underlying21]
    simp [hx.wf]
  unfold keyOf
  rw [Tryz.underlying110]
  simp only [h1, h2, Bool.and_self, if_true]
  rw [hn]
  unfold Program.keyLits
  rw [Tryz.underlying110]
  simp [pkV, Value.cells, hc, hc1, h3 a ha, h3 b hb, pkL]
theorem pk_inj {a b c d : Int} (ha : I32 a) (hb : I32 b) (hc : I32 c) (hd : I32 d) (h : pkL a b = pkL c d) : a = c ∧ b = d := by
  have e := pkK.inj (pk_key ha hb) (by rw [h]; exact pk_key hc hd)
  simp [pkV] at e
  exact e
def MdM (b n : Nat) (md : MdT) (w : World) : Prop := ∃ f, MapG Tryz.prog 110 b n f w ∧ ∀ x y : Int, I32 x → I32 y → f (pkL x y) = (md x y).map fun z => .int .i32 (z : Nat)
theorem MdM.keep {b n : Nat} {md : MdT} {X : Nat → Prop} {w w' : World} (h : MdM b n md w) (hk : Keep X w w') (hX : ¬ X b) : MdM b n md w' := by
  obtain ⟨f, h1, h2⟩ := h
  exact ⟨f, h1.keep hk hX, h2⟩
theorem MdM.mono {b n m : Nat} {md : MdT} {w : World} (h : MdM b n md w) (hn : n ≤ m) : MdM b m md w := by
  obtain ⟨f, h1, h2⟩ := h
  exact ⟨f, h1.mono hn, h2⟩
theorem MdM.lt {b n : Nat} {md : MdT} {w : World} (h : MdM b n md w) : b < w.heap.size := by
  obtain ⟨f, h1, _⟩ := h
  exact h1.lt
set_option maxRecDepth 100000 in
theorem MdM.look {b n : Nat} {md : MdT} {w : World} (h : MdM b n md w) {x y : Int} (hx : I32 x) (hy : I32 y) :
    (Instr.lookup 96 (.map (some b)) (pkV x y) true).run Tryz.prog w = .ok (.tuple #[.int .i32 (((md x y).getD 0 : Nat) : Int), .bool (md x y).isSome]) w := by
  obtain ⟨f, h1, h2⟩ := h
  have hl := h1.look pkK Tryz.underlying96 (z := .int .i32 0) rfl (pk_key hx hy)
  rw [h2 x y hx hy] at hl
  rw [hl]
  cases md x y <;> rfl
theorem MdM.put {b n : Nat} {md : MdT} {w : World} (h : MdM b n md w) (hn : n < maxLen) {x y : Int} (hx : I32 x) (hy : I32 y) (z : Nat) :
    ∃ w', (Instr.mapUpdate 96 (.map (some b)) (pkV x y) (.int .i32 (z : Nat))).run Tryz.prog w = .ok () w' ∧ MdM b (n + 1) (updP md x y z) w' ∧ Keep (fun c => c = b) w w' := by
  obtain ⟨f, h1, h2⟩ := h
  obtain ⟨w', r1, r2, r3⟩ := h1.put pkK Tryz.underlying96 hn (val := .int .i32 (z : Nat)) (pk_key hx hy)
  refine ⟨w', r1, ⟨_, r2, fun c d hc hd => ?_⟩, r3⟩
  unfold updP
  by_cases e : c = x ∧ d = y
  · obtain ⟨rfl, rfl⟩ := e
    rw [putF_same _ _ (pkK.key (pk_key hc hd)), if_pos ⟨rfl, rfl⟩]
    rfl
  · rw [if_neg e, putF_other _ (fun h9 => e (pk_inj hc hd hx hy h9))]
    exact h2 c d hc hd

structure PrB where
  cv : Value
  kv : Value
  cL : List (Nat × Int)
  kL : List (Nat × Int)
  bd : Nat
  bf : Nat
  bm : Nat
  n : Nat
  ro : Nat → Nat
def RunOk (L : List (Nat × Int)) (V : Int → Int) : Prop := L.Pairwise (fun a b => a.1 < b.1) ∧ L.length ≤ 1114113 ∧ ∀ r : Int, runVal L r = V r
def prC (B : PrB) : Array Value := #[B.cv, B.kv, .map (some B.bd), .map (some B.bf), .map (some B.bm)]
structure PrI (B : PrB) (g : Nat) (S : RdS) (md : MdT) (w : World) : Prop where
  cell : w.heap[g]? = some (.cells (prC B) 100 (0, 0))
  c : RunV w B.cv B.cL
  k : RunV w B.kv B.kL
  cp : RunOk B.cL (clsV S)
  kp : RunOk B.kL (kndV S)
  d : DecM B.ro 4 B.bd B.n S.ds w
  f : DecM B.ro 5 B.bf B.n S.fs w
  m : MdM B.bm B.n md w
def PrW (g : Nat) (S : RdS) (md : MdT) (w : World) : Prop := ∃ B, PrI B g S md w
theorem PrI.below {B : PrB} {g : Nat} {S : RdS} {md : MdT} {w w' : World} (h : PrI B g S md w) (hb : Below w.heap.size w w') : PrI B g S md w' where
  cell := (hb.block g (Array.getElem?_eq_some_iff.1 h.cell).1).trans h.cell
  c := h.c.below hb
  k := h.k.below hb
  cp := h.cp
  kp := h.kp
  d := h.d.keep (X := fun _ => False) (Keep.of_all hb) (fun _ h => h.elim)
  f := h.f.keep (X := fun _ => False) (Keep.of_all hb) (fun _ h => h.elim)
  m := h.m.keep (X := fun _ => False) (Keep.of_all hb) (fun h => h)
theorem PrW.below {g : Nat} {S : RdS} {md : MdT} {w w' : World} (h : PrW g S md w) (hb : Below w.heap.size w w') : PrW g S md w' := by
  obtain ⟨B, h⟩ := h
  exact ⟨B, h.below hb⟩
end Go.Proofs.YthhepebkfokddaaGreatDoor
/- props: the syllable that two points make. -/
namespace Go.Proofs.YthhepebkfokddaaGreatDoor
open Go Go.RowKit Go.Kt Go.Kt.Rg

def synP (a b : Int) : Option Int :=
  if leadP a && vowP b then some (44032 + ((a - 4352) * 21 + b - 4449) * 28) else if sylP a && decide ((a - 44032) % 28 = 0) && tailP b then some (a + 1 + b - 4520) else none

end Go.Proofs.YthhepebkfokddaaGreatDoor
/- props: Class, Kind, Compose. -/
namespace Go.Proofs.YthhepebkfokddaaGreatDoor
open Go Go.RowKit Go.Kt Go.Kt.Rg Go.Maps

set_option maxRecDepth 100000 in
theorem pclsP {g : Nat} {S : RdS} {md : MdT} (w : World) (h : PrW g S md w) (r : Int) :
    Calls Tryz.prog 54 #[.pointer (some ⟨g, 0, none⟩), .int .i32 r] w fun e w' => e = .returned (.int .i64 (clsV S r)) ∧ Below w.heap.size w w' := by
  obtain ⟨B, h⟩ := h
  have C := Lib.hid (pat B.cL B.cv r w h.c h.cp.1 h.cp.2.1)
  rw [h.cp.2.2 r] at C
  have c0 : w.cell? ⟨g, 0, none⟩ = some B.cv := by rw [Lib.cell_of_heap h.cell]; rfl
  clear h
  go_enter Tryz.func54, Tryz.ntmps54
  go_wp2_with fail
  refine C.out.mono ?_
  rintro e w' ⟨rfl, hb⟩
  go_wp2
  go_ret
  exact ⟨rfl, hb⟩
set_option maxRecDepth 100000 in
theorem pkndP {g : Nat} {S : RdS} {md : MdT} (w : World) (h : PrW g S md w) (r : Int) :
    Calls Tryz.prog 58 #[.pointer (some ⟨g, 0, none⟩), .int .i32 r] w fun e w' => e = .returned (.int .i64 (kndV S r)) ∧ Below w.heap.size w w' := by
  obtain ⟨B, h⟩ := h
  have C := Lib.hid (pat B.kL B.kv r w h.k h.kp.1 h.kp.2.1)
  rw [h.kp.2.2 r] at C
  have c0 : w.cell? ⟨g, 1, none⟩ = some B.kv := by rw [Lib.cell_of_heap h.cell]; rfl
  clear h
  go_enter Tryz.func58, Tryz.ntmps58
  go_wp2_with fail
  refine C.out.mono ?_
  rintro e w' ⟨rfl, hb⟩
  go_wp2
  go_ret
  exact ⟨rfl, hb⟩
def cmpV (md : MdT) (a b : Int) : Option Int := match synP a b with
  | some x => some x
  | none => (md a b).map fun x => (x : Int)
end Go.Proofs.YthhepebkfokddaaGreatDoor
/- cells: the unit at a place of a text. -/
namespace Go.Proofs.YthhepebkfokddaaGreatDoor
open Go Go.RowKit Go.Kt

def untP (S : RdS) (s : ByteArray) (a : Int) : CU :=
  if (decP s a).1 = 65533 ∧ (decP s a).2 = 1 then ⟨65533, true, false, false, 0⟩
  else ⟨(decP s a).1, decide ((decP s a).1 = 10) || decide ((decP s a).1 = 13) || decide (kndV S (decP s a).1 = 5), decide (kndV S (decP s a).1 = 3) || decide (kndV S (decP s a).1 = 6) || decide (0 < clsV S (decP s a).1), decide (kndV S (decP s a).1 = 6), hanK (decP s a).1⟩
abbrev cuZ : Obj := .cells #[.int .i32 0, .bool false, .bool false, .bool false, .int .i64 0] 71
theorem cu_cells {V : World} {n : Nat} (h : V.heap[n]? = some (.cells #[.int .i32 0, .bool false, .bool false, .bool false, .int .i64 0] 71 (0, 0))) :
    (V.cell? ⟨n, 0, none⟩ = some (.int .i32 0) ∧ V.cell? ⟨n, 1, none⟩ = some (.bool false) ∧ V.cell? ⟨n, 2, none⟩ = some (.bool false) ∧ V.cell? ⟨n, 3, none⟩ = some (.bool false) ∧ V.cell? ⟨n, 4, none⟩ = some (.int .i64 0)) ∧ ∀ i, V.frozen? ⟨n, i, none⟩ = false :=
  ⟨⟨by rw [Lib.cell_of_heap h]; rfl, by rw [Lib.cell_of_heap h]; rfl, by rw [Lib.cell_of_heap h]; rfl, by rw [Lib.cell_of_heap h]; rfl, by rw [Lib.cell_of_heap h]; rfl⟩, fun i => Lib.frozen_of_heap h _⟩
theorem cu_setc {W : World} {n i : Nat} {cs : Array Value} {T : TypeId} {u : Value} (h : W.heap[n]? = some (.cells cs T (0, 0))) :
    (W.setCell ⟨n, i, none⟩ u).heap[n]? = some (.cells (cs.setIfInBounds i u) T (0, 0)) := by
  have hlt := (Array.getElem?_eq_some_iff.1 h).1
  have h' : W.heap[n] = .cells cs T (0, 0) := by rw [Array.getElem?_eq_getElem hlt] at h; exact Option.some.inj h
  simp [World.setCell, hlt, Array.getElem_modify, h']
def cuSet (V : World) (n : Nat) (u : CU) : World :=
  ((((V.setCell ⟨n, 0, none⟩ (.int .i32 u.num)).setCell ⟨n, 1, none⟩ (.bool u.apart)).setCell ⟨n, 2, none⟩ (.bool u.hangs)).setCell ⟨n, 3, none⟩ (.bool u.holds)).setCell ⟨n, 4, none⟩ (.int .i64 u.han)
theorem cuSet_at {V : World} {n : Nat} (u : CU) (h : V.heap[n]? = some (.cells #[.int .i32 0, .bool false, .bool false, .bool false, .int .i64 0] 71 (0, 0))) : (cuSet V n u).heap[n]? = some (.cells #[.int .i32 u.num, .bool u.apart, .bool u.hangs, .bool u.holds, .int .i64 u.han] 71 (0, 0)) :=
  cu_setc (cu_setc (cu_setc (cu_setc (cu_setc h))))
theorem cuSet_below {D : Nat} {V : World} {n : Nat} (hn : D ≤ n) (u : CU) : Below D V (cuSet V n u) :=
  (((((Below.refl D V).setCell (p := ⟨n, 0, none⟩) hn _).setCell (p := ⟨n, 1, none⟩) hn _).setCell (p := ⟨n, 2, none⟩) hn _).setCell (p := ⟨n, 3, none⟩) hn _).setCell (p := ⟨n, 4, none⟩) hn _
theorem cu_keep {N : Nat} {A B : World} {cs : Array Value} {w : World} (h : Below N w A ∧ A.heap[N]? = some (.cells cs 71 (0, 0))) (hb : Below A.heap.size A B) (hN : N ≤ w.heap.size := by exact Nat.le_refl _) : Below N w B ∧ B.heap[N]? = some (.cells cs 71 (0, 0)) :=
  ⟨h.1.trans (hb.mono (Nat.le_trans hN h.1.size)), (hb.block _ (Array.getElem?_eq_some_iff.1 h.2).1).trans h.2⟩
set_option maxRecDepth 100000 in
theorem cu_store (u : CU) {V : World} {n : Nat} (h : V.heap[n]? = some (.cells #[.int .i32 0, .bool false, .bool false, .bool false, .int .i64 0] 71 (0, 0))) :
    (Instr.storeAt 71 (.pointer (some ⟨n, 0, none⟩)) (cuV u)).run Tryz.prog V = .ok () (cuSet V n u) := by
  have h1 := cu_setc (i := 0) (u := .int .i32 u.num) h
  have h2 := cu_setc (i := 1) (u := .bool u.apart) h1
  have h3 := cu_setc (i := 2) (u := .bool u.hangs) h2
  have h4 := cu_setc (i := 3) (u := .bool u.holds) h3
  have q0 : V.cell? ⟨n, 0, none⟩ = some (.int .i32 0) := by rw [Lib.cell_of_heap h]; rfl
  have q1 : (V.setCell ⟨n, 0, none⟩ (.int .i32 u.num)).cell? ⟨n, 1, none⟩ = some (.bool false) := by rw [Lib.cell_of_heap h1]; rfl
  have q2 : ((V.setCell ⟨n, 0, none⟩ (.int .i32 u.num)).setCell ⟨n, 1, none⟩ (.bool u.apart)).cell? ⟨n, 2, none⟩ = some (.bool false) := by rw [Lib.cell_of_heap h2]; rfl
  have q3 : (((V.setCell ⟨n, 0, none⟩ (.int .i32 u.num)).setCell ⟨n, 1, none⟩ (.bool u.apart)).setCell ⟨n, 2, none⟩ (.bool u.hangs)).cell? ⟨n, 3, none⟩ = some (.bool false) := by rw [Lib.cell_of_heap h3]; rfl
  have q4 : ((((V.setCell ⟨n, 0, none⟩ (.int .i32 u.num)).setCell ⟨n, 1, none⟩ (.bool u.apart)).setCell ⟨n, 2, none⟩ (.bool u.hangs)).setCell ⟨n, 3, none⟩ (.bool u.holds)).cell? ⟨n, 4, none⟩ = some (.int .i64 0) := by rw [Lib.cell_of_heap h4]; rfl
  have f0 : V.frozen? ⟨n, 0, none⟩ = false := Lib.frozen_of_heap h _
  have f1 := Lib.frozen_of_heap h1 1
  have f2 := Lib.frozen_of_heap h2 2
  have f3 := Lib.frozen_of_heap h3 3
  have f4 := Lib.frozen_of_heap h4 4
  unfold cuSet cuV
  obtain ⟨a, b, c, d, e⟩ := u
  simp only at *
  clear h h1 h2 h3 h4
  go_simp
theorem wpList_store_cu {P : Program} {ops : Array Oper} {rest : List Oper} {o : Oper} {a : Act} {Q : Exit → Act → World → Prop} {w w' : World} {p v : Value} (hgd : o.guard = none) {ty : TypeId} {x y : Operand}
    (ho : o.op = .store ty x y) (hd : o.dst = none) (hx : a.eval x = p) (hy : a.eval y = v) (hrun : (Instr.storeAt ty p v).run P w = .ok () w') (h : wpList P ops Q rest a w') : wpList P ops Q (o :: rest) a w := by
  refine wpList_plain hgd fun K hK => ?_
  refine wp_skipped (exec_store ho hx hy hrun) ?_
  rw [hd]
  exact hK _ _ h
theorem tabs_size {w : World} (hT : Lib.Utf8Tabs 3 4 w) : 5 ≤ w.heap.size := by
  have h1 : 3 < w.heap.size := lt_of_cell (hT.1 0 (by omega))
  have h2 : 4 < w.heap.size := lt_of_cell (hT.2 0 (by omega)).1
  omega

end Go.Proofs.YthhepebkfokddaaGreatDoor
/- Lists that are read: two held against each other; a text of numbers; one unit; whether a text is right. -/
namespace Go.Proofs.YthhepebkfokddaaGreatDoor
open Go Go.RowKit Go.Kt

def Sl (k : IntKind) (W : World) (v : Value) (l : List Int) : Prop :=
  ∃ ao cap, v = .slice ao l.length cap ∧ (l = [] ∨ ∃ g off, ao = some ⟨g, off, none⟩ ∧ ∀ i x, l[i]? = some x → W.cell? ⟨g, off + i, none⟩ = some (.int k x))

theorem Sl.keep {k : IntKind} {X : Nat → Prop} {A B : World} {v : Value} {l : List Int} (h : Sl k A v l) (hk : Keep X A B) (hX : ∀ ao n cap, v = .slice ao n cap → ∀ g off, ao = some ⟨g, off, none⟩ → ¬ X g) : Sl k B v l := by
  obtain ⟨ao, cap, rfl, h⟩ := h
  refine ⟨ao, cap, rfl, ?_⟩
  rcases h with h | ⟨g, off, rfl, h⟩
  · exact .inl h
  · exact .inr ⟨g, off, rfl, fun i x hx => hk.cell (h i x hx) (hX _ _ _ rfl g off rfl)⟩
theorem Sl.below {k : IntKind} {A B : World} {v : Value} {l : List Int} (h : Sl k A v l) (hb : Below A.heap.size A B) : Sl k B v l := h.keep (X := fun _ => False) (.of_all hb) (fun _ _ _ _ _ _ _ h => h)

def Drawn (w w' : World) : Prop := ∃ n, w' = w.drewN n
theorem Drawn.below {w w' : World} (h : Drawn w w') : Below w.heap.size w w' := by obtain ⟨n, rfl⟩ := h; exact ⟨rfl, rfl, rfl, Nat.le_refl _, fun _ _ => rfl⟩
theorem Drawn.more {w w' : World} (h : Drawn w w') (n : Nat) : Drawn w (w'.drewN n) := by obtain ⟨m, rfl⟩ := h; exact ⟨m + n, World.drewN_drewN ..⟩
theorem Drawn.refl (w : World) : Drawn w w := ⟨0, rfl⟩
theorem Drawn.cell {w w' : World} (h : Drawn w w') (p : Addr) : w'.cell? p = w.cell? p := by obtain ⟨n, rfl⟩ := h; rfl
def SameOut (l1 l2 : List Int) (w : World) (e : Ending) (w' : World) : Prop := e = .returned (.bool (decide (l1 = l2))) ∧ Drawn w w'

end Go.Proofs.YthhepebkfokddaaGreatDoor

namespace Go.Proofs.YthhepebkfokddaaGreatDoor
open Go Go.RowKit Go.Lib

def CharAt (w b0 b1 b2 b3 : Nat) : Prop :=
  (w = 1 ∧ b0 < 128) ∨ (w = 2 ∧ 194 ≤ b0 ∧ b0 < 224 ∧ 128 ≤ b1 ∧ b1 ≤ 191) ∨
  (w = 3 ∧ 224 ≤ b0 ∧ b0 < 240 ∧ 128 ≤ b1 ∧ b1 ≤ 191 ∧ (b0 = 224 → 160 ≤ b1) ∧ (b0 = 237 → b1 ≤ 159) ∧ 128 ≤ b2 ∧ b2 ≤ 191) ∨
  (w = 4 ∧ 240 ≤ b0 ∧ b0 < 245 ∧ 128 ≤ b1 ∧ b1 ≤ 191 ∧ (b0 = 240 → 144 ≤ b1) ∧ (b0 = 244 → b1 ≤ 143) ∧ 128 ≤ b2 ∧ b2 ≤ 191 ∧ 128 ≤ b3 ∧ b3 ≤ 191)

theorem lead_1 (b0 : Nat) (h : b0 < 128) : leadI b0 = (1, 0, 0) := by unfold leadI; rw [if_pos (by omega)]

theorem bgT_char (N b0 b1 b2 b3 w : Nat) (hw1 : 1 ≤ w) (hw4 : w ≤ 4) (hN : 1 ≤ N) (c0 : b0 < 256) :
    ((leadI b0).1 = w ∧ bgT (leadI b0) N b1 b2 b3 = w) ↔ (w ≤ N ∧ CharAt w b0 b1 b2 b3) := by
  unfold CharAt
  by_cases h0 : b0 < 128
  · rw [lead_1 b0 h0]; simp only [bgT, inB_iff]; rw [if_neg (by omega)]; omega
  by_cases h1 : (128 ≤ b0 ∧ b0 < 194) ∨ 245 ≤ b0
  · rw [lead_bad b0 h1]; simp only; omega
  by_cases h2 : b0 < 224
  · rw [lead_2 b0 (by omega)]; simp only [bgT, inB_iff]
    split
    · rw [if_neg (by omega)]; omega
    · omega
  by_cases h3 : b0 < 240
  · rw [lead_3 b0 (by omega)]; simp only [bgT, inB_iff]
    have e1 : (if b0 = 224 then 160 else 128) = (if b0 = 224 then 160 else 128 : Nat) := rfl
    generalize hlo : (if b0 = 224 then 160 else 128 : Nat) = lo
    generalize hhi : (if b0 = 237 then 159 else 191 : Nat) = hi
    have hlo' : (b0 = 224 ∧ lo = 160) ∨ (b0 ≠ 224 ∧ lo = 128) := by split at hlo <;> omega
    have hhi' : (b0 = 237 ∧ hi = 159) ∨ (b0 ≠ 237 ∧ hi = 191) := by split at hhi <;> omega
    clear hlo hhi e1
    split
    · split
      · rw [if_neg (by omega)]; omega
      · omega
    · omega
  · rw [lead_4 b0 (by omega)]; simp only [bgT, inB_iff]
    generalize hlo : (if b0 = 240 then 144 else 128 : Nat) = lo
    generalize hhi : (if b0 = 244 then 143 else 191 : Nat) = hi
    have hlo' : (b0 = 240 ∧ lo = 144) ∨ (b0 ≠ 240 ∧ lo = 128) := by split at hlo <;> omega
    have hhi' : (b0 = 244 ∧ hi = 143) ∨ (b0 ≠ 244 ∧ hi = 191) := by split at hhi <;> omega
    clear hlo hhi
    split
    · split
      · split <;> omega
      · omega
    · omega

theorem wide_iff (s : ByteArray) (i w : Nat) (hi : i < s.size) (hw1 : 1 ≤ w) (hw4 : w ≤ 4) :
    wideI s i = w ↔ (i + w ≤ s.size ∧ CharAt w (B s i) (B s (i + 1)) (B s (i + 2)) (B s (i + 3))) := by
  have hb := bgT_char (s.size - i) (B s i) (B s (i + 1)) (B s (i + 2)) (B s (i + 3)) w hw1 hw4 (by omega) (B_lt _ _)
  have e : (i + w ≤ s.size) ↔ (w ≤ s.size - i) := by omega
  rw [e, ← hb]
  unfold wideI
  rw [begunI_eq]
  by_cases hz : (leadI (B s i)).1 = 0
  · rw [if_pos hz]; simp [hz]; omega
  · rw [if_neg hz]
    by_cases hq : bgT (leadI (B s i)) (s.size - i) (B s (i + 1)) (B s (i + 2)) (B s (i + 3)) = (leadI (B s i)).1
    · simp [hq]
    · simp only [bne_iff_ne, ne_eq, hq, not_false_eq_true, if_true]
      omega
theorem decode_wide (s : ByteArray) (i : Nat) (hi : i < s.size) :
    (wideI s i = 0 ∧ Utf8.decode s i = (65533, 1)) ∨ (∃ w : Nat, 1 ≤ w ∧ w ≤ 4 ∧ i + w ≤ s.size ∧ wideI s i = w ∧ (Utf8.decode s i).2 = w) := by
  rcases unit_at s i hi with h | ⟨w, h1, h2, h3, h4, h5, _⟩
  · exact .inl h
  · exact .inr ⟨w, h1, h2, h3, h4, h5⟩
end Go.Proofs.YthhepebkfokddaaGreatDoor

namespace Go.Proofs.YthhepebkfokddaaGreatDoor
open Go Go.RowKit Go.Lib

def befK (s : ByteArray) (n : Nat) : Nat → Nat → Int × Int
  | 0, _ => (65533, 1)
  | f + 1, k => if k ≤ 4 ∧ k ≤ n then (if wideI s (n - k) = k then (((Utf8.decode s (n - k)).1 : Int), (k : Int)) else befK s n f (k + 1)) else (65533, 1)
def befP (s : ByteArray) (a : Int) : Int × Int := if 1 ≤ a ∧ a ≤ s.size then befK s a.toNat 5 1 else (65533, 0)

end Go.Proofs.YthhepebkfokddaaGreatDoor

namespace Go.Proofs.YthhepebkfokddaaGreatDoor
open Go Go.RowKit Go.Lib

def Ends (s : ByteArray) (n w : Nat) : Prop := 1 ≤ w ∧ w ≤ 4 ∧ w ≤ n ∧ wideI s (n - w) = w

theorem ends_char {s : ByteArray} {n w : Nat} (hn : n ≤ s.size) (h : Ends s n w) : CharAt w (B s (n - w)) (B s (n - w + 1)) (B s (n - w + 2)) (B s (n - w + 3)) :=
  let ⟨h1, h4, hw, he⟩ := h
  ((wide_iff s (n - w) w (by omega) h1 h4).1 he).2
theorem ends_of_char {s : ByteArray} {n w : Nat} (hn : n ≤ s.size) (h1 : 1 ≤ w) (h4 : w ≤ 4) (hw : w ≤ n) (h : CharAt w (B s (n - w)) (B s (n - w + 1)) (B s (n - w + 2)) (B s (n - w + 3))) : Ends s n w :=
  ⟨h1, h4, hw, (wide_iff s (n - w) w (by omega) h1 h4).2 ⟨by omega, h⟩⟩
theorem char_congr {w a0 a1 a2 a3 b0 b1 b2 b3 : Nat} (h0 : a0 = b0) (h1 : 1 < w → a1 = b1) (h2 : 2 < w → a2 = b2) (h3 : 3 < w → a3 = b3) (h : CharAt w a0 a1 a2 a3) : CharAt w b0 b1 b2 b3 := by
  unfold CharAt at *
  omega
theorem ends_c {s : ByteArray} {n w : Nat} (hn : n ≤ s.size) (h : Ends s n w) : CharAt w (B s (n - w)) (B s (n - (w - 1))) (B s (n - (w - 2))) (B s (n - (w - 3))) := by
  have hw := h.2.2.1
  exact char_congr rfl (fun h => congrArg (B s) (by omega)) (fun h => congrArg (B s) (by omega)) (fun h => congrArg (B s) (by omega)) (ends_char hn h)
theorem ends_one {s : ByteArray} {n u v : Nat} (hn : n ≤ s.size) (hu : Ends s n u) (hv : Ends s n v) : u = v := by
  have cu := ends_c hn hu
  have cv := ends_c hn hv
  obtain ⟨u1, u4, un, _⟩ := hu
  obtain ⟨v1, v4, vn, _⟩ := hv
  unfold CharAt at cu cv
  rcases (by omega : u = 1 ∨ u = 2 ∨ u = 3 ∨ u = 4) with rfl | rfl | rfl | rfl <;>
  rcases (by omega : v = 1 ∨ v = 2 ∨ v = 3 ∨ v = 4) with rfl | rfl | rfl | rfl <;>
  first | rfl | (exfalso; simp only [Nat.reduceSub] at cu cv; omega)
theorem befK_ends {s : ByteArray} {n v : Nat} (hn : n ≤ s.size) (h : Ends s n v) : ∀ f k, 1 ≤ k → k ≤ v → v < f + k → befK s n f k = (((Utf8.decode s (n - v)).1 : Int), (v : Int))
  | 0, k, _, hk, hf => by omega
  | f + 1, k, h1, hk, hf => by
    unfold befK
    have hv4 := h.2.1
    have hvn := h.2.2.1
    rw [if_pos (by omega)]
    by_cases c : wideI s (n - k) = k
    · obtain rfl : v = k := ends_one hn h ⟨h1, by omega, by omega, c⟩
      rw [if_pos c]
    · rw [if_neg c]
      have : k ≠ v := fun e => c (e ▸ h.2.2.2)
      exact befK_ends hn h f (k + 1) (by omega) (by omega) (by omega)
theorem befK_none {s : ByteArray} {n : Nat} (h : ∀ v, ¬ Ends s n v) : ∀ f k, 1 ≤ k → befK s n f k = (65533, 1)
  | 0, _, _ => rfl
  | f + 1, k, h1 => by
    unfold befK
    split
    · rename_i hk
      rw [if_neg (fun c => h k ⟨h1, hk.1, hk.2, c⟩)]
      exact befK_none h f (k + 1) (by omega)
    · rfl

/-! the library's decoder of the last rune -/
def preL (s : ByteArray) (n : Nat) : List UInt8 := (s.extract 0 n).data.toList
theorem size_pre (s : ByteArray) (n : Nat) (hn : n ≤ s.size) : (s.extract 0 n).size = n := by rw [ByteArray.size_extract]; omega
theorem length_pre (s : ByteArray) (n : Nat) (hn : n ≤ s.size) : (preL s n).length = n := by
  have := size_pre s n hn
  unfold preL
  simpa using this
theorem B_pre (s : ByteArray) (n k : Nat) (hn : n ≤ s.size) (hk : k < n) : B (s.extract 0 n) k = B s k := by
  have := B_extract s 0 n k (by omega) hk
  simpa using this
theorem getD_pre (s : ByteArray) (n k : Nat) (hn : n ≤ s.size) (hk : k < n) : ((preL s n).getD k 0).toNat = B s k := B_pre s n k hn hk
theorem ends_pre (s : ByteArray) (n v : Nat) (hn : n ≤ s.size) : Ends (s.extract 0 n) n v ↔ Ends s n v := by
  have hz := size_pre s n hn
  constructor
  · intro h
    have hc := ends_c (by omega) h
    obtain ⟨h1, h4, hv, _⟩ := h
    refine ends_of_char hn h1 h4 hv (char_congr (B_pre s n _ hn (by omega)) (fun g => ?_) (fun g => ?_) (fun g => ?_) hc)
    all_goals (rw [B_pre s n _ hn (by omega)]; exact congrArg (B s) (by omega))
  · intro h
    have hc := ends_c hn h
    obtain ⟨h1, h4, hv, _⟩ := h
    refine ends_of_char (by omega) h1 h4 hv (char_congr (B_pre s n _ hn (by omega)).symm (fun g => ?_) (fun g => ?_) (fun g => ?_) hc)
    all_goals (rw [B_pre s n _ hn (by omega)]; exact congrArg (B s) (by omega))
theorem decode_pre (s : ByteArray) (n v : Nat) (hn : n ≤ s.size) (h : Ends s n v) : Utf8.decode (s.extract 0 n) (n - v) = Utf8.decode s (n - v) := by
  have hz := size_pre s n hn
  have h' := (ends_pre s n v hn).2 h
  obtain ⟨h1, h4, hv, he⟩ := h
  obtain ⟨_, _, _, he'⟩ := h'
  rcases unit_at s (n - v) (by omega) with ⟨q, _⟩ | ⟨u, _, _, _, e1, e2, e3⟩
  · omega
  rcases unit_at (s.extract 0 n) (n - v) (by omega) with ⟨q, _⟩ | ⟨u', _, _, _, e1', e2', e3'⟩
  · omega
  obtain rfl : u = v := by omega
  obtain rfl : u' = u := by omega
  refine Prod.ext ?_ (by omega)
  have : numT u' (B (s.extract 0 n) (n - u')) (B (s.extract 0 n) (n - u' + 1)) (B (s.extract 0 n) (n - u' + 2)) (B (s.extract 0 n) (n - u' + 3)) = numT u' (B s (n - u')) (B s (n - u' + 1)) (B s (n - u' + 2)) (B s (n - u' + 3)) := by
    have e : ∀ j, j < u' → B (s.extract 0 n) (n - u' + j) = B s (n - u' + j) := fun j hj => B_pre s n _ hn (by omega)
    have e0 := e 0 (by omega)
    rw [Nat.add_zero] at e0
    unfold numT
    rcases (by omega : u' = 1 ∨ u' = 2 ∨ u' = 3 ∨ u' = 4) with h | h | h | h
    · subst h; simp [e0]
    · subst h; simp [e0, e 1 (by omega)]
    · subst h; simp [e0, e 1 (by omega), e 2 (by omega)]
    · subst h; simp [e0, e 1 (by omega), e 2 (by omega), e 3 (by omega)]
  omega
theorem lastStart_ends (s : ByteArray) (n u : Nat) (hn : n ≤ s.size) (h : Ends s n u) (h2 : 2 ≤ u) : lastStart (preL s n) = n - u := by
  have hc := ends_c hn h
  obtain ⟨h1, h4, hu, _⟩ := h
  unfold lastStart
  simp only [length_pre s n hn, runeStartB, bne_iff_ne, ne_eq]
  rcases (by omega : u = 2 ∨ u = 3 ∨ u = 4) with rfl | rfl | rfl
  all_goals
    unfold CharAt at hc
    simp only [Nat.reduceSub] at hc
  · rw [if_neg (by omega), getD_pre s n _ hn (by omega), if_pos (by omega)]
  · rw [if_neg (by omega), getD_pre s n _ hn (by omega), if_neg (by omega), if_neg (by omega), getD_pre s n _ hn (by omega), if_pos (by omega)]
  · rw [if_neg (by omega), getD_pre s n _ hn (by omega), if_neg (by omega), if_neg (by omega), getD_pre s n _ hn (by omega), if_neg (by omega), if_neg (by omega), getD_pre s n _ hn (by omega), if_pos (by omega)]
theorem lastStart_lt1 (s : ByteArray) (n : Nat) (hn : n ≤ s.size) (h1 : 1 ≤ n) : lastStart (preL s n) < n ∧ (lastStart (preL s n) + 1 = n → n = 1) ∧ n ≤ lastStart (preL s n) + 5 := by
  unfold lastStart
  simp only [length_pre s n hn]
  repeat' split
  all_goals omega
theorem last_bef (s : ByteArray) (n : Nat) (hn : n ≤ s.size) (h1 : 1 ≤ n) :
    (((decodeLastL (preL s n)).1 : Int), ((decodeLastL (preL s n)).2 : Int)) = befK s n 5 1 := by
  have hl := length_pre s n hn
  have hne : preL s n ≠ [] := fun e => by rw [e] at hl; simp at hl; omega
  have hz := size_pre s n hn
  unfold decodeLastL
  rw [if_neg hne, hl, getD_pre s n _ hn (by omega)]
  by_cases ha : B s (n - 1) < 128
  · rw [if_pos ha]
    have he : Ends s n 1 := ends_of_char hn (by omega) (by omega) h1 (.inl ⟨rfl, ha⟩)
    rw [befK_ends hn he 5 1 (by omega) (by omega) (by omega)]
    rcases unit_at s (n - 1) (by omega) with ⟨q, _⟩ | ⟨u, _, _, _, e1, e2, e3⟩
    · have := he.2.2.2; omega
    · have := he.2.2.2
      obtain rfl : u = 1 := by omega
      rw [e3]; simp [numT]
  · rw [if_neg ha]
    obtain ⟨hs1, hs2, hs3⟩ := lastStart_lt1 s n hn h1
    have hd : decodeL ((preL s n).drop (lastStart (preL s n))) = Utf8.decode (s.extract 0 n) (lastStart (preL s n)) := decodeL_drop _ _
    simp only [hd]
    have no1 : ¬ Ends s n 1 := fun h => by have := ends_c hn h; unfold CharAt at this; simp only [Nat.reduceSub] at this; omega
    have two : ∀ u, Ends s n u → 2 ≤ u := fun u h => by
      have := h.1
      rcases (by omega : u = 1 ∨ 2 ≤ u) with rfl | h'
      · exact absurd h no1
      · exact h'
    generalize hst : lastStart (preL s n) = st at *
    rcases decode_wide (s.extract 0 n) st (by omega) with ⟨e0, ed⟩ | ⟨v, v1, v4, hv, ev, ed⟩
    · have none' : ∀ u, ¬ Ends s n u := fun u h => by
        have hu := two u h
        have e1 := lastStart_ends s n u hn h hu
        have h' := ((ends_pre s n u hn).2 h).2.2.2
        rw [← e1, hst] at h'
        have := h.1
        omega
      rw [befK_none none' 5 1 (by omega), ed]
      split <;> rfl
    · by_cases hsum : st + v = n
      · have hE : Ends s n v := (ends_pre s n v hn).1 ⟨v1, v4, by omega, by rw [show n - v = st by omega]; exact ev⟩
        rw [if_pos (by omega), befK_ends hn hE 5 1 (by omega) (by omega) (by omega), ← decode_pre s n v hn hE, show n - v = st by omega, ed]
      · have none' : ∀ u, ¬ Ends s n u := fun u h => by
          have hu := two u h
          have e1 := lastStart_ends s n u hn h hu
          have h' := ((ends_pre s n u hn).2 h).2.2.2
          rw [← e1, hst] at h'
          have := h.1
          have := h.2.2.1
          omega
        rw [if_neg (by omega), befK_none none' 5 1 (by omega)]
        rfl
end Go.Proofs.YthhepebkfokddaaGreatDoor

namespace Go.Proofs.YthhepebkfokddaaGreatDoor
open Go Go.RowKit Go.Lib

theorem befP_in (s : ByteArray) (n : Nat) (h1 : 1 ≤ n) (h : n ≤ s.size) : befP s n = befK s n 5 1 := by
  unfold befP; rw [if_pos (by omega)]; simp
theorem befP_out (s : ByteArray) (a : Int) (h : a < 1 ∨ s.size < a) : befP s a = (65533, 0) := by
  unfold befP; rw [if_neg (by omega)]

theorem utfBefore_any (s : ByteArray) (a : Int) (w : World) (hT : Utf8Tabs 3 4 w) (hs : s.size ≤ 4611686018427387904) :
    Calls Tryz.prog 26 #[.string s, .int .i64 a] w fun e w' => e = .returned (.tuple #[.int .i32 (befP s a).1, .int .i64 (befP s a).2]) ∧ Below w.heap.size w w' := by
  have HT := Lib.hid hT; clear hT
  by_cases hin : 1 ≤ a ∧ a ≤ s.size
  · obtain ⟨n, rfl⟩ := Int.eq_ofNat_of_zero_le (by omega : 0 ≤ a)
    obtain ⟨hn1, hn2⟩ := hin
    have H := Lib.hid (befP_in s n (by omega) (by omega))
    generalize befP s n = R at H ⊢
    have HD : Hid (∀ w, Utf8Tabs 3 4 w → Calls Tryz.prog 56 #[.string (s.extract 0 n)] w fun e w' => e = .returned (.tuple #[.int .i32 R.1, .int .i64 R.2]) ∧ Below w.heap.size w w') := Lib.hid fun w hT => by
      have := Tryz.utf8_DecodeLastRuneInString (s.extract 0 n) w (by rw [size_pre s n (by omega)]; omega) hT
      have e := last_bef s n (by omega) (by omega)
      rw [H.out, ← e]; exact this
    clear H
    have t1 : decide ((n : Int) < 1) = false := by simp; omega
    have t2 : decide (s.size < n) = false := by simp; omega
    go_enter Tryz.func26, Tryz.ntmps26
    go_wp2_with (go_at_call 56; refine (HD.out _ HT.out).mono ?_; rintro e w' ⟨rfl, hb⟩)
    go_ret2
    exact ⟨rfl, hb⟩
  · have H := Lib.hid (befP_out s a (by omega))
    generalize befP s a = R at H ⊢
    by_cases h0 : a < 1
    · go_enter Tryz.func26, Tryz.ntmps26
      go_wp2
      go_ret2
      rw [H.out]; exact ⟨rfl, Below.refl _ _⟩
    · go_enter Tryz.func26, Tryz.ntmps26
      go_wp2
      go_ret2
      rw [H.out]; exact ⟨rfl, Below.refl _ _⟩

end Go.Proofs.YthhepebkfokddaaGreatDoor

namespace Go.Proofs.YthhepebkfokddaaGreatDoor
open Go Go.RowKit Go.Kt Go.Shelf
attribute [local go_sem] Oper.semAt_some

theorem run_next_str {P : Program} (W : World) (k : Nat) (s : ByteArray) (pos : Nat) (ty : TypeId) (hb : W.heap[k]? = some (.stringIter s pos)) (h : pos < s.size) :
    (Instr.next (.pointer (some ⟨k, 0, none⟩)) true ty).run P W =
      .ok (.tuple #[.bool true, .int .i64 pos, .int .i32 (Utf8.decode s pos).1]) (W.putObj k (.stringIter s (pos + (Utf8.decode s pos).2))) := by
  simp only [Instr.next, getObj, setObj, Sem.run_bind, Sem.run, hb, Result.andThen, h, if_true]
  simp [goInt, World.putObj]
theorem run_next_str_end {P : Program} (W : World) (k : Nat) (s : ByteArray) (pos : Nat) (ty : TypeId) (hb : W.heap[k]? = some (.stringIter s pos)) (h : ¬ pos < s.size) :
    (Instr.next (.pointer (some ⟨k, 0, none⟩)) true ty).run P W = .ok (.tuple #[.bool false]) W := by
  simp [Instr.next, getObj, Sem.run, hb, h]

def unitsF (s : ByteArray) : Nat → Nat → List (Nat × Nat)
  | 0, _ => []
  | f + 1, pos => if pos < s.size then (pos, (Utf8.decode s pos).1) :: unitsF s f (pos + (Utf8.decode s pos).2) else []
def units (s : ByteArray) : List (Nat × Nat) := unitsF s s.size 0
abbrev enc2 (p : Nat × Nat) : Array Value := #[.int .i64 p.1, .int .i32 p.2]

theorem dec_width (s : ByteArray) (pos : Nat) (h : pos < s.size) : 1 ≤ (Utf8.decode s pos).2 ∧ (Utf8.decode s pos).2 ≤ 4 ∧ pos + (Utf8.decode s pos).2 ≤ s.size := by
  rcases decode_wide s pos h with ⟨_, e⟩ | ⟨w, h1, h4, hw, _, e⟩
  · rw [e]; simp; omega
  · omega
def iterPos (W : World) (k : Nat) : Nat := match W.heap[k]? with | some (.stringIter _ p) => p | _ => 0
theorem iterPos_eq {W : World} {k : Nat} {s : ByteArray} {p : Nat} (h : W.heap[k]? = some (.stringIter s p)) : iterPos W k = p := by simp [iterPos, h]

theorem all_iter (s : ByteArray) (bs : Nat) (w0 : World) (hc : w0.cell? ⟨bs, 0, none⟩ = some (.string s)) (_hs : s.size ≤ 4611686018427387904) :
    Iter Tryz.prog 66 #[.pointer (some ⟨bs, 0, none⟩)] enc2 (units s) (fun b => b = bs) w0 := by
  intro l X J Jx W hNd hX hsame hsz hJ hJx hY h0
  have hcW : W.cell? ⟨bs, 0, none⟩ = some (.string s) := (World.cell?_of_block (w := w0) (a := ⟨bs, 0, none⟩) (hsame bs rfl)).trans hc
  have hbs : bs < W.heap.size := lt_of_cell hcW
  have hX' : ¬ X bs := hNd bs rfl
  refine (callsIn_wide (n := 0)).1 ?_
  refine callsIn_of_wp Tryz.func66 rfl trivial ?_ rfl
  simp only [Tryz.ntmps66, List.size_toArray, List.length_cons, List.length_nil, Nat.reduceAdd, Nat.reduceSub, Array.replicate_succ, Array.replicate_zero, List.push_toArray, List.append_toArray, List.nil_append, List.cons_append]
  gi_wp2
  have HJ0 : J [] (fun _ => False) (W.alloc (.stringIter s 0)) := hJ _ _ _ _ ((Keep.refl _ W).alloc _) h0
  gi_loopw [3] (fun _ wr => ∃ (pre : List (Nat × Nat)) (Y : Nat → Prop) (pos f : Nat), (∀ b, Y b → W.heap.size + 1 ≤ b) ∧ pre ++ unitsF s f pos = units s ∧ s.size ≤ pos + f ∧ J pre Y wr ∧ Keep X W wr ∧ W.heap.size < wr.heap.size ∧ wr.heap[W.heap.size]? = some (.stringIter s pos))
    (fun _ wr => s.size - iterPos wr W.heap.size)
  case atStart =>
    exact ⟨[], _, 0, s.size, fun _ h => h.elim, rfl, by omega, HJ0, (Keep.refl X W).alloc _, (Array.getElem?_eq_some_iff.1 (World.alloc_heap_new W (.stringIter s 0))).1, World.alloc_heap_new W _⟩
  case round =>
    obtain ⟨pre, Y, pos, f, hYl, hp, hf, hJs, hk, hlt, hit⟩ := hrel
    by_cases hpos : pos < s.size
    · obtain ⟨d1, d2, d3⟩ := dec_width s pos hpos
      obtain ⟨f', rfl⟩ : ∃ f', f = f' + 1 := ⟨f - 1, by omega⟩
      have hun : unitsF s (f' + 1) pos = (pos, (Utf8.decode s pos).1) :: unitsF s f' (pos + (Utf8.decode s pos).2) := by rw [unitsF, if_pos hpos]
      rw [hun] at hp
      have hpre : pre ++ [(pos, (Utf8.decode s pos).1)] <+: units s := ⟨unitsF s f' (pos + (Utf8.decode s pos).2), by rw [← hp]; simp⟩
      obtain ⟨W1, hW1⟩ : ∃ W1, wr.putObj W.heap.size (.stringIter s (pos + (Utf8.decode s pos).2)) = W1 := ⟨_, rfl⟩
      have hb1 : Below W.heap.size wr W1 := by rw [← hW1]; exact below_putObj (Nat.le_refl _) _
      have hit1 : W1.heap[W.heap.size]? = some (.stringIter s (pos + (Utf8.decode s pos).2)) := by rw [← hW1]; exact World.putObj_heap_same hlt
      have hk1 : Keep X W W1 := hk.then hb1
      have hst : Keep (fun b => W.heap.size ≤ b ∧ ¬ Y b) wr W1 := by rw [← hW1]; exact (Keep.refl _ wr).putObj (.inl ⟨Nat.le_refl _, fun hy => by have := hYl _ hy; omega⟩) _
      have hlt1 : W.heap.size < W1.heap.size := (Array.getElem?_eq_some_iff.1 hit1).1
      obtain ⟨fn, tmps, assign, body, hy, hR⟩ := hY pre _ Y W1 hpre (hJ _ _ _ _ hst hJs) (by omega) (fun b hb => by have := hYl b hb; omega)
      have hnx : ∀ ty, (Instr.next (.pointer (some ⟨W.heap.size, 0, none⟩)) true ty).run Tryz.prog wr = .ok (.tuple #[.bool true, .int .i64 pos, .int .i32 (Utf8.decode s pos).1]) W1 := fun ty => by
        rw [← hW1]; exact run_next_str wr W.heap.size s pos ty hit hpos
      generalize Utf8.decode s pos = dd at *
      obtain ⟨r, wd⟩ := dd
      have Hdat := Lib.hid (And.intro hp (And.intro hf (And.intro hit (And.intro hit1 hpre))))
      clear hp hf hun hpre hit hit1 hW1
      gi_wp2
      refine ⟨rfl, hR.mono ?_⟩
      rintro e W2 ⟨Y', hk2, hY', (⟨rfl, hJ2⟩ | ⟨rfl, hJx2⟩)⟩
      · obtain ⟨hp, hf, hit, hit1, hpre⟩ := Hdat.out
        have hit2 := hk2.heap hit1 (fun h => by rcases h with h | h; have := hX _ h; omega; have := hYl _ h; omega)
        have hkW : Keep X W W2 := ⟨hk2.os.trans hk1.os, hk2.tape.trans hk1.tape, hk2.output.trans hk1.output, Nat.le_trans hk1.size hk2.size, fun b hb hx => (hk2.same b (Nat.lt_of_lt_of_le hb hk1.size) (fun h => by rcases h with h | h; exact hx h; have := hYl b h; omega)).trans (hk1.same b hb hx)⟩
        gi_wp2
        go_roundw
        case rel => exact ⟨pre ++ [(pos, r)], Y', pos + wd, f', fun b hb => by rcases hY' b hb with h | h; exact hYl b h; omega, by rw [List.append_assoc]; exact hp, by omega, hJ2, hkW, (Array.getElem?_eq_some_iff.1 hit2).1, hit2⟩
        case measure => rw [iterPos_eq hit2, iterPos_eq hit]; omega
      · obtain ⟨hp, hf, hit, hit1, hpre⟩ := Hdat.out
        gi_wp2
        refine bodyPost_ret (results_none rfl _ _ _) rfl ?_
        have hkW : Keep X W W2 := ⟨hk2.os.trans hk1.os, hk2.tape.trans hk1.tape, hk2.output.trans hk1.output, Nat.le_trans hk1.size hk2.size, fun b hb hx => (hk2.same b (Nat.lt_of_lt_of_le hb hk1.size) (fun h => by rcases h with h | h; exact hx h; have := hYl b h; omega)).trans (hk1.same b hb hx)⟩
        exact ⟨⟨_, rfl⟩, hkW, .inr ⟨_, Y', hpre, fun b hb => by rcases hY' b hb with h | h; have := hYl b h; omega; omega, hJx2⟩⟩
    · have hnx : ∀ ty, (Instr.next (.pointer (some ⟨W.heap.size, 0, none⟩)) true ty).run Tryz.prog wr = .ok (.tuple #[.bool false]) wr := fun ty => run_next_str_end wr W.heap.size s pos ty hit hpos
      have hun : unitsF s f pos = [] := by
        cases f with
        | zero => rfl
        | succ f => rw [unitsF, if_neg hpos]
      rw [hun, List.append_nil] at hp
      have Hp := Lib.hid hp
      clear hp hit hun
      gi_wp2
      go_end0
      exact ⟨⟨_, rfl⟩, hk, .inl ⟨Y, fun b hb => by have := hYl b hb; omega, Hp.out ▸ hJs⟩⟩
end Go.Proofs.YthhepebkfokddaaGreatDoor

namespace Go.Proofs.YthhepebkfokddaaGreatDoor
open Go Go.RowKit Go.Lib

theorem below_drewN {B : Nat} {a w : World} (h : Below B a w) (n : Nat) : Below B a (w.drewN n) := ⟨h.os, h.tape, h.output, h.size, h.block⟩
def fullK (k lo hi : Nat) (n b1 b2 : Nat) : Bool :=
  if k ≤ n then true else if 1 < n ∧ (b1 < lo ∨ hi < b1) then true else if 2 < n ∧ (b2 < 128 ∨ 191 < b2) then true else false

end Go.Proofs.YthhepebkfokddaaGreatDoor

namespace Go.Proofs.YthhepebkfokddaaGreatDoor
open Go Go.RowKit Go.Lib

def fullB (s : ByteArray) : Bool := if s.size = 0 then false else (((begunI s 0).1 == (begunI s 0).2) || decide ((begunI s 0).1 < s.size))

end Go.Proofs.YthhepebkfokddaaGreatDoor

namespace Go.Proofs.YthhepebkfokddaaGreatDoor
open Go Go.RowKit Go.Lib

def pieceK (s : ByteArray) : Nat → Nat → Nat
  | 0, n => n
  | f + 1, n => if n < s.size ∧ fullB (s.extract 0 (n + 1)) = false then pieceK s f (n + 1) else n

def illB (s : ByteArray) (i : Nat) : Bool := wideI s i == 0
end Go.Proofs.YthhepebkfokddaaGreatDoor

namespace Go.Proofs.YthhepebkfokddaaGreatDoor
open Go Go.RowKit Go.Lib

def badK (s : ByteArray) (i : Nat) : Nat := ((begunI s i).1).toNat.max 1
def badsF (s : ByteArray) : Nat → Nat → List (Nat × Nat)
  | 0, _ => []
  | f + 1, i => if i < s.size then (if wideI s i = 0 then (i, badK s i) :: badsF s f (i + badK s i) else badsF s f (i + (wideI s i).toNat)) else []
def bads (s : ByteArray) : List (Nat × Nat) := badsF s s.size 0

theorem wide0_iff (s : ByteArray) (i : Nat) : wideI s i = 0 ↔ ((leadI (B s i)).1 = 0 ∨ bgT (leadI (B s i)) (s.size - i) (B s (i + 1)) (B s (i + 2)) (B s (i + 3)) ≠ (leadI (B s i)).1) := by
  unfold wideI
  rw [begunI_eq]
  by_cases hz : (leadI (B s i)).1 = 0
  · rw [if_pos hz]; simp [hz]
  · rw [if_neg hz]
    by_cases hq : bgT (leadI (B s i)) (s.size - i) (B s (i + 1)) (B s (i + 2)) (B s (i + 3)) = (leadI (B s i)).1
    · simp [hq, hz]
    · simp [hq]
theorem wide_cont (s : ByteArray) (i : Nat) (h1 : 128 ≤ B s i) (h2 : B s i ≤ 191) : wideI s i = 0 := by
  rw [wide0_iff]; left; rw [lead_bad _ (by omega)]
def badU (s : ByteArray) : Nat → Nat → Nat → List (Nat × Nat)
  | 0, _, _ => []
  | f + 1, p, e => if p < s.size then (if p < e ∨ wideI s p ≠ 0 then badU s f (p + (Utf8.decode s p).2) e else (p, badK s p) :: badU s f (p + (Utf8.decode s p).2) (p + badK s p)) else []
end Go.Proofs.YthhepebkfokddaaGreatDoor

namespace Go.Proofs.YthhepebkfokddaaGreatDoor
open Go Go.RowKit Go.Kt Go.Shelf
attribute [local go_sem] Oper.semAt_some

abbrev encP (p : Nat × Nat) : Array Value := #[.int .i64 p.1, .int .i64 p.2]

end Go.Proofs.YthhepebkfokddaaGreatDoor

namespace Go.Proofs.YthhepebkfokddaaGreatDoor
open Go Go.RowKit Go.Kt

end Go.Proofs.YthhepebkfokddaaGreatDoor

namespace Go.Proofs.YthhepebkfokddaaGreatDoor
open Go Go.RowKit Go.Kt Go.Shelf
attribute [local go_sem] Oper.semAt_some

theorem utfAll_call (s : ByteArray) (w : World) :
    Calls Tryz.prog 31 #[.string s] w fun e w' => e = .returned (.func (.func 66) #[] #[.pointer (some ⟨w.heap.size, 0, none⟩)]) ∧ w.alloc (.cells #[.string s] 9) = w' := by
  go_enter Tryz.func31, Tryz.ntmps31
  go_wp2
  go_ret
  exact ⟨rfl, rfl⟩
/-! what Mend writes -/
def rep (l : List UInt8) : Nat → List UInt8
  | 0 => []
  | n + 1 => rep l n ++ l
def mendStep (s by' : ByteArray) (whole : Bool) (st : List UInt8 × Nat) (p : Nat × Nat) : List UInt8 × Nat :=
  (st.1 ++ (s.extract st.2 p.1).data.toList ++ rep by'.data.toList (if whole then 1 else p.2), p.1 + p.2)
def mendF (s by' : ByteArray) (whole : Bool) (l : List (Nat × Nat)) : List UInt8 × Nat := l.foldl (mendStep s by' whole) ([], 0)
def mendL (s by' : ByteArray) (whole : Bool) : List UInt8 :=
  (mendF s by' whole (bads s)).1 ++ (s.extract (mendF s by' whole (bads s)).2 s.size).data.toList
def Chain (n : Nat) : Nat → List (Nat × Nat) → Prop
  | _, [] => True
  | lo, (a, k) :: r => lo ≤ a ∧ 1 ≤ k ∧ a + k ≤ n ∧ Chain n (a + k) r
end Go.Proofs.YthhepebkfokddaaGreatDoor

namespace Go.Proofs.YthhepebkfokddaaGreatDoor
open Go Go.RowKit Go.Kt Go.Shelf
attribute [local go_sem] Oper.semAt_some

end Go.Proofs.YthhepebkfokddaaGreatDoor
/- The document's lists of what is ill-formed, and its mended text. -/
namespace Go.Proofs.YthhepebkfokddaaGreatDoor
open Go Go.RowKit Go.Kt Go.Shelf

def pieceCells (l : List (Nat × Nat)) : List Value := l.flatMap fun p => [.int .i64 p.1, .int .i64 p.2]
def OwnB (Y : Nat → Prop) (v : Value) (l : List UInt8) (W : World) : Prop := W.ownsRowF 0 5 1 v l.length (Lib.byteCells l) ∧ ∀ g, v.ownBlock = some g → Y g
end Go.Proofs.YthhepebkfokddaaGreatDoor

namespace Go.Proofs.YthhepebkfokddaaGreatDoor
open Go Go.RowKit Go.Kt Go.Shelf

def runeCells (s : ByteArray) : List Value := (units s).map fun p => Value.int .i32 p.2
theorem unitsF_len (s : ByteArray) : ∀ f i, (unitsF s f i).length ≤ f
  | 0, i => by simp [unitsF]
  | f + 1, i => by
    unfold unitsF
    split
    · have := unitsF_len s f (i + (Utf8.decode s i).2)
      simp; omega
    · simp
theorem units_len (s : ByteArray) : (units s).length ≤ s.size := unitsF_len s s.size 0

end Go.Proofs.YthhepebkfokddaaGreatDoor

namespace Go.Proofs.YthhepebkfokddaaGreatDoor
open Go Go.RowKit Go.Kt Go.Shelf

abbrev s1 : ByteArray := ⟨#[97, 195, 169]⟩
abbrev s2 : ByteArray := ⟨#[195]⟩
abbrev s3 : ByteArray := ⟨#[255, 98]⟩
theorem d1 : decP s1 1 = (233, 2) := by kernel_rfl
theorem d2 : decP s2 0 = (65533, 1) := by kernel_rfl
theorem d3 : runeCells s3 = [.int .i32 65533, .int .i32 98] := by kernel_rfl
theorem d4 : Utf8.encode 233 = ⟨#[195, 169]⟩ := by kernel_rfl
theorem d5 : mendL ⟨#[255]⟩ ⟨#[63]⟩ true = [63] := by kernel_rfl
theorem d6 : fullB ⟨#[97]⟩ = true := by kernel_rfl

end Go.Proofs.YthhepebkfokddaaGreatDoor
/- Whether a text is right; the text of numbers; one unit held; the ill-formed pieces held. -/
namespace Go.Proofs.YthhepebkfokddaaGreatDoor
open Go Go.RowKit Go.Kt Go.Shelf

def okF (s : ByteArray) : Nat → Nat → Bool
  | 0, _ => true
  | f + 1, i => if i < s.size then (if illB s i then false else okF s f (i + (Utf8.decode s i).2)) else true
def okB (s : ByteArray) : Bool := okF s s.size 0

end Go.Proofs.YthhepebkfokddaaGreatDoor
/- A text that is cut: the numbers of its two pieces are its own just where it is cut between two units. -/
namespace Go.Proofs.YthhepebkfokddaaGreatDoor
open Go

def numsF (s : ByteArray) (f i : Nat) : List Nat := (unitsF s f i).map (·.2)
def placesF (s : ByteArray) (f i : Nat) : List Nat := (unitsF s f i).map (·.1)
theorem placesF_in (s : ByteArray) (f i : Nat) (h : i < s.size) : placesF s (f + 1) i = i :: placesF s f (i + (Utf8.decode s i).2) := by
  simp [placesF, unitsF, h]
theorem placesF_end (s : ByteArray) (f i : Nat) (h : s.size ≤ i) : placesF s f i = [] := by
  cases f with
  | zero => rfl
  | succ f => simp [placesF, unitsF, Nat.not_lt.2 h]
theorem placesF_ge (s : ByteArray) : ∀ f i p, p ∈ placesF s f i → i ≤ p
  | 0, _, p, h => by simp [placesF, unitsF] at h
  | f + 1, i, p, h => by
    rcases Nat.lt_or_ge i s.size with hi | hi
    · rw [placesF_in s f i hi] at h
      rcases List.mem_cons.1 h with h | h
      · omega
      · have := placesF_ge s f _ p h; omega
    · rw [placesF_end s _ i hi] at h; simp at h

theorem in_char (s : ByteArray) (i j : Nat) (hi : i < s.size) (hj : 1 ≤ j) (hw : j < (Utf8.decode s i).2) : 128 ≤ B s (i + j) ∧ B s (i + j) ≤ 191 := by
  rcases unit_at s i hi with ⟨_, e⟩ | ⟨u, u1, u4, _, e1, e2, _⟩
  · rw [e] at hw; simp only at hw; omega
  · have hc := ((wide_iff s i u hi u1 u4).1 e1).2
    rw [e2] at hw
    rcases hc with ⟨rfl, _⟩ | ⟨rfl, h⟩ | ⟨rfl, h⟩ | ⟨rfl, h⟩
    · omega
    · obtain rfl : j = 1 := by omega
      omega
    · rcases (by omega : j = 1 ∨ j = 2) with rfl | rfl <;> omega
    · rcases (by omega : j = 1 ∨ j = 2 ∨ j = 3) with rfl | rfl | rfl <;> omega

def nums (s : ByteArray) : List Nat := numsF s s.size 0
end Go.Proofs.YthhepebkfokddaaGreatDoor
/- The walk of UtfCuts. -/
namespace Go.Proofs.YthhepebkfokddaaGreatDoor
open Go Go.RowKit Go.Kt Go.Shelf
attribute [local go_sem] Oper.semAt_some

def Plc (m : Nat) (s : ByteArray) (p : Nat → Bool) (W : World) : Prop :=
  ∃ c : Array Value, W.heap[m]? = some (.cells c 4 (0, 0)) ∧ ∀ i, i ≤ s.size → c[i]? = some (.bool (p i))
def pcs (s : ByteArray) (pre : List (Nat × Nat)) (i : Nat) : Bool := (pre.map fun p => p.1).contains i || (i == s.size || i == 0)
def numsI (s : ByteArray) : List Int := (nums s).map fun x : Nat => (x : Int)
end Go.Proofs.YthhepebkfokddaaGreatDoor
/- The document's text of numbers. -/
namespace Go.Proofs.YthhepebkfokddaaGreatDoor
open Go Go.RowKit Go.Kt Go.Shelf

def encC (c : Int) : ByteArray :=
  if c < 128 then ⟨#[UInt8.ofNat c.toNat]⟩
  else if c < 2048 then ⟨#[UInt8.ofNat (192 + c / 64).toNat, UInt8.ofNat (128 + c % 64).toNat]⟩
  else if c < 65536 then ⟨#[UInt8.ofNat (224 + c / 4096).toNat, UInt8.ofNat (128 + c / 64 % 64).toNat, UInt8.ofNat (128 + c % 64).toNat]⟩
  else ⟨#[UInt8.ofNat (240 + c / 262144).toNat, UInt8.ofNat (128 + c / 4096 % 64).toNat, UInt8.ofNat (128 + c / 64 % 64).toNat, UInt8.ofNat (128 + c % 64).toNat]⟩
end Go.Proofs.YthhepebkfokddaaGreatDoor
/- What is read and made again: the bytes of a character; the text of a text's numbers; mended texts. -/
namespace Go.Proofs.YthhepebkfokddaaGreatDoor
open Go

def seg (s : ByteArray) (i j : Nat) : List UInt8 := (s.extract i j).data.toList
def fixF (s : ByteArray) : Nat → Nat → List UInt8
  | 0, _ => []
  | f + 1, i => if i < s.size then (Utf8.encode (Utf8.decode s i).1).data.toList ++ fixF s f (i + (Utf8.decode s i).2) else []
def fffd : List UInt8 := [239, 191, 189]
end Go.Proofs.YthhepebkfokddaaGreatDoor
/- Mended texts: how long they are; that they are right; U+FFFD byte by byte. -/
namespace Go.Proofs.YthhepebkfokddaaGreatDoor
open Go

def mendR (s by' : ByteArray) (whole : Bool) : Nat → Nat → List UInt8
  | 0, _ => []
  | f + 1, i => if i < s.size then (if wideI s i = 0 then rep by'.data.toList (if whole then 1 else badK s i) ++ mendR s by' whole f (i + badK s i) else seg s i (i + (wideI s i).toNat) ++ mendR s by' whole f (i + (wideI s i).toNat)) else []
def sumK (l : List (Nat × Nat)) : Nat := (l.map (·.2)).sum
end Go.Proofs.YthhepebkfokddaaGreatDoor
/- Texts that are right: made of characters; one behind the other; mended ones. -/
namespace Go.Proofs.YthhepebkfokddaaGreatDoor
open Go

def bt (l : List UInt8) (i : Nat) : Nat := (l.getD i 0).toNat
def Chr (c : List UInt8) : Prop := 1 ≤ c.length ∧ c.length ≤ 4 ∧ CharAt c.length (bt c 0) (bt c 1) (bt c 2) (bt c 3)
inductive Vd : List UInt8 → Prop
  | nil : Vd []
  | cons (c l : List UInt8) : Chr c → Vd l → Vd (c ++ l)
end Go.Proofs.YthhepebkfokddaaGreatDoor
/- Units there and back; the numbers of a text made of numbers. -/
namespace Go.Proofs.YthhepebkfokddaaGreatDoor
open Go

theorem no_unit_within (s : ByteArray) (p v i : Nat) (hp : p < s.size) (hv1 : 1 ≤ v) (hv4 : v ≤ 4) (hw : wideI s p = v) (h1 : p < i) (h2 : i < p + v) : ∀ f j, j ≤ p → i ∉ placesF s f j
  | 0, _, _ => by simp [placesF, unitsF]
  | f + 1, j, hj => by
    intro hm
    have hj' : j < s.size := by omega
    obtain ⟨d1, d2, d3⟩ := dec_width s j hj'
    rw [placesF_in s f j hj'] at hm
    rcases List.mem_cons.1 hm with h | h
    · omega
    · rcases Nat.lt_or_ge p (j + (Utf8.decode s j).2) with hlt | hge
      · rcases Nat.eq_or_lt_of_le hj with e | hjp
        · subst e
          rcases decode_wide s j hj' with ⟨h3, _⟩ | ⟨u, _, _, _, h6, h7⟩
          · omega
          · have := placesF_ge s f _ _ h; omega
        · have hc := in_char s j (p - j) hj' (by omega) (by omega)
          rw [Nat.add_sub_cancel' hj] at hc
          have := wide_cont s p hc.1 hc.2
          omega
      · exact no_unit_within s p v i hp hv1 hv4 hw h1 h2 f _ hge h
theorem units_dec (s : ByteArray) : ∀ f i p, p ∈ unitsF s f i → p.2 = (Utf8.decode s p.1).1 ∧ p.1 < s.size
  | 0, _, p, h => by simp [unitsF] at h
  | f + 1, i, p, h => by
    rw [unitsF] at h
    split at h
    · rcases List.mem_cons.1 h with h | h
      · subst h; exact ⟨rfl, by assumption⟩
      · exact units_dec s f _ p h
    · simp at h
theorem before_unit (s : ByteArray) (i : Nat) (hi : i < s.size) (hm : i ∈ placesF s s.size 0) : befP s ((i : Int) + (Utf8.decode s i).2) = (((Utf8.decode s i).1 : Int), ((Utf8.decode s i).2 : Int)) := by
  obtain ⟨d1, d2, d3⟩ := dec_width s i hi
  rw [show ((i : Int) + (Utf8.decode s i).2) = ((i + (Utf8.decode s i).2 : Nat) : Int) by omega, befP_in s _ (by omega) d3]
  rcases decode_wide s i hi with ⟨h3, h4⟩ | ⟨u, u1, u4, u5, h6, h7⟩
  · rw [h4]
    refine befK_none (fun v hv => ?_) 5 1 (by omega)
    obtain ⟨v1, v4, vn, hw⟩ := hv
    rcases Nat.eq_or_lt_of_le v1 with e | e
    · subst e
      rw [show i + 1 - 1 = i by omega] at hw
      omega
    · exact no_unit_within s (i + 1 - v) v i (by omega) v1 v4 hw (by omega) (by omega) s.size 0 (Nat.zero_le _) hm
  · rw [h7]
    have he : Ends s (i + u) u := ⟨u1, u4, by omega, by rw [Nat.add_sub_cancel]; exact h6⟩
    have := befK_ends (by omega) he 5 1 (by omega) u1 (by omega)
    rw [Nat.add_sub_cancel] at this
    exact this
def fixR (x : Int) : Int := if Utf8.valid x then x else 65533
end Go.Proofs.YthhepebkfokddaaGreatDoor
/- Which bytes of a text begin a unit, and of what kind; where the n-th unit begins: the mathematics. -/
namespace Go.Proofs.YthhepebkfokddaaGreatDoor
open Go Go.RowKit Go.Kt Go.Kt.Bits

def PL (s : ByteArray) : List Nat := placesF s s.size 0
theorem PL_units (s : ByteArray) : PL s = (units s).map (·.1) := rfl
theorem PL_len (s : ByteArray) : (PL s).length = (units s).length := by simp [PL_units]
theorem PL_lt (s : ByteArray) (x : Nat) (h : x ∈ PL s) : x < s.size := by
  obtain ⟨p, hp, rfl⟩ := List.mem_map.1 h
  exact (units_dec s s.size 0 p hp).2
def kindB (k r : Nat) : Bool := if k = 0 then true else if k = 1 then decide (65535 < r) else decide (r = 10)
def isK (s : ByteArray) (k x : Nat) : Bool := decide (x ∈ PL s) && kindB k (Utf8.decode s x).1
def kl (s : ByteArray) (k : Nat) : List Nat := (PL s).filter fun x => kindB k (Utf8.decode s x).1
def isP (k : Nat) (pre : List (Nat × Nat)) (x : Nat) : Bool := pre.any fun u => kindB k u.2 && decide (u.1 = x)
def pos (s : ByteArray) (n : Nat) : Nat := (PL s).getD n s.size
theorem pos_in (s : ByteArray) (n : Nat) (h : n < (units s).length) : ∃ hn : n < (PL s).length, pos s n = (PL s)[n] := by
  have hn : n < (PL s).length := by rw [PL_len]; exact h
  exact ⟨hn, by unfold pos; rw [List.getD_eq_getElem?_getD, List.getElem?_eq_getElem hn]; rfl⟩
theorem pos_end (s : ByteArray) (n : Nat) (h : (units s).length ≤ n) : pos s n = s.size := by
  unfold pos; rw [List.getD_eq_getElem?_getD, List.getElem?_eq_none (by rw [PL_len]; exact h)]; rfl
theorem placesF_getD0 (s : ByteArray) (f i : Nat) (hi : i ≤ s.size) (hf : s.size ≤ f + i) : (placesF s f i).getD 0 s.size = i := by
  by_cases h : i < s.size
  · obtain ⟨f', rfl⟩ : ∃ f', f = f' + 1 := ⟨f - 1, by omega⟩
    rw [placesF_in s f' i h]; rfl
  · rw [placesF_end s f i (by omega)]; simp; omega
theorem placesF_succ (s : ByteArray) : ∀ n f i, i ≤ s.size → s.size ≤ f + i → n < (placesF s f i).length →
    (placesF s f i).getD (n + 1) s.size = (placesF s f i).getD n s.size + (Utf8.decode s ((placesF s f i).getD n s.size)).2
  | n, f, i, hi, hf, hn => by
    by_cases h : i < s.size
    · obtain ⟨f', rfl⟩ : ∃ f', f = f' + 1 := ⟨f - 1, by omega⟩
      obtain ⟨d1, _, d3⟩ := dec_width s i h
      rw [placesF_in s f' i h] at hn ⊢
      cases n with
      | zero =>
        rw [List.getD_cons_succ, List.getD_cons_zero]
        exact placesF_getD0 s f' _ d3 (by omega)
      | succ n =>
        rw [List.getD_cons_succ, List.getD_cons_succ]
        exact placesF_succ s n f' _ d3 (by omega) (by simpa using hn)
    · rw [placesF_end s f i (by omega)] at hn; simp at hn
theorem pos_zero (s : ByteArray) : pos s 0 = 0 := placesF_getD0 s s.size 0 (Nat.zero_le _) (by omega)
theorem pos_succ (s : ByteArray) (n : Nat) (h : n < (units s).length) : pos s (n + 1) = pos s n + (Utf8.decode s (pos s n)).2 :=
  placesF_succ s n s.size 0 (Nat.zero_le _) (by omega) (by rw [show (placesF s s.size 0).length = (units s).length from PL_len s]; exact h)
theorem pos_mem (s : ByteArray) (n : Nat) (h : n < (units s).length) : pos s n ∈ PL s := by
  obtain ⟨hn, e⟩ := pos_in s n h; rw [e]; exact List.getElem_mem hn
theorem pos_lt (s : ByteArray) (n : Nat) (h : n < (units s).length) : pos s n < s.size := PL_lt s _ (pos_mem s n h)
theorem pos_le (s : ByteArray) (n : Nat) : pos s n ≤ s.size := by
  rcases Nat.lt_or_ge n (units s).length with h | h
  · exact Nat.le_of_lt (pos_lt s n h)
  · rw [pos_end s n h]; exact Nat.le_refl _
theorem pos_step (s : ByteArray) (n : Nat) (h : n < (units s).length) : pos s n < pos s (n + 1) ∧ pos s (n + 1) ≤ pos s n + 4 := by
  obtain ⟨d1, d2, _⟩ := dec_width s _ (pos_lt s n h)
  rw [pos_succ s n h]; omega
theorem unit_of (s : ByteArray) (a : Nat) (h : a < s.size) : ∃ n, n < (units s).length ∧ pos s n ≤ a ∧ a < pos s (n + 1) := by
  have : ∀ m, m ≤ (units s).length → a < pos s m → ∃ n, n < m ∧ pos s n ≤ a ∧ a < pos s (n + 1) := by
    intro m
    induction m with
    | zero => intro _ h; rw [pos_zero] at h; omega
    | succ m ih =>
      intro hm ha
      by_cases hlt : a < pos s m
      · obtain ⟨n, h1, h2, h3⟩ := ih (by omega) hlt
        exact ⟨n, by omega, h2, h3⟩
      · exact ⟨m, by omega, by omega, ha⟩
  obtain ⟨n, h1, h2, h3⟩ := this (units s).length (Nat.le_refl _) (by rw [pos_end s _ (Nat.le_refl _)]; exact h)
  exact ⟨n, h1, h2, h3⟩
end Go.Proofs.YthhepebkfokddaaGreatDoor
