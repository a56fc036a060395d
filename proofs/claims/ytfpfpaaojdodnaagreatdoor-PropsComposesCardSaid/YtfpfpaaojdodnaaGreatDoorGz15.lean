/- Parts of the proof of what the last text says. -/
import Derived.Test.YtfpfpaaojdodnaaGreatDoorGz13
import Derived.Test.YtfpfpaaojdodnaaGreatDoorGz14
import Derived.Test.YtfpfpaaojdodnaaGreatDoorGz1
import Derived.Laws.Rows
import Derived.Test.YtfpfpaaojdodnaaGreatDoorGz9
import Derived.DeepKeys4
import Derived.Test.YtfpfpaaojdodnaaGreatDoorGz8
import Derived.Test.YtfpfpaaojdodnaaGreatDoorProg
import Derived.Test.YtfpfpaaojdodnaaGreatDoorGz5
import Derived.Lib.Hide
import Derived.Deep.QuietTactic
import Derived.BigQuiet
/- props: what runs say of a number: the walk. -/
namespace Go.Proofs.YtfpfpaaojdodnaaGreatDoor
open Go Go.RowKit Go.Kt Go.Kt.Rg Go.Kt.Bits Go.Maps Go.Kt.Os Go.Sort

def abvB (l : List (Nat × Int)) (r : Int) (i : Nat) : Bool := match l[i]? with
  | some x => decide (r < (x.1 : Int))
  | none => true
theorem abv_mono {l : List (Nat × Int)} (r : Int) (h : l.Pairwise (fun a b => a.1 < b.1)) : ∀ a b, a ≤ b → abvB l r a = true → abvB l r b = true := by
  intro a b hab ha
  unfold abvB at ha ⊢
  cases hb : l[b]? with
  | none => rfl
  | some y =>
    obtain ⟨hbl, hby⟩ := List.getElem?_eq_some_iff.1 hb
    have hal : a < l.length := by omega
    rw [List.getElem?_eq_getElem hal] at ha
    have h1 : r < ((l[a]).1 : Int) := by simpa using ha
    by_cases e : a = b
    · subst e; rw [hby] at h1; simpa using h1
    · have h2 := (List.pairwise_iff_getElem.1 h) a b hal hbl (by omega)
      rw [hby] at h2
      have : r < (y.1 : Int) := by omega
      simpa using this

set_option maxRecDepth 100000 in
theorem patc (l : List (Nat × Int)) (v : Value) (r : Int) (lb rb i : Nat) (w : World) (hS : RunV w v l) (hi : i < l.length) (hl : l.length ≤ 1114113) (c1 : w.cell? ⟨lb, 0, none⟩ = some v) (c2 : w.cell? ⟨rb, 0, none⟩ = some (.int .i32 r)) :
    Calls Tryz.prog 165 #[.int .i64 i, .pointer (some ⟨lb, 0, none⟩), .pointer (some ⟨rb, 0, none⟩)] w
      fun e w' => e = .returned (.bool (abvB l r i)) ∧ ∃ q, w' = w.drewN q := by
  obtain ⟨ao, cp, rfl, h⟩ := hS
  obtain ⟨x, hx⟩ : ∃ x, l[i]? = some x := ⟨_, List.getElem?_eq_getElem hi⟩
  obtain ⟨g, rfl, hg⟩ : ∃ g, ao = some ⟨g, 0, none⟩ ∧ w.cell? ⟨g, i * 2, none⟩ = some (.int .i32 (x.1 : Nat)) := by
    rcases h with h | ⟨g, e, h⟩
    · subst h; simp at hi
    · exact ⟨g, e, (h i x hx).1⟩
  have he : abvB l r i = decide (r < (x.1 : Int)) := by unfold abvB; rw [hx]
  rw [he]
  obtain ⟨n, hn⟩ : ∃ n, l.length = n := ⟨_, rfl⟩
  rw [hn] at c1 hi hl
  obtain ⟨y, z⟩ := x
  simp only at hg ⊢
  have hi' : (i : Int) < (n : Int) := by omega
  clear h he hx hn
  go_enter Tryz.func165, Tryz.ntmps165
  go_wp2
  go_quiet (fail)
  go_wp2
  go_ret
  exact ⟨by simp, _, rfl⟩

set_option maxRecDepth 100000 in
theorem pat (l : List (Nat × Int)) (v : Value) (r : Int) (w : World) (hS : RunV w v l) (hp : l.Pairwise (fun a b => a.1 < b.1)) (hl : l.length ≤ 1114113) :
    Calls Tryz.prog 94 #[v, .int .i32 r] w fun e w' => e = .returned (.int .i64 (runVal l r)) ∧ Below w.heap.size w w' := by
  obtain ⟨m, hm⟩ : ∃ m, w.heap.size = m := ⟨_, rfl⟩
  obtain ⟨V1, hV1⟩ : ∃ V, w.alloc (.cells #[v] 121) = V := ⟨_, rfl⟩
  have hz1 : V1.heap.size = m + 1 := by rw [← hV1, World.size_alloc, hm]
  obtain ⟨V, hV⟩ : ∃ V, V1.alloc (.cells #[.int .i32 r] 21) = V := ⟨_, rfl⟩
  have hb1 : Below m w V1 := by rw [← hV1]; exact (Below.refl _ _).alloc (by omega) _
  have hb2 : Below (m + 1) V1 V := by rw [← hV]; exact (Below.refl _ _).alloc (by omega) _
  have hbb : Below m w V := hb1.trans (hb2.mono (by omega))
  have c1 : V.cell? ⟨m, 0, none⟩ = some v := by
    refine (hb2.cell (by show m < m + 1; omega)).trans ?_
    rw [← hV1, ← hm, Lib.cell_of_heap (World.alloc_heap_new w _)]; rfl
  have c2 : V.cell? ⟨m + 1, 0, none⟩ = some (.int .i32 r) := by
    rw [← hV, ← hz1, Lib.cell_of_heap (World.alloc_heap_new V1 _)]; rfl
  have hSV : RunV V v l := hS.below (by rw [hm]; exact hbb)
  have SC := Lib.hid (psearch 165 #[.pointer (some ⟨m, 0, none⟩), .pointer (some ⟨m + 1, 0, none⟩)] l.length (abvB l r) V (enters_of Tryz.func165 (by kernel_rfl) rfl) (by omega)
      (fun k i hi => patc l v r m (m + 1) i (V.drewN k) (hSV.below (below_drewN (Below.refl _ _) _)) hi hl c1 c2) (abv_mono r hp))
  have CF := Lib.hid (count_front (abvB l r) (abv_mono r hp) l.length)
  have hjl := cnt_le (fun i => !abvB l r i) l.length
  obtain ⟨j, hj⟩ : ∃ j, cnt (fun i => !abvB l r i) l.length = j := ⟨_, rfl⟩
  rw [hj] at SC CF hjl
  have hat := runVal_at l j r hjl (fun i x hx hij => by
      have := CF.out.1 i hij
      unfold abvB at this
      rw [hx] at this
      have := of_decide_eq_false this
      omega) (fun i x hx hij => by
      have := CF.out.2 i hij (List.getElem?_eq_some_iff.1 hx).1
      unfold abvB at this
      rw [hx] at this
      exact of_decide_eq_true this)
  obtain ⟨ao, cp, rfl, h⟩ := hSV
  obtain ⟨n, hn⟩ : ∃ n, l.length = n := ⟨_, rfl⟩
  have HA := Lib.hid (And.intro hat (And.intro h hn))
  rw [hn] at hjl SC c1 hV1 ⊢
  have HV := Lib.hid (And.intro hm (And.intro hV1 (And.intro hz1 (And.intro hV hbb))))
  have hnl : n ≤ 1114113 := by omega
  clear hm hV1 hz1 hV hb1 hb2 hbb hat h hS hj CF hp hl hn
  go_enter Tryz.func94, Tryz.ntmps94
  go_wp2_with fail
  rw [HV.out.2.1, HV.out.2.2.2.1, HV.out.1]
  refine SC.out.mono ?_
  rintro e w2 ⟨rfl, k, rfl⟩
  by_cases h0 : j = 0
  · have hv : runVal l r = 0 := HA.out.1.1 h0
    have HX := Lib.hid hv
    subst h0
    clear hv HA
    go_wp2
    go_ret
    exact ⟨by rw [HX.out]; rfl, by rw [HV.out.1]; exact below_drewN HV.out.2.2.2.2 _⟩
  · obtain ⟨i, hi⟩ : ∃ i, j = i + 1 := ⟨j - 1, by omega⟩
    have hil : i < l.length := by rw [HA.out.2.2]; omega
    obtain ⟨x, hx⟩ : ∃ x, l[i]? = some x := ⟨_, List.getElem?_eq_getElem hil⟩
    obtain ⟨g, rfl, hg⟩ : ∃ g, ao = some ⟨g, 0, none⟩ ∧ V.cell? ⟨g, i * 2 + 1, none⟩ = some (.int .i64 x.2) := by
      rcases HA.out.2.1 with h | ⟨g, e, h⟩
      · rw [h] at hx; cases hx
      · exact ⟨g, e, (h i x hx).2⟩
    have hj1 : (j : Int) - 1 = (i : Int) := by omega
    have hi' : (i : Int) < (n : Int) := by omega
    have h0' : ¬ (j : Int) = 0 := by omega
    have hv : runVal l r = x.2 := HA.out.1.2 i x hi hx
    have HX := Lib.hid hv
    clear hi hil hx hv h0 HA
    go_wp2
    go_ret
    exact ⟨by rw [HX.out]; rfl, by rw [HV.out.1]; exact below_drewN HV.out.2.2.2.2 _⟩
end Go.Proofs.YtfpfpaaojdodnaaGreatDoor
/- props: properties in memory; pairs as keys of a map. -/
namespace Go.Proofs.YtfpfpaaojdodnaaGreatDoor
open Go Go.RowKit Go.Kt Go.Kt.Rg Go.Maps

def clsV (S : RdS) (r : Int) : Int := if r < 0 then 0 else (lastV (S.cs ++ hanR ++ noR) r.toNat).getD 0
def kndV (S : RdS) (r : Int) : Int := if r < 0 then 0 else (lastV (sylR ++ S.ks ++ noR) r.toNat).getD 0
def atZ {A : Type} (f : Nat → Option A) (r : Int) : Option A := if 0 ≤ r then f r.toNat else none
theorem atZ_nat {A : Type} (f : Nat → Option A) (r : Nat) : atZ f (r : Int) = f r := by unfold atZ; rw [if_pos (by omega), Int.toNat_natCast]
theorem ptF_atZ (vs : Nat → Option Value) (x : Int) : ptF vs (.int .i32 x) = atZ vs x := rfl
abbrev MdT := Int → Int → Option Nat
def updP (md : MdT) (a b : Int) (x : Nat) : MdT := fun c d => if c = a ∧ d = b then some x else md c d
def mdStep (S : RdS) (md : MdT) (x : Nat) : MdT := match S.ds x with
  | some [a, b] => if clsV S a ≠ 0 then md else if (md a b).isSome then md else updP md a b x
  | _ => md
def mdOf (S : RdS) (L : List Nat) : MdT := L.foldl (mdStep S) (fun _ _ => none)

def pkV (a b : Int) : Value := .agg #[.int .i32 a, .int .i32 b]
def pkL (a b : Int) : Lit := .string (keyBytes [.int .i32 a, .int .i32 b])
def I32 (a : Int) : Prop := -2147483648 ≤ a ∧ a ≤ 2147483647
theorem I32.wf {a : Int} (h : I32 a) : (Lit.int .i32 a).wf = true := WalkArith.wf_i32 (n := a) ⟨h.1, by have := h.2; omega⟩
set_option maxRecDepth 100000 in
theorem laidOutP : laidOutB Tryz.prog = true := by kernel_rfl
theorem rowPk : (126 : TypeId) < Tryz.prog.types.size := of_decide_eq_true (by kernel_rfl)
set_option maxRecDepth 100000 in
theorem widePk : (match Tryz.prog.underlying 126 with | some (.array _ _) | some (.struct _) => true | _ => false) = true := by kernel_rfl
set_option maxRecDepth 100000 in
theorem pkK : Keyed Tryz.prog 126 := Keyed.of_law (deep_law_laid laidOutP (m := 2) (by omega) rowPk (by kernel_rfl) widePk)
theorem pk_key {a b : Int} (ha : I32 a) (hb : I32 b) : keyOf Tryz.prog 126 (pkV a b) = some (pkL a b) := by
  have h1 : Tryz.prog.keyType 126 = true := by kernel_rfl
  have hc : Tryz.prog.cellsOf 126 = 2 := by kernel_rfl
  have hc1 : Tryz.prog.cellsOf 21 = 1 := by kernel_rfl
  have h2 : (pkV a b).formed Tryz.prog 126 = true := by simp [pkV, Value.formed, Tryz.underlying126, hc]
  obtain ⟨n, hn⟩ : ∃ n, Tryz.prog.types.size = n + 1 := ⟨Tryz.prog.types.size - 1, by have h9 : 0 < Tryz.prog.types.size := of_decide_eq_true (by kernel_rfl); omega⟩
  have h3 : ∀ x : Int, I32 x → Tryz.prog.keyLits (n + 1) 21 [.int .i32 x] = some [.int .i32 x] := fun x hx => by
    unfold Program.keyLits
    rw [Tryz.underlying21]
    simp [hx.wf]
  unfold keyOf
  rw [Tryz.underlying126]
  simp only [h1, h2, Bool.and_self, if_true]
  rw [hn]
  unfold Program.keyLits
  rw [Tryz.underlying126]
  simp [pkV, Value.cells, hc, hc1, h3 a ha, h3 b hb, pkL]
theorem pk_inj {a b c d : Int} (ha : I32 a) (hb : I32 b) (hc : I32 c) (hd : I32 d) (h : pkL a b = pkL c d) : a = c ∧ b = d := by
  have e := pkK.inj (pk_key ha hb) (by rw [h]; exact pk_key hc hd)
  simp [pkV] at e
  exact e
def MdM (b n : Nat) (md : MdT) (w : World) : Prop := ∃ f, MapG Tryz.prog 126 b n f w ∧ ∀ x y : Int, I32 x → I32 y → f (pkL x y) = (md x y).map fun z => .int .i32 (z : Nat)
theorem MdM.keep {b n : Nat} {md : MdT} {X : Nat → Prop} {w w' : World} (h : MdM b n md w) (hk : Keep X w w') (hX : ¬ X b) : MdM b n md w' := by
  obtain ⟨f, h1, h2⟩ := h
  exact ⟨f, h1.keep hk hX, h2⟩
theorem MdM.mono {b n m : Nat} {md : MdT} {w : World} (h : MdM b n md w) (hn : n ≤ m) : MdM b m md w := by
  obtain ⟨f, h1, h2⟩ := h
  exact ⟨f, h1.mono hn, h2⟩
theorem MdM.lt {b n : Nat} {md : MdT} {w : World} (h : MdM b n md w) : b < w.heap.size := by
  obtain ⟨f, h1, _⟩ := h
  exact h1.lt
set_option maxRecDepth 100000 in
theorem MdM.look {b n : Nat} {md : MdT} {w : World} (h : MdM b n md w) {x y : Int} (hx : I32 x) (hy : I32 y) :
    (Instr.lookup 122 (.map (some b)) (pkV x y) true).run Tryz.prog w = .ok (.tuple #[.int .i32 (((md x y).getD 0 : Nat) : Int), .bool (md x y).isSome]) w := by
  obtain ⟨f, h1, h2⟩ := h
  have hl := h1.look pkK Tryz.underlying122 (z := .int .i32 0) rfl (pk_key hx hy)
  rw [h2 x y hx hy] at hl
  rw [hl]
  cases md x y <;> rfl
theorem MdM.put {b n : Nat} {md : MdT} {w : World} (h : MdM b n md w) (hn : n < maxLen) {x y : Int} (hx : I32 x) (hy : I32 y) (z : Nat) :
    ∃ w', (Instr.mapUpdate 122 (.map (some b)) (pkV x y) (.int .i32 (z : Nat))).run Tryz.prog w = .ok () w' ∧ MdM b (n + 1) (updP md x y z) w' ∧ Keep (fun c => c = b) w w' := by
  obtain ⟨f, h1, h2⟩ := h
  obtain ⟨w', r1, r2, r3⟩ := h1.put pkK Tryz.underlying122 hn (val := .int .i32 (z : Nat)) (pk_key hx hy)
  refine ⟨w', r1, ⟨_, r2, fun c d hc hd => ?_⟩, r3⟩
  unfold updP
  by_cases e : c = x ∧ d = y
  · obtain ⟨rfl, rfl⟩ := e
    rw [putF_same _ _ (pkK.key (pk_key hc hd)), if_pos ⟨rfl, rfl⟩]
    rfl
  · rw [if_neg e, putF_other _ (fun h9 => e (pk_inj hc hd hx hy h9))]
    exact h2 c d hc hd

structure PrB where
  cv : Value
  kv : Value
  cL : List (Nat × Int)
  kL : List (Nat × Int)
  bd : Nat
  bf : Nat
  bm : Nat
  n : Nat
  ro : Nat → Nat
def RunOk (L : List (Nat × Int)) (V : Int → Int) : Prop := L.Pairwise (fun a b => a.1 < b.1) ∧ L.length ≤ 1114113 ∧ ∀ r : Int, runVal L r = V r
def prC (B : PrB) : Array Value := #[B.cv, B.kv, .map (some B.bd), .map (some B.bf), .map (some B.bm)]
structure PrI (B : PrB) (g : Nat) (S : RdS) (md : MdT) (w : World) : Prop where
  cell : w.heap[g]? = some (.cells (prC B) 124 (0, 0))
  c : RunV w B.cv B.cL
  k : RunV w B.kv B.kL
  cp : RunOk B.cL (clsV S)
  kp : RunOk B.kL (kndV S)
  d : DecM B.ro 4 B.bd B.n S.ds w
  f : DecM B.ro 5 B.bf B.n S.fs w
  m : MdM B.bm B.n md w
def PrW (g : Nat) (S : RdS) (md : MdT) (w : World) : Prop := ∃ B, PrI B g S md w
theorem PrI.below {B : PrB} {g : Nat} {S : RdS} {md : MdT} {w w' : World} (h : PrI B g S md w) (hb : Below w.heap.size w w') : PrI B g S md w' where
  cell := (hb.block g (Array.getElem?_eq_some_iff.1 h.cell).1).trans h.cell
  c := h.c.below hb
  k := h.k.below hb
  cp := h.cp
  kp := h.kp
  d := h.d.keep (X := fun _ => False) (Keep.of_all hb) (fun _ h => h.elim)
  f := h.f.keep (X := fun _ => False) (Keep.of_all hb) (fun _ h => h.elim)
  m := h.m.keep (X := fun _ => False) (Keep.of_all hb) (fun h => h)
theorem PrW.below {g : Nat} {S : RdS} {md : MdT} {w w' : World} (h : PrW g S md w) (hb : Below w.heap.size w w') : PrW g S md w' := by
  obtain ⟨B, h⟩ := h
  exact ⟨B, h.below hb⟩
end Go.Proofs.YtfpfpaaojdodnaaGreatDoor
/- The document's answer for props: said: what the last row that has a point says of it. -/
namespace Go.Proofs.YtfpfpaaojdodnaaGreatDoor
open Go Go.RowKit Go.Kt Go.Kt.Rg Go.Maps

def RfW (w : World) (v : Value) (l : List (Nat × Nat × Int)) : Prop :=
  ∃ ao cp, v = .slice ao l.length cp ∧ (l = [] ∨ ∃ g, ao = some ⟨g, 0, none⟩ ∧ ∀ (i : Nat) (r : Nat × Nat × Int), l[i]? = some r → w.cell? ⟨g, i * 3, none⟩ = some (.int .i64 r.1) ∧ w.cell? ⟨g, i * 3 + 1, none⟩ = some (.int .i64 r.2.1) ∧ w.cell? ⟨g, i * 3 + 2, none⟩ = some (.int .i64 r.2.2))
theorem RfW.below {v : Value} {l : List (Nat × Nat × Int)} {A B : World} (h : RfW A v l) (hb : Below A.heap.size A B) : RfW B v l := by
  obtain ⟨ao, cp, rfl, h⟩ := h
  refine ⟨ao, cp, rfl, ?_⟩
  rcases h with h | ⟨g, e, h⟩
  · exact .inl h
  · exact .inr ⟨g, e, fun i r hr => ⟨(hb.cell (lt_of_cell (h i r hr).1)).trans (h i r hr).1, (hb.cell (lt_of_cell (h i r hr).2.1)).trans (h i r hr).2.1, (hb.cell (lt_of_cell (h i r hr).2.2)).trans (h i r hr).2.2⟩⟩
def lastZ : List (Nat × Nat × Int) → Int → Option Int
  | [], _ => none
  | x :: t, e => match lastZ t e with
    | some v => some v
    | none => if (x.1 : Int) ≤ e ∧ e ≤ (x.2.1 : Int) then some x.2.2 else none
theorem lastZ_nat (l : List (Nat × Nat × Int)) (n : Nat) : lastZ l (n : Int) = lastV l n := by
  induction l with
  | nil => rfl
  | cons x t ih =>
    rw [lastZ, lastV, ih]
    cases lastV t n with
    | some v => rfl
    | none =>
      simp only
      by_cases h : holdsR x n
      · rw [if_pos h, if_pos ⟨by have := h.1; omega, by have := h.2; omega⟩]
      · rw [if_neg h, if_neg (fun q => h ⟨by have := q.1; omega, by have := q.2; omega⟩)]
theorem lastZ_snoc (l : List (Nat × Nat × Int)) (x : Nat × Nat × Int) (e : Int) : lastZ (l ++ [x]) e = if (x.1 : Int) ≤ e ∧ e ≤ (x.2.1 : Int) then some x.2.2 else lastZ l e := by
  induction l with
  | nil => rfl
  | cons y t ih =>
    rw [List.cons_append, lastZ, ih, lastZ]
    by_cases h : (x.1 : Int) ≤ e ∧ e ≤ (x.2.1 : Int)
    · rw [if_pos h, if_pos h]
    · rw [if_neg h, if_neg h]
theorem take_snoc {l : List (Nat × Nat × Int)} {k : Nat} {x : Nat × Nat × Int} (h : l[k]? = some x) : l.take (k + 1) = l.take k ++ [x] := by
  rw [List.take_add_one, h]; rfl

set_option maxRecDepth 100000 in
set_option maxHeartbeats 4000000 in
theorem ysaid (l : List (Nat × Nat × Int)) (sv : Value) (r d : Int) (w : World) (hS : RfW w sv l) (hr : I32 r) (hn : l.length ≤ 1000000) :
    Calls Tryz.prog 100 #[sv, .int .i32 r, .int .i64 d] w fun e w' => e = .returned (.int .i64 ((lastZ l r).getD d)) ∧ Below w.heap.size w w' := by
  obtain ⟨ao, cp, rfl, hc⟩ := hS
  obtain ⟨n, hln⟩ : ∃ n, l.length = n := ⟨_, rfl⟩
  rw [hln] at hn ⊢
  have hcv : IntKind.i64.wrap r = r := IntWalk.i64_in _ (by have := hr.1; have := hr.2; omega)
  have HC := Lib.hid (And.intro hc hln)
  clear hc hr hln
  have hk0 : IntKind.i64.wrap ((n : Int) - 1) = (n : Int) - 1 := IntWalk.i64_in _ (by omega)
  go_enter Tryz.func100, Tryz.ntmps100
  go_wp2_with fail
  clear hk0
  go_loopw [7] (fun x wr => ∃ k : Nat, x = .int .i64 ((k : Int) - 1) ∧ k ≤ n ∧ Hid (lastZ l r = lastZ (l.take k) r ∧ Below w.heap.size w wr)) (fun x _ => (RowKit.intOf x + 1).toNat)
  case atStart => exact ⟨n, rfl, Nat.le_refl _, Lib.hid ⟨by rw [List.take_of_length_le (by rw [HC.out.2]; exact Nat.le_refl _)], Below.refl _ _⟩⟩
  case round =>
    obtain ⟨k, rfl, hk, H⟩ := hrel
    by_cases hk0 : k = 0
    · subst hk0
      have e1 : ¬ (0 : Int) ≤ ((0 : Nat) : Int) - 1 := by omega
      have HZ : Hid (lastZ l r = none) := Lib.hid (by rw [H.out.1]; rfl)
      go_wp2
      go_ret
      exact ⟨by rw [HZ.out]; rfl, H.out.2⟩
    · obtain ⟨j, rfl⟩ : ∃ j, k = j + 1 := ⟨k - 1, by omega⟩
      have e0 : ((j + 1 : Nat) : Int) - 1 = (j : Int) := by omega
      rw [e0]
      obtain ⟨⟨x1, x2, xv⟩, hx⟩ : ∃ x, l[j]? = some x := ⟨_, List.getElem?_eq_getElem (by rw [HC.out.2]; omega)⟩
      obtain ⟨g, rfl, hcell⟩ : ∃ g, ao = some ⟨g, 0, none⟩ ∧ ∀ (i : Nat) (r : Nat × Nat × Int), l[i]? = some r → w.cell? ⟨g, i * 3, none⟩ = some (.int .i64 r.1) ∧ w.cell? ⟨g, i * 3 + 1, none⟩ = some (.int .i64 r.2.1) ∧ w.cell? ⟨g, i * 3 + 2, none⟩ = some (.int .i64 r.2.2) := by
        rcases HC.out.1 with h | h
        · rw [h] at hx; cases hx
        · exact h
      obtain ⟨c0, c1, c2⟩ := hcell j _ hx
      have d0 := (H.out.2.cell (lt_of_cell c0)).trans c0
      have d1 := (H.out.2.cell (lt_of_cell c1)).trans c1
      have d2 := (H.out.2.cell (lt_of_cell c2)).trans c2
      have hst := H.out.1
      rw [take_snoc hx, lastZ_snoc] at hst
      simp only at hst d0 d1 d2
      have hjn : (j : Int) < n := by omega
      have hj0 : (0 : Int) ≤ (j : Int) := by omega
      have hw1 : IntKind.i64.wrap ((j : Int) - 1) = (j : Int) - 1 := IntWalk.i64_in _ (by omega)
      have HB := Lib.hid H.out.2
      clear hcell c0 c1 c2 hx H
      by_cases h1 : (x1 : Int) ≤ r
      · by_cases h2 : r ≤ (x2 : Int)
        · rw [if_pos ⟨h1, h2⟩] at hst
          have HST := Lib.hid hst
          clear hst
          go_wp2
          go_ret
          exact ⟨by rw [HST.out]; rfl, HB.out⟩
        · rw [if_neg (fun h => h2 h.2)] at hst
          have HST := Lib.hid hst
          clear hst
          go_wp2
          go_roundw
          case rel => exact ⟨j, rfl, by omega, Lib.hid ⟨HST.out, HB.out⟩⟩
          case measure => simp [RowKit.intOf]
      · rw [if_neg (fun h => h1 h.1)] at hst
        have HST := Lib.hid hst
        clear hst
        go_wp2
        go_roundw
        case rel => exact ⟨j, rfl, by omega, Lib.hid ⟨HST.out, HB.out⟩⟩
        case measure => simp [RowKit.intOf]
end Go.Proofs.YtfpfpaaojdodnaaGreatDoor
/- The document's answer for props: character, point, ends. -/
namespace Go.Proofs.YtfpfpaaojdodnaaGreatDoor
open Go Go.RowKit Go.Kt Go.Kt.Rg Go.Maps

theorem dig16 (b : UInt8) : digB 16 b = match digV b.toNat with
    | some d => if 16 ≤ d then none else some d
    | none => none := by
  unfold digB
  cases digV b.toNat with
  | none => rfl
  | some d =>
    simp only
    by_cases h : d < 16
    · rw [if_pos h, if_neg (by omega)]
    · rw [if_neg h, if_pos (by omega)]
theorem numF_pu : ∀ (l : List UInt8) (k n : Nat), k + l.length ≤ 6 → n < 16 ^ k → numF 16 n l = puF 16777215 n l := by
  intro l
  induction l with
  | nil => intro k n _ _; rw [numF, puF]
  | cons b t ih =>
    intro k n hk hn
    rw [numF, puF, dig16]
    cases digV b.toNat with
    | none => rfl
    | some d =>
      simp only
      by_cases h : 16 ≤ d
      · rw [if_pos h, if_pos h]
      · rw [if_neg h, if_neg h]
        simp only [List.length_cons] at hk
        have h1 : 16 * n + d < 16 ^ (k + 1) := by rw [Nat.pow_succ]; omega
        have h2 : 16 ^ (k + 1) ≤ 16 ^ 6 := Nat.pow_le_pow_right (by decide) (by omega)
        have h3 : (16 : Nat) ^ 6 = 16777216 := by decide
        rw [if_neg (by omega), Nat.mul_comm n 16]
        exact ih (k + 1) _ (by omega) h1
theorem numG_P (l : List UInt8) : numG 16 4 6 l = match numP l with
    | some n => (n : Int)
    | none => -1 := by
  unfold numG numP
  by_cases h : l.length < 4 ∨ 6 < l.length
  · rw [if_pos h, if_neg (by omega)]
  · rw [if_neg h, if_pos (by omega)]
    unfold puV
    rw [if_neg (fun e => by subst e; simp at h), numF_pu l 0 0 (by omega) (by decide)]
    rfl

set_option maxRecDepth 100000 in
theorem ychar (n : Int) (w : World) : Calls Tryz.prog 99 #[.int .i64 n] w fun e w' => e = .returned (.bool (Lib.validRune n)) ∧ Below w.heap.size w w' := by
  by_cases h0 : 0 ≤ n
  · by_cases h1 : n ≤ 1114111
    · by_cases h2 : n < 55296
      · have HR : Hid (Lib.validRune n = true) := Lib.hid (by simp [Lib.validRune]; omega)
        go_enter Tryz.func99, Tryz.ntmps99
        go_wp2
        go_ret
        exact ⟨by rw [HR.out]; rfl, Below.refl _ _⟩
      · by_cases h3 : 57343 < n
        · have HR : Hid (Lib.validRune n = true) := Lib.hid (by simp [Lib.validRune]; omega)
          go_enter Tryz.func99, Tryz.ntmps99
          go_wp2
          go_ret
          exact ⟨by rw [HR.out]; rfl, Below.refl _ _⟩
        · have HR : Hid (Lib.validRune n = false) := Lib.hid (by simp [Lib.validRune]; omega)
          go_enter Tryz.func99, Tryz.ntmps99
          go_wp2
          go_ret
          exact ⟨by rw [HR.out]; rfl, Below.refl _ _⟩
    · have HR : Hid (Lib.validRune n = false) := Lib.hid (by simp [Lib.validRune]; omega)
      go_enter Tryz.func99, Tryz.ntmps99
      go_wp2
      go_ret
      exact ⟨by rw [HR.out]; rfl, Below.refl _ _⟩
  · have HR : Hid (Lib.validRune n = false) := Lib.hid (by simp [Lib.validRune]; omega)
    go_enter Tryz.func99, Tryz.ntmps99
    go_wp2
    go_ret
    exact ⟨by rw [HR.out]; rfl, Below.refl _ _⟩

def pntP (l : List UInt8) : Int × Nat := match numP l with
  | some n => if Lib.validRune (n : Int) = false then (0, 8) else (n, 0)
  | none => (0, 11)
set_option maxRecDepth 100000 in
theorem ypoint (s : ByteArray) (w : World) (hs : s.size ≤ 140737488351232) : Calls Tryz.prog 88 #[.string s] w fun e w' => e = .returned (.tuple #[.int .i64 (pntP s.data.toList).1, .int .i64 ((pntP s.data.toList).2 : Nat)]) ∧ Below w.heap.size w w' := by
  have CN := Lib.hid (ynumber s 16 4 6 w hs (.inl ⟨rfl, rfl, rfl⟩))
  rw [numG_P] at CN
  have CC := Lib.hid (fun n W => ychar n W)
  obtain ⟨l, hl⟩ : ∃ l, s.data.toList = l := ⟨_, rfl⟩
  rw [hl] at CN ⊢
  cases hn : numP l with
  | none =>
    have HR : Hid (pntP l = (0, 11)) := Lib.hid (by unfold pntP; rw [hn])
    rw [hn] at CN
    simp only at CN
    clear hn hs hl
    go_enter Tryz.func88, Tryz.ntmps88
    go_wp2_with fail
    refine CN.out.mono ?_
    rintro e w1 ⟨rfl, hb1⟩
    go_wp2
    go_ret2
    exact ⟨by rw [HR.out]; rfl, hb1⟩
  | some n =>
    rw [hn] at CN
    simp only at CN
    have hneg : ¬ (n : Int) < 0 := by omega
    cases hv : Lib.validRune (n : Int) with
    | false =>
      have HR : Hid (pntP l = (0, 8)) := Lib.hid (by unfold pntP; rw [hn]; simp only; rw [if_pos hv])
      have CC := Lib.hid (fun W => hv ▸ CC.out (n : Int) W)
      clear hn hs hl hv
      go_enter Tryz.func88, Tryz.ntmps88
      go_wp2_with fail
      refine CN.out.mono ?_
      rintro e w1 ⟨rfl, hb1⟩
      have HB := Lib.hid hb1
      clear hb1
      go_wp2_with fail
      refine (CC.out _).mono ?_
      rintro e w2 ⟨rfl, hb2⟩
      have HB2 := Lib.hid (HB.out.trans (hb2.mono HB.out.size))
      clear hb2
      go_wp2
      go_ret2
      exact ⟨by rw [HR.out]; rfl, HB2.out⟩
    | true =>
      have HR : Hid (pntP l = ((n : Int), 0)) := Lib.hid (by unfold pntP; rw [hn]; simp only; rw [if_neg (by rw [hv]; decide)])
      have CC := Lib.hid (fun W => hv ▸ CC.out (n : Int) W)
      clear hn hs hl hv
      go_enter Tryz.func88, Tryz.ntmps88
      go_wp2_with fail
      refine CN.out.mono ?_
      rintro e w1 ⟨rfl, hb1⟩
      have HB := Lib.hid hb1
      clear hb1
      go_wp2_with fail
      refine (CC.out _).mono ?_
      rintro e w2 ⟨rfl, hb2⟩
      have HB2 := Lib.hid (HB.out.trans (hb2.mono HB.out.size))
      clear hb2
      go_wp2
      go_ret2
      exact ⟨by rw [HR.out]; rfl, HB2.out⟩
end Go.Proofs.YtfpfpaaojdodnaaGreatDoor
/- The document's answer for props: Class, Kind. -/
namespace Go.Proofs.YtfpfpaaojdodnaaGreatDoor
open Go Go.RowKit Go.Kt Go.Kt.Rg Go.Maps

def RpW (g : Nat) (cs ks : List (Nat × Nat × Int)) (fv dv : Value) (w : World) : Prop :=
  ∃ cv kv, w.heap[g]? = some (.cells #[cv, kv, fv, dv] 82 (0, 0)) ∧ RfW w cv cs ∧ RfW w kv ks
theorem RpW.below {g : Nat} {cs ks : List (Nat × Nat × Int)} {fv dv : Value} {A B : World} (h : RpW g cs ks fv dv A) (hb : Below A.heap.size A B) : RpW g cs ks fv dv B := by
  obtain ⟨cv, kv, h1, h2, h3⟩ := h
  exact ⟨cv, kv, (hb.block g (Array.getElem?_eq_some_iff.1 h1).1).trans h1, h2.below hb, h3.below hb⟩
def xclsV (cs : List (Nat × Nat × Int)) (r : Int) : Int := if Lib.validRune r = false ∨ sylP r = true ∨ jamP r = true then 0 else (lastZ cs r).getD 0
def xkndV (ks : List (Nat × Nat × Int)) (r : Int) : Int := if Lib.validRune r = false then 0 else if sylP r = true then (lastZ ks r).getD 1 else (lastZ ks r).getD 0
set_option maxRecDepth 100000 in
set_option maxHeartbeats 2000000 in
theorem yclass {g : Nat} {cs ks : List (Nat × Nat × Int)} {fv dv : Value} (r : Int) (w : World) (hR : RpW g cs ks fv dv w) (hr : I32 r) (hn : cs.length ≤ 1000000 ∧ ks.length ≤ 1000000) :
    Calls Tryz.prog 51 #[.pointer (some ⟨g, 0, none⟩), .int .i32 r] w fun e w' => e = .returned (.int .i64 (xclsV cs r)) ∧ Below w.heap.size w w' := by
  obtain ⟨cv, kv, hg, h1, h2⟩ := hR
  have hcv : IntKind.i64.wrap r = r := IntWalk.i64_in _ (by have := hr.1; have := hr.2; omega)
  have CC := Lib.hid (fun W => ychar r W)
  have CS := Lib.hid (fun W => ysyl r W)
  have CJ := Lib.hid (fun W => yjam r W)
  have HG := Lib.hid (fun W (h : Below w.heap.size w W) => (h.block g (Array.getElem?_eq_some_iff.1 hg).1).trans hg)
  have HR := Lib.hid (And.intro h1 (And.intro h2 (And.intro hr hn)))
  clear hg h1 h2 hr hn
  go_enter Tryz.func51, Tryz.ntmps51
  go_wp2_with fail
  refine (CC.out w).mono ?_
  rintro e w1 ⟨rfl, hb⟩
  have HB1 := Lib.hid hb
  clear hb
  cases v1 : Lib.validRune r with
  | false =>
    have HX : Hid (xclsV cs r = 0) := Lib.hid (by unfold xclsV; rw [if_pos (.inl v1)])
    clear v1
    go_wp2
    go_ret
    exact ⟨by rw [HX.out]; rfl, HB1.out⟩
  | true =>
    go_wp2_with fail
    refine (CS.out w1).mono ?_
    rintro e w2 ⟨rfl, hb⟩
    have HB2 := Lib.hid (HB1.out.trans (hb.mono HB1.out.size))
    clear hb
    cases v2 : sylP r with
    | true =>
      have HX : Hid (xclsV cs r = 0) := Lib.hid (by unfold xclsV; rw [if_pos (.inr (.inl v2))])
      clear v1 v2
      go_wp2
      go_ret
      exact ⟨by rw [HX.out]; rfl, HB2.out⟩
    | false =>
      go_wp2_with fail
      refine (CJ.out w2).mono ?_
      rintro e w3 ⟨rfl, hb⟩
      have HB3 := Lib.hid (HB2.out.trans (hb.mono HB2.out.size))
      clear hb
      cases v3 : jamP r with
      | true =>
        have HX : Hid (xclsV cs r = 0) := Lib.hid (by unfold xclsV; rw [if_pos (.inr (.inr v3))])
        clear v1 v2 v3
        go_wp2
        go_ret
        exact ⟨by rw [HX.out]; rfl, HB3.out⟩
      | false =>
        have HX : Hid (xclsV cs r = (lastZ cs r).getD 0) := Lib.hid (by unfold xclsV; rw [if_neg (by rw [v1, v2, v3]; simp)])
        clear v1 v2 v3
        have c0 : w3.cell? ⟨g, 0, none⟩ = some cv := by rw [Lib.cell_of_heap (HG.out w3 HB3.out)]; rfl
        have CA := Lib.hid (ysaid cs cv r 0 w3 (HR.out.1.below HB3.out) HR.out.2.2.1 HR.out.2.2.2.1)
        go_wp2_with fail
        refine CA.out.mono ?_
        rintro e w9 ⟨rfl, hb9⟩
        have HB9 := Lib.hid (HB3.out.trans (hb9.mono HB3.out.size))
        clear hb9
        go_wp2
        go_ret
        exact ⟨by rw [HX.out]; rfl, HB9.out⟩
set_option maxRecDepth 100000 in
set_option maxHeartbeats 2000000 in
theorem ykindX {g : Nat} {cs ks : List (Nat × Nat × Int)} {fv dv : Value} (r : Int) (w : World) (hR : RpW g cs ks fv dv w) (hr : I32 r) (hn : cs.length ≤ 1000000 ∧ ks.length ≤ 1000000) :
    Calls Tryz.prog 52 #[.pointer (some ⟨g, 0, none⟩), .int .i32 r] w fun e w' => e = .returned (.int .i64 (xkndV ks r)) ∧ Below w.heap.size w w' := by
  obtain ⟨cv, kv, hg, h1, h2⟩ := hR
  have hcv : IntKind.i64.wrap r = r := IntWalk.i64_in _ (by have := hr.1; have := hr.2; omega)
  have CC := Lib.hid (fun W => ychar r W)
  have CS := Lib.hid (fun W => ysyl r W)
  have CJ := Lib.hid (fun W => yjam r W)
  have HG := Lib.hid (fun W (h : Below w.heap.size w W) => (h.block g (Array.getElem?_eq_some_iff.1 hg).1).trans hg)
  have HR := Lib.hid (And.intro h1 (And.intro h2 (And.intro hr hn)))
  clear hg h1 h2 hr hn
  go_enter Tryz.func52, Tryz.ntmps52
  go_wp2_with fail
  refine (CC.out w).mono ?_
  rintro e w1 ⟨rfl, hb⟩
  have HB1 := Lib.hid hb
  clear hb
  cases v1 : Lib.validRune r with
  | false =>
    have HX : Hid (xkndV ks r = 0) := Lib.hid (by unfold xkndV; rw [if_pos v1])
    clear v1
    go_wp2
    go_ret
    exact ⟨by rw [HX.out]; rfl, HB1.out⟩
  | true =>
    go_wp2_with fail
    refine (CS.out w1).mono ?_
    rintro e w2 ⟨rfl, hb⟩
    have HB2 := Lib.hid (HB1.out.trans (hb.mono HB1.out.size))
    clear hb
    cases v2 : sylP r with
    | true =>
      have HX : Hid (xkndV ks r = (lastZ ks r).getD 1) := Lib.hid (by unfold xkndV; rw [if_neg (by rw [v1]; decide), if_pos v2])
      clear v1 v2
      have c0 : w2.cell? ⟨g, 1, none⟩ = some kv := by rw [Lib.cell_of_heap (HG.out w2 HB2.out)]; rfl
      have CA := Lib.hid (ysaid ks kv r 1 w2 (HR.out.2.1.below HB2.out) HR.out.2.2.1 HR.out.2.2.2.2)
      go_wp2_with fail
      refine CA.out.mono ?_
      rintro e w9 ⟨rfl, hb9⟩
      have HB9 := Lib.hid (HB2.out.trans (hb9.mono HB2.out.size))
      clear hb9
      go_wp2
      go_ret
      exact ⟨by rw [HX.out]; rfl, HB9.out⟩
    | false =>
      have HX : Hid (xkndV ks r = (lastZ ks r).getD 0) := Lib.hid (by unfold xkndV; rw [if_neg (by rw [v1]; decide), if_neg (by rw [v2]; decide)])
      clear v1 v2
      have c0 : w2.cell? ⟨g, 1, none⟩ = some kv := by rw [Lib.cell_of_heap (HG.out w2 HB2.out)]; rfl
      have CA := Lib.hid (ysaid ks kv r 0 w2 (HR.out.2.1.below HB2.out) HR.out.2.2.1 HR.out.2.2.2.2)
      go_wp2_with fail
      refine CA.out.mono ?_
      rintro e w9 ⟨rfl, hb9⟩
      have HB9 := Lib.hid (HB2.out.trans (hb9.mono HB2.out.size))
      clear hb9
      go_wp2
      go_ret
      exact ⟨by rw [HX.out]; rfl, HB9.out⟩
end Go.Proofs.YtfpfpaaojdodnaaGreatDoor
/- props: Decomp, Fold; slices.Clone of points. -/
namespace Go.Proofs.YtfpfpaaojdodnaaGreatDoor
open Go Go.RowKit Go.Kt Go.Kt.Rg Go.Maps

def toZ (l : List Nat) : List Int := l.map fun x : Nat => (x : Int)
theorem toZ_len (l : List Nat) : (toZ l).length = l.length := by simp [toZ]
def encZ (l : List Int) : List Value := l.map fun x => .int .i32 x
theorem encN_z (l : List Nat) : encN l = encZ (toZ l) := by simp [encN, encZ, toZ]
def NewZ (H : Nat) (l : List Int) (e : Ending) (w' : World) : Prop :=
  ∃ ao cp, e = .returned (.slice ao l.length cp) ∧ OwnS (fun b => H ≤ b) 21 1 (.slice ao l.length cp) l.length (encZ l) w'

theorem nil_eq (W : World) : (binOp BinOp.eql 22 (.slice none 0 0) (.slice none 0 0)).run Tryz.prog W = .ok (.bool true) W := by kernel_rfl
theorem nil_ne (a : Addr) (n c : Nat) (W : World) : (binOp BinOp.eql 22 (.slice (some a) n c) (.slice none 0 0)).run Tryz.prog W = .ok (.bool false) W := by
  kernel_rfl
set_option maxRecDepth 100000 in
theorem pclone (l : List Nat) (b off cap : Nat) (w : World) (h0 : l ≠ []) (hl : l.length ≤ 1048576) (hc : ∀ (i : Nat) (x : Nat), l[i]? = some x → w.cell? ⟨b, off + i, none⟩ = some (.int .i32 (x : Nat))) :
    Calls Tryz.prog 95 #[.slice (some ⟨b, off, none⟩) l.length cap] w fun e w' => NewZ w.heap.size (toZ l) e w' ∧ Below w.heap.size w w' := by
  obtain ⟨ti, hti, hzz, hs1, hbt⟩ := info_parts tinfoI32
  obtain ⟨m, hm⟩ : ∃ m, l.length = m := ⟨_, rfl⟩
  have hm1 : 0 < m := by rw [← hm]; exact List.length_pos_iff.2 h0
  have hzs : (w.alloc (.cells #[] 21)).heap.size = w.heap.size + 1 := by simp
  have hcell : ∀ j u, (encN l)[j]? = some u → (w.alloc (.cells #[] 21)).cell? ((⟨b, off, none⟩ : Addr).add j) = some u := fun j u hj => by
    have hjl : j < l.length := by
      have := (List.getElem?_eq_some_iff.1 hj).1
      simpa [encN] using this
    have c := hc j _ (List.getElem?_eq_getElem hjl)
    have c2 := (((Below.refl w.heap.size w).alloc (Nat.le_refl _) (.cells #[] 21)).cell (lt_of_cell c)).trans c
    rw [Addr.add_lit, c2, ← hj]
    simp [encN, List.getElem?_eq_getElem hjl]
  obtain ⟨v', w', hrun, r1, r2, r3⟩ := run_append_own (P := Tryz.prog) (w.alloc (.cells #[] 21)) w.heap.size 22 0 21 ti _ 1 4 Tryz.underlying22 hti hzz hs1 hbt rfl (by decide) (.slice (some ⟨w.heap.size, 0, none⟩) 0 0) 0 []
    ⟨rfl, .inr ⟨w.heap.size, 0, #[], rfl, Nat.le_refl _, by exact heap_alloc_new w _, Nat.le_refl _, by unfold maxLen; omega, rfl, rfl⟩⟩ ⟨b, off, none⟩ m cap (encN l) (by simp [encN, hm]) hcell (by intro u hu; simp [encN] at hu; obtain ⟨a, _, rfl⟩ := hu; rfl) (by unfold maxLen; omega) (by omega) (by simp)
  have hrun' : ∀ ty, (Builtin.append_ #[22, 22] ty #[.slice (some ⟨w.heap.size, 0, none⟩) 0 0, .slice (some ⟨b, off, none⟩) m cap]).run Tryz.prog (w.alloc (.cells #[] 21)) = .ok v' w' := fun ty => hrun
  have hbb : Below w.heap.size w w' := ((Below.refl w.heap.size w).alloc (Nat.le_refl _) (.cells #[] 21)).trans ((keep_grown r2).below (by simp) (fun c hc => by simp [Value.ownBlock] at hc; omega))
  have hown := own_from_base r1
  rw [Nat.zero_add, List.nil_append] at hown
  obtain ⟨ao, cp, rfl⟩ : ∃ ao cp, v' = .slice ao m cp := by
    rcases hown.shape with ⟨_, h1⟩ | ⟨gb, cap', hv, _⟩
    · omega
    · exact ⟨_, _, hv⟩
  have hbn := nil_ne ⟨b, off, none⟩ m cap
  have HR := Lib.hid hrun'
  have HF := Lib.hid (And.intro hown (And.intro hbb hm))
  rw [hm]
  clear hrun hrun' r1 r2 r3 hown hbb hcell hc hl h0 hti hzz hs1 hbt hzs hm
  go_enter Tryz.func95, Tryz.ntmps95
  go_wp2_with (at_builtin; refine wpList_append_eq rfl rfl rfl rfl HR.out ?_)
  go_ret
  obtain ⟨hown, hbb, hm⟩ := HF.out
  have e1 : (toZ l).length = m := by rw [toZ_len, hm]
  refine ⟨⟨ao, cp, by rw [e1]; rfl, ?_⟩, hbb⟩
  rw [e1, ← encN_z]
  exact hown
set_option maxRecDepth 100000 in
theorem pclone_nil (w : World) : Calls Tryz.prog 95 #[.slice none 0 0] w fun e w' => NewZ w.heap.size [] e w' ∧ Below w.heap.size w w' := by
  have hbn := nil_eq
  go_enter Tryz.func95, Tryz.ntmps95
  go_wp2
  go_ret
  exact ⟨⟨none, 0, rfl, own_nil _ _ _ _⟩, Below.refl _ _⟩
def dcpV (S : RdS) (r : Int) : List Nat := if sylP r then partsP (r - 44032).toNat else (atZ S.ds r).getD []
def fldV (S : RdS) (r : Int) : List Int := match atZ S.fs r with
  | some l => toZ l
  | none => [r]
set_option maxRecDepth 100000 in
theorem DecM.look1 {ρ : Nat → Nat} {k B n : Nat} {d : Nat → Option (List Nat)} {w : World} (h : DecM ρ k B n d w) {r : Int} (hr : I32 r) :
    ∃ v, (Instr.lookup 68 (.map (some B)) (.int .i32 r) false).run Tryz.prog w = .ok v w ∧ (Instr.lookup 68 (.map (some B)) (.int .i32 r) true).run Tryz.prog w = .ok (.tuple #[v, .bool (atZ d r).isSome]) w ∧
      ((atZ d r = none ∧ v = .slice none 0 0) ∨ ∃ l, atZ d r = some l ∧ PtV ρ v l w) := by
  obtain ⟨_, vs, h1, h2, h3⟩ := h
  have hkey : keyOf Tryz.prog 21 (.int .i32 r) = some (.int .i32 r) := keyOf_int_mk Tryz.underlying21 hr.wf
  have hl1 := h1.look1 (int_keyed Tryz.underlying21) Tryz.underlying68 (z := .slice none 0 0) rfl hkey
  have hl2 := h1.look (int_keyed Tryz.underlying21) Tryz.underlying68 (z := .slice none 0 0) rfl hkey
  rw [ptF_atZ] at hl1 hl2
  have hs : (atZ vs r).isSome = (atZ d r).isSome := by
    unfold atZ
    split
    · exact h2 _
    · rfl
  rw [hs] at hl2
  refine ⟨_, hl1, hl2, ?_⟩
  cases hv : atZ vs r with
  | none =>
    rw [hv] at hs
    refine .inl ⟨?_, rfl⟩
    cases hd : atZ d r with
    | none => rfl
    | some l => rw [hd] at hs; cases hs
  | some v =>
    rw [hv] at hs
    cases hd : atZ d r with
    | none => rw [hd] at hs; cases hs
    | some l =>
      refine .inr ⟨l, rfl, ?_⟩
      unfold atZ at hv hd
      by_cases h0 : 0 ≤ r
      · rw [if_pos h0] at hv hd
        exact h3 _ _ _ hv hd
      · rw [if_neg h0] at hv; cases hv

set_option maxRecDepth 100000 in
theorem pdcpP {g : Nat} {S : RdS} {md : MdT} (w : World) (h : PrW g S md w) (hd : ∀ x l, S.ds x = some l → 1 ≤ l.length ∧ l.length ≤ 8) (r : Int) (hr : I32 r) :
    Calls Tryz.prog 48 #[.pointer (some ⟨g, 0, none⟩), .int .i32 r] w fun e w' => NewZ w.heap.size (toZ (dcpV S r)) e w' ∧ Below w.heap.size w w' := by
  obtain ⟨B, h⟩ := h
  have C := Lib.hid (psyl r w)
  have c0 : w.cell? ⟨g, 2, none⟩ = some (.map (some B.bd)) := by rw [Lib.cell_of_heap h.cell]; rfl
  have HX : Hid (dcpV S r = if sylP r then partsP (r - 44032).toNat else (atZ S.ds r).getD []) := Lib.hid rfl
  cases hs : sylP r with
  | true =>
    rw [hs] at C HX
    have hr2 : 44032 ≤ r ∧ r < 55204 := by simpa [sylP] using hs
    obtain ⟨n, hn⟩ : ∃ n : Nat, r = 44032 + (n : Int) := ⟨(r - 44032).toNat, by omega⟩
    have CP := Lib.hid (pparts n (by omega) w)
    have e2 : (r - 44032).toNat = n := by omega
    rw [e2] at HX
    rw [← hn] at CP
    clear hs hr2 hn e2 h
    go_enter Tryz.func48, Tryz.ntmps48
    go_wp2_with fail
    refine C.out.mono ?_
    rintro e w' ⟨rfl, rfl⟩
    go_wp2_with fail
    refine CP.out.mono ?_
    rintro e w' ⟨ao, cp, rfl, hO, hb⟩
    have HF := Lib.hid (And.intro hO hb)
    clear hO hb
    go_wp2
    go_ret
    obtain ⟨hO, hb⟩ := HF.out
    have hXX := HX.out
    simp only [if_true] at hXX
    rw [hXX]
    have e1 : (toZ (partsP n)).length = (partsP n).length := toZ_len _
    refine ⟨⟨ao, cp, by rw [e1]; rfl, ?_⟩, hb⟩
    rw [e1, ← encN_z]
    exact hO
  | false =>
    rw [hs] at C HX
    obtain ⟨v, hl, _, hv⟩ := h.d.look1 hr
    have CC : Hid (Calls Tryz.prog 95 #[v] w fun e w' => NewZ w.heap.size (toZ (dcpV S r)) e w' ∧ Below w.heap.size w w') := Lib.hid (by
      have hXX := HX.out
      simp only [Bool.false_eq_true, if_false] at hXX
      rw [hXX]
      rcases hv with ⟨h1, rfl⟩ | ⟨l, h1, b, off, cap, rfl, _, _, _, _, hc⟩
      · rw [h1]
        exact pclone_nil w
      · rw [h1]
        have hll : 1 ≤ l.length ∧ l.length ≤ 8 := by
          unfold atZ at h1
          by_cases h0 : 0 ≤ r
          · rw [if_pos h0] at h1; exact hd _ _ h1
          · rw [if_neg h0] at h1; cases h1
        exact pclone l b off cap w (fun e => by rw [e] at hll; simp at hll) (by omega) hc)
    clear hs hv h HX
    go_enter Tryz.func48, Tryz.ntmps48
    go_wp2_with fail
    refine C.out.mono ?_
    rintro e w' ⟨rfl, rfl⟩
    go_wp2_with fail
    refine CC.out.mono ?_
    rintro e w' ⟨hO, hb⟩
    obtain ⟨ao, cp, rfl, hO⟩ := hO
    have HF := Lib.hid (And.intro hO hb)
    clear hO hb
    go_wp2
    go_ret
    exact ⟨⟨ao, cp, rfl, HF.out.1⟩, HF.out.2⟩
set_option maxRecDepth 100000 in
theorem pfldP {g : Nat} {S : RdS} {md : MdT} (w : World) (h : PrW g S md w) (hd : ∀ x l, S.fs x = some l → 1 ≤ l.length ∧ l.length ≤ 8) (r : Int) (hr : I32 r) :
    Calls Tryz.prog 47 #[.pointer (some ⟨g, 0, none⟩), .int .i32 r] w fun e w' => NewZ w.heap.size (fldV S r) e w' ∧ Below w.heap.size w w' := by
  obtain ⟨B, h⟩ := h
  have c0 : w.cell? ⟨g, 3, none⟩ = some (.map (some B.bf)) := by rw [Lib.cell_of_heap h.cell]; rfl
  obtain ⟨v, _, hl, hv⟩ := h.f.look1 hr
  have HX : Hid (fldV S r = match atZ S.fs r with | some l => toZ l | none => [r]) := Lib.hid rfl
  rcases hv with ⟨h1, rfl⟩ | ⟨l, h1, hp⟩
  · rw [h1] at hl HX
    have hl' : (Instr.lookup 68 (.map (some B.bf)) (.int .i32 r) true).run Tryz.prog w = .ok (.tuple #[.slice none 0 0, .bool false]) w := hl
    clear h h1 hl
    go_enter Tryz.func47, Tryz.ntmps47
    go_wp2
    go_ret
    rw [HX.out]
    refine ⟨⟨_, _, rfl, ?_⟩, (Below.refl _ _).alloc (Nat.le_refl _) _⟩
    have := own_full w [.int .i32 r] 21 (by simp [maxLen])
    exact this.weaken (fun b hb => by omega)
  · rw [h1] at hl HX
    have hl' : (Instr.lookup 68 (.map (some B.bf)) (.int .i32 r) true).run Tryz.prog w = .ok (.tuple #[v, .bool true]) w := hl
    obtain ⟨b, off, cap, rfl, _, _, _, _, hc⟩ := hp
    have hll : 1 ≤ l.length ∧ l.length ≤ 8 := by
      unfold atZ at h1
      by_cases h0 : 0 ≤ r
      · rw [if_pos h0] at h1; exact hd _ _ h1
      · rw [if_neg h0] at h1; cases h1
    have CC := Lib.hid (pclone l b off cap w (fun e => by rw [e] at hll; simp at hll) (by omega) hc)
    obtain ⟨n, hn⟩ : ∃ n, l.length = n := ⟨_, rfl⟩
    rw [hn] at hl' CC
    clear h h1 hl hc hll hn
    go_enter Tryz.func47, Tryz.ntmps47
    go_wp2_with fail
    refine CC.out.mono ?_
    rintro e w' ⟨hO, hb⟩
    obtain ⟨ao, cp, rfl, hO⟩ := hO
    have HF := Lib.hid (And.intro hO hb)
    clear hO hb
    go_wp2
    go_ret
    rw [HX.out]
    exact ⟨⟨ao, cp, rfl, HF.out.1⟩, HF.out.2⟩
end Go.Proofs.YtfpfpaaojdodnaaGreatDoor
/- Lists that are read: two held against each other; a text of numbers; one unit; whether a text is right. -/
namespace Go.Proofs.YtfpfpaaojdodnaaGreatDoor
open Go Go.RowKit Go.Kt

def Sl (k : IntKind) (W : World) (v : Value) (l : List Int) : Prop :=
  ∃ ao cap, v = .slice ao l.length cap ∧ (l = [] ∨ ∃ g off, ao = some ⟨g, off, none⟩ ∧ ∀ i x, l[i]? = some x → W.cell? ⟨g, off + i, none⟩ = some (.int k x))

theorem Sl.keep {k : IntKind} {X : Nat → Prop} {A B : World} {v : Value} {l : List Int} (h : Sl k A v l) (hk : Keep X A B) (hX : ∀ ao n cap, v = .slice ao n cap → ∀ g off, ao = some ⟨g, off, none⟩ → ¬ X g) : Sl k B v l := by
  obtain ⟨ao, cap, rfl, h⟩ := h
  refine ⟨ao, cap, rfl, ?_⟩
  rcases h with h | ⟨g, off, rfl, h⟩
  · exact .inl h
  · exact .inr ⟨g, off, rfl, fun i x hx => hk.cell (h i x hx) (hX _ _ _ rfl g off rfl)⟩
theorem Sl.below {k : IntKind} {A B : World} {v : Value} {l : List Int} (h : Sl k A v l) (hb : Below A.heap.size A B) : Sl k B v l := h.keep (X := fun _ => False) (.of_all hb) (fun _ _ _ _ _ _ _ h => h)

theorem ret_b {a b : Bool} (h : a = b) : Ending.returned (.bool a) = .returned (.bool b) := by rw [h]
def Drawn (w w' : World) : Prop := ∃ n, w' = w.drewN n
theorem Drawn.below {w w' : World} (h : Drawn w w') : Below w.heap.size w w' := by obtain ⟨n, rfl⟩ := h; exact ⟨rfl, rfl, rfl, Nat.le_refl _, fun _ _ => rfl⟩
theorem Drawn.more {w w' : World} (h : Drawn w w') (n : Nat) : Drawn w (w'.drewN n) := by obtain ⟨m, rfl⟩ := h; exact ⟨m + n, World.drewN_drewN ..⟩
theorem Drawn.refl (w : World) : Drawn w w := ⟨0, rfl⟩
theorem Drawn.cell {w w' : World} (h : Drawn w w') (p : Addr) : w'.cell? p = w.cell? p := by obtain ⟨n, rfl⟩ := h; rfl
def SameOut (l1 l2 : List Int) (w : World) (e : Ending) (w' : World) : Prop := e = .returned (.bool (decide (l1 = l2))) ∧ Drawn w w'

set_option maxRecDepth 100000 in
theorem sameRunes_any (v1 v2 : Value) (l1 l2 : List Int) (w : World) (h1 : Sl .i32 w v1 l1) (h2 : Sl .i32 w v2 l2) (m1 : l1.length ≤ 4611686018427387904) (m2 : l2.length ≤ 4611686018427387904) :
    Calls Tryz.prog 46 #[v1, v2] w (SameOut l1 l2 w) := by
  obtain ⟨a1, c1, rfl, h1⟩ := h1
  obtain ⟨a2, c2, rfl, h2⟩ := h2
  by_cases hl : l1.length = l2.length
  · have hlt : (l1.length : Int) = l2.length := by omega
    have H1 := Lib.hid h1
    have H2 := Lib.hid h2
    have HL := Lib.hid hl
    have hne : ((l1.length : Int) != l2.length) = false := by simp [hl]
    clear h1 h2 hl hlt
    go_enter Tryz.func46, Tryz.ntmps46
    go_wp2
    go_loopw [5] (fun v wr => ∃ k : Nat, k ≤ l1.length ∧ v = .int .i64 k ∧ l1.take k = l2.take k ∧ Drawn w wr) (fun v _ => l1.length - (RowKit.intOf v).toNat)
    case atStart => exact ⟨0, by omega, rfl, by simp, Drawn.refl _⟩
    case round =>
      obtain ⟨k, hk, rfl, htk, hb⟩ := hrel
      have HT := Lib.hid htk
      clear htk
      by_cases hlt : k < l1.length
      · have hlt2 : k < l2.length := by have := HL.out; omega
        obtain ⟨g1, o1, rfl, k1⟩ : ∃ g off, a1 = some ⟨g, off, none⟩ ∧ ∀ i x, l1[i]? = some x → w.cell? ⟨g, off + i, none⟩ = some (.int .i32 x) := by
          rcases H1.out with h | h
          · subst h; simp at hlt
          · exact h
        obtain ⟨g2, o2, rfl, k2⟩ : ∃ g off, a2 = some ⟨g, off, none⟩ ∧ ∀ i x, l2[i]? = some x → w.cell? ⟨g, off + i, none⟩ = some (.int .i32 x) := by
          rcases H2.out with h | h
          · subst h; simp at hlt2
          · exact h
        obtain ⟨x1, e1⟩ : ∃ x, l1[k]? = some x := ⟨l1[k], List.getElem?_eq_getElem hlt⟩
        obtain ⟨x2, e2⟩ : ∃ x, l2[k]? = some x := ⟨l2[k], List.getElem?_eq_getElem hlt2⟩
        have q1 := k1 k x1 e1
        have q2 := k2 k x2 e2
        have p1 := (hb.cell _).trans q1
        have p2 := (hb.cell _).trans q2
        have E := Lib.hid (And.intro e1 e2)
        clear k1 k2 q1 q2 e1 e2
        by_cases hx : x1 = x2
        · subst hx
          have hxx : (x1 != x1) = false := by simp
          go_wp2
          go_quiet (fail)
          go_wp2
          go_roundw
          case rel =>
            refine ⟨k + 1, by omega, by go_num, ?_, hb.more _⟩
            rw [List.take_add_one, List.take_add_one, HT.out, E.out.1, E.out.2]
          case measure => simp [RowKit.intOf]; omega
        · have hxx : (x1 != x2) = true := by simp [hx]
          have hfin : decide (l1 = l2) = false := by
            simp only [decide_eq_false_iff_not]
            intro h; subst h; rw [E.out.1] at E
            exact hx (Option.some.inj E.out.2)
          go_wp2
          go_quiet (fail)
          go_wp2
          go_ret
          exact ⟨ret_b hfin.symm, hb.more _⟩
      · have hke : k = l1.length := by omega
        have hfin : decide (l1 = l2) = true := by
          have := HT.out
          rw [hke, List.take_length, HL.out, List.take_length] at this
          simpa using this
        clear hke
        go_wp2
        go_ret
        exact ⟨ret_b hfin.symm, hb⟩
  · have hne : ((l1.length : Int) != l2.length) = true := by simp; omega
    have hfin : decide (l1 = l2) = false := by
      simp only [decide_eq_false_iff_not]
      intro h; subst h; exact hl rfl
    clear h1 h2 hl
    go_enter Tryz.func46, Tryz.ntmps46
    go_wp2
    go_ret
    exact ⟨ret_b hfin.symm, Drawn.refl _⟩
end Go.Proofs.YtfpfpaaojdodnaaGreatDoor
/- The document's answer for props: lines of fold and decomp as they lie; spoken. -/
namespace Go.Proofs.YtfpfpaaojdodnaaGreatDoor
open Go Go.RowKit Go.Kt Go.Kt.Rg Go.Maps

abbrev Ln3 := Nat × List Nat × Nat
def LfW (w : World) (v : Value) (l : List Ln3) : Prop :=
  ∃ ao cp, v = .slice ao l.length cp ∧ (l = [] ∨ ∃ g, ao = some ⟨g, 0, none⟩ ∧ ∀ (i : Nat) (r : Ln3), l[i]? = some r → w.cell? ⟨g, i * 3, none⟩ = some (.int .i64 r.1) ∧ (∃ v, w.cell? ⟨g, i * 3 + 1, none⟩ = some v ∧ Sl .i32 w v (toZ r.2.1)) ∧ w.cell? ⟨g, i * 3 + 2, none⟩ = some (.int .i64 r.2.2))
theorem LfW.below {v : Value} {l : List Ln3} {A B : World} (h : LfW A v l) (hb : Below A.heap.size A B) : LfW B v l := by
  obtain ⟨ao, cp, rfl, h⟩ := h
  refine ⟨ao, cp, rfl, ?_⟩
  rcases h with h | ⟨g, e, h⟩
  · exact .inl h
  · refine .inr ⟨g, e, fun i r hr => ?_⟩
    obtain ⟨h1, ⟨u, h2, h3⟩, h4⟩ := h i r hr
    exact ⟨(hb.cell (lt_of_cell h1)).trans h1, ⟨u, (hb.cell (lt_of_cell h2)).trans h2, h3.below hb⟩, (hb.cell (lt_of_cell h4)).trans h4⟩
def spkL (l : List Ln3) (n : Int) : Bool := l.any fun x => (x.1 : Int) == n

end Go.Proofs.YtfpfpaaojdodnaaGreatDoor
/- The kit of the laws: CopyRunes: a list of one's own with the same numbers. -/
namespace Go.Proofs.YtfpfpaaojdodnaaGreatDoor
open Go Go.RowKit Go.Kt Go.Kt.Rg Go.Maps

def ZnO (H : Nat) (v : Value) (l : List Int) (W : World) : Prop := OwnS (fun b => H ≤ b) 21 1 v l.length (encZ l) W
theorem zno_nil (H : Nat) (W : World) : ZnO H (.slice none 0 0) [] W := own_nil _ _ _ _
theorem ZnO.below {H : Nat} {v : Value} {l : List Int} {A B : World} (h : ZnO H v l A) (hb : Below A.heap.size A B) : ZnO H v l B := OwnS.keep h (Keep.of_all hb) (fun _ h => False.elim h)
theorem ZnO.app {H : Nat} {v : Value} {l : List Int} {W : World} (h : ZnO H v l W) (hz : H ≤ W.heap.size) (hn : l.length ≤ 1048576) (x : Int) :
    ∃ v' W', (∀ ty, (Builtin.append_ #[22, 22] ty #[v, .slice (some ⟨W.heap.size, 0, none⟩) 1 1]).run Tryz.prog (W.alloc (.cells #[.int .i32 x] 21)) = .ok v' W') ∧ ZnO H v' (l ++ [x]) W' ∧ Below H W W' := by
  obtain ⟨g, cap, w3, hrun, hown3, hk3, hg3, hz3⟩ := append_x (P := Tryz.prog) W 22 21 Tryz.underlying22 tinfoI32 rfl (by omega) h [.int .i32 x] rfl
    (by intro u hu; simp at hu; subst hu; rfl) (by unfold maxLen; omega) (by omega)
  have hgg : H ≤ g := by
    rcases hg3 with hx | hx
    · exact h.2 _ hx
    · omega
  refine ⟨_, w3, hrun, ?_, hk3.below hz (fun b hb => h.2 b hb)⟩
  have e : encZ (l ++ [x]) = encZ l ++ [.int .i32 x] := by simp [encZ]
  unfold ZnO
  rw [e, List.length_append]
  exact hown3.weaken (fun b hb => by subst hb; exact hgg)

set_option maxRecDepth 100000 in
set_option maxHeartbeats 4000000 in
theorem ycopy (l : List Int) (sv : Value) (w : World) (hS : Sl .i32 w sv l) (hn : l.length ≤ 1048576) :
    Calls Tryz.prog 98 #[sv] w fun e w' => ∃ v, e = .returned v ∧ ZnO w.heap.size v l w' ∧ Below w.heap.size w w' := by
  obtain ⟨ao, cp, rfl, hc⟩ := hS
  obtain ⟨n, hln⟩ : ∃ n, l.length = n := ⟨_, rfl⟩
  rw [hln] at hn ⊢
  have HC := Lib.hid (And.intro hc hln)
  clear hc hln
  go_enter Tryz.func98, Tryz.ntmps98
  go_wp2_with fail
  go_loopw [3, 4] (fun u x wr => ∃ k : Nat, x = .int .i64 (k : Nat) ∧ k ≤ n ∧ Hid (ZnO w.heap.size u (l.take k) wr ∧ Below w.heap.size w wr)) (fun _ x _ => n - (RowKit.intOf x).toNat)
  case atStart => exact ⟨0, rfl, Nat.zero_le _, Lib.hid ⟨zno_nil _ _, Below.refl _ _⟩⟩
  case round =>
    obtain ⟨k, rfl, hk, H⟩ := hrel
    by_cases hlt : k < n
    · have e1 : (k : Int) < n := by omega
      have hk0 : (0 : Int) ≤ (k : Int) := by omega
      have hk1 : IntKind.i64.wrap ((k : Int) + 1) = ((k + 1 : Nat) : Int) := by rw [IntWalk.i64_in _ (by omega)]; omega
      obtain ⟨x, hx⟩ : ∃ x, l[k]? = some x := ⟨_, List.getElem?_eq_getElem (by rw [HC.out.2]; omega)⟩
      obtain ⟨g, off, rfl, c0⟩ : ∃ g off, ao = some ⟨g, off, none⟩ ∧ w.cell? ⟨g, off + k, none⟩ = some (.int .i32 x) := by
        rcases HC.out.1 with h | ⟨g, off, e, h⟩
        · rw [h] at hx; cases hx
        · exact ⟨g, off, e, h k _ hx⟩
      have d0 := (H.out.2.cell (lt_of_cell c0)).trans c0
      obtain ⟨v', W', hrun, hz', hb'⟩ := H.out.1.app H.out.2.size (by rw [List.length_take]; omega) x
      have ht : l.take (k + 1) = l.take k ++ [x] := by rw [List.take_add_one, hx]; rfl
      rw [← ht] at hz'
      have HRun := Lib.hid hrun
      have HB := Lib.hid (And.intro hz' (H.out.2.trans hb'))
      clear hrun hz' hb' ht hx c0 hlt
      go_wp2_with (first | (at_builtin; refine wpList_append_eq rfl rfl rfl rfl HRun.out ?_; clear HRun) | fail)
      go_roundw
      case rel => exact ⟨k + 1, by go_num, by omega, Lib.hid ⟨HB.out.1, HB.out.2⟩⟩
      case measure => simp [RowKit.intOf]; omega
    · have e1 : ¬ (k : Int) < n := by omega
      have hz := H.out.1
      rw [List.take_of_length_le (by rw [HC.out.2]; omega)] at hz
      have HB := Lib.hid hz
      clear hlt hz
      go_wp2
      go_ret
      exact ⟨_, rfl, HB.out, H.out.2⟩
end Go.Proofs.YtfpfpaaojdodnaaGreatDoor
/- The document's answer for props: Fold. -/
namespace Go.Proofs.YtfpfpaaojdodnaaGreatDoor
open Go Go.RowKit Go.Kt Go.Kt.Rg Go.Maps

theorem ZnO.sl {H : Nat} {v : Value} {l : List Int} {w : World} (ho : ZnO H v l w) : Sl .i32 w v l := by
  rcases OwnS.shape ho with ⟨hv, h0⟩ | ⟨gb, cap, hv, hg, hgl⟩
  · exact ⟨none, 0, by rw [hv, h0], .inl (List.length_eq_zero_iff.1 h0)⟩
  · subst hv
    refine ⟨_, cap, rfl, .inr ⟨gb, 0, rfl, fun i x hx => ?_⟩⟩
    rw [Nat.zero_add]
    refine OwnS.at0 ho (i := i) ?_
    simp [encZ, List.getElem?_map, hx]
theorem sl_one (W : World) (r : Int) : Sl .i32 (W.alloc (.cells #[.int .i32 r] 21)) (.slice (some ⟨W.heap.size, 0, none⟩) 1 1) [r] := by
  refine ⟨_, 1, rfl, .inr ⟨W.heap.size, 0, rfl, fun i x hx => ?_⟩⟩
  have hh := World.alloc_heap_new W (.cells #[.int .i32 r] 21)
  rw [Lib.cell_of_heap hh]
  have : i = 0 := by
    have := (List.getElem?_eq_some_iff.1 hx).1
    simpa using this
  subst this
  simp at hx
  subst hx
  rfl
def ofL (l : List Ln3) (r : Int) : Option (List Nat) := (l.find? fun x => (x.1 : Int) == r).map (·.2.1)
theorem ofL_cons (x : Ln3) (t : List Ln3) (r : Int) : ofL (x :: t) r = if (x.1 : Int) = r then some x.2.1 else ofL t r := by
  unfold ofL
  rw [List.find?_cons]
  by_cases h : (x.1 : Int) = r
  · rw [if_pos h]
    have : ((x.1 : Int) == r) = true := by simpa using h
    rw [this]; rfl
  · rw [if_neg h]
    have : ((x.1 : Int) == r) = false := by simpa using h
    rw [this]
def xfldV (l : List Ln3) (r : Int) : List Int := match ofL l r with
  | some t => toZ t
  | none => [r]
theorem LfW.at {w : World} {ao : Option Addr} {n cp : Nat} {l : List Ln3} (h : LfW w (.slice ao n cp) l) {k : Nat} {x : Ln3} (hx : l[k]? = some x) :
    ∃ g v, ao = some ⟨g, 0, none⟩ ∧ w.cell? ⟨g, k * 3, none⟩ = some (.int .i64 (x.1 : Nat)) ∧ w.cell? ⟨g, k * 3 + 1, none⟩ = some v ∧ Sl .i32 w v (toZ x.2.1) := by
  obtain ⟨ao', cp', e, hc⟩ := h
  cases e
  rcases hc with h | ⟨g, e, h⟩
  · rw [h] at hx; cases hx
  · obtain ⟨h1, ⟨v, h2, h3⟩, _⟩ := h k x hx
    exact ⟨g, v, e, h1, h2, h3⟩

end Go.Proofs.YtfpfpaaojdodnaaGreatDoor
