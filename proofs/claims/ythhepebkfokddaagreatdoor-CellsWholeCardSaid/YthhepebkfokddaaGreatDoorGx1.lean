/- Parts of the proof of what the last text says. -/
import Derived.RangeFuncNested
import Derived.RangeFuncLeaves
import Derived.RangeFuncCalls
import Derived.Below
import Derived.WalkKit
import Derived.Lib.FrozenHead
import Derived.OwnWalkIn
import Derived.Lib.Walk
import Derived.Laws.OwnMore
import Derived.Shelf.LaysM
import Derived.Shelf.LaysC
import Derived.Shelf.Small.Wraps
import Derived.Shelf.Strconv.ToError
import Derived.Shelf.Strconv.ToErrorRange
import Derived.Shelf.Strconv.Lower
import Derived.Shelf.Strings.Search2
import Derived.Shelf.Strings.Prefix
import Derived.Test.YthhepebkfokddaaGreatDoorProg
import Derived.WalkLawsBesides
import Derived.WalkSpells
import Derived.Lib.Hide
import Derived.Lib.AtoiErrMem
import Derived.Laws.Strings3
import Derived.Laws.Closers25
import Derived.Laws.Closers25b
import Derived.BigCall
import Derived.BigGuard
import Derived.Sort.LotA
import Derived.Sort.LotB
import Derived.Sort.LotC
import Derived.Sort.Row
import Derived.Deep.Draws
import Derived.RegionTactic
import Derived.BigRegion
import Derived.CellFam
import Derived.Deep.QuietTactic
import Derived.BigQuiet
namespace Go.Kt
open Go Go.RowKit
structure Keep (X : Nat → Prop) (A B : World) : Prop where
 os : B.os = A.os
 tape : B.tape = A.tape
 output : B.output = A.output
 size : A.heap.size ≤ B.heap.size
 same : ∀ b, b < A.heap.size → ¬ X b → B.heap[b]? = A.heap[b]?
theorem Keep.refl (X : Nat → Prop) (A : World) : Keep X A A := ⟨rfl, rfl, rfl, Nat.le_refl _, fun _ _ _ => rfl⟩
theorem Keep.trans {X : Nat → Prop} {A B C : World} (h : Keep X A B) (k : Keep X B C) : Keep X A C :=
 ⟨k.os.trans h.os, k.tape.trans h.tape, k.output.trans h.output, Nat.le_trans h.size k.size, fun b hb hX => (k.same b (Nat.lt_of_lt_of_le hb h.size) hX).trans (h.same b hb hX)⟩
theorem Keep.weaken {X Y : Nat → Prop} {A B : World} (h : Keep X A B) (hXY : ∀ b, b < A.heap.size → X b → Y b) : Keep Y A B :=
 ⟨h.os, h.tape, h.output, h.size, fun b hb hY => h.same b hb fun hX => hY (hXY b hb hX)⟩
theorem Keep.of_below {X : Nat → Prop} {n : Nat} {A B : World} (h : Below n A B) (hX : ∀ b, b < A.heap.size → n ≤ b → X b) : Keep X A B :=
 ⟨h.os, h.tape, h.output, h.size, fun b hb hnX => h.block b (by
  rcases Nat.lt_or_ge b n with h' | h'
  ·exact h'
  ·exact absurd (hX b hb h') hnX)⟩
theorem Keep.of_all {X : Nat → Prop} {A B : World} (h : Below A.heap.size A B) : Keep X A B := .of_below h (fun b h1 h2 => absurd h1 (by omega))
theorem Keep.below {X : Nat → Prop} {n : Nat} {A B : World} (h : Keep X A B) (hn : n ≤ A.heap.size) (hX : ∀ b, X b → n ≤ b) : Below n A B :=
 ⟨h.os, h.tape, h.output, h.size, fun b hb => h.same b (by omega) fun hx => absurd (hX b hx) (by omega)⟩
theorem Keep.alloc {X : Nat → Prop} {A B : World} (h : Keep X A B) (o : Obj) : Keep X A (B.alloc o) :=
 h.trans (.of_all ((Below.refl _ B).alloc (Nat.le_refl _) o))
theorem Keep.drew {X : Nat → Prop} {A B : World} (h : Keep X A B) : Keep X A B.drew := h.trans ⟨rfl, rfl, rfl, Nat.le_refl _, fun _ _ _ => rfl⟩
theorem Keep.setCell {X : Nat → Prop} {A B : World} (h : Keep X A B) {p : Addr} (hp : X p.block) (u : Value) : Keep X A (B.setCell p u) :=
 h.trans ⟨rfl, rfl, rfl, by simp, fun b _ hb => Below.heap_setCell B p u b (fun e => hb (e ▸ hp))⟩
theorem Keep.then {X : Nat → Prop} {A B C : World} (h : Keep X A B) (k : Below A.heap.size B C) : Keep X A C :=
 ⟨k.os.trans h.os, k.tape.trans h.tape, k.output.trans h.output, Nat.le_trans h.size k.size, fun b hb hX => (k.block b hb).trans (h.same b hb hX)⟩
theorem Keep.putObj {X : Nat → Prop} {A B : World} (h : Keep X A B) {l : Nat} (hl : X l ∨ A.heap.size ≤ l) (o : Obj) : Keep X A (B.putObj l o) :=
 ⟨h.os, h.tape, h.output, by simpa using h.size, fun b hb hX => (World.putObj_heap_other (fun e => by subst e; rcases hl with hl | hl; exact hX hl; omega)).trans (h.same b hb hX)⟩
theorem Keep.heap {X : Nat → Prop} {A B : World} (h : Keep X A B) {b : Nat} {o : Obj} (hb : A.heap[b]? = some o) (hX : ¬ X b) : B.heap[b]? = some o :=
 (h.same b (Array.getElem?_eq_some_iff.1 hb).1 hX).trans hb
theorem lt_of_cell {A : World} {p : Addr} {v : Value} (h : A.cell? p = some v) : p.block < A.heap.size := by
 rcases Nat.lt_or_ge p.block A.heap.size with h' | h'
 ·exact h'
 ·have : A.heap[p.block]? = none := Array.getElem?_eq_none h'
  simp [World.cell?, this] at h
theorem Keep.cell {X : Nat → Prop} {A B : World} (h : Keep X A B) {p : Addr} {v : Value} (hc : A.cell? p = some v) (hX : ¬ X p.block) : B.cell? p = some v :=
 (World.cell?_of_block (w := A) (h.same p.block (lt_of_cell hc) hX)).trans hc
theorem Keep.frozen {X : Nat → Prop} {A B : World} (h : Keep X A B) {p : Addr} (hp : p.block < A.heap.size) (hX : ¬ X p.block) : B.frozen? p = A.frozen? p :=
 World.frozen?_of_block (w := A) (h.same p.block hp hX)
theorem below_putObj {n : Nat} {B : World} {l : Nat} (hl : n ≤ l) (o : Obj) : Below n B (B.putObj l o) :=
 ⟨rfl, rfl, rfl, by simp, fun _ hk => World.putObj_heap_other (by omega)⟩
def Low {β : Type} (B : Nat) (J : β → (Nat → Prop) → World → Prop) : Prop := ∀ s Y W W', Keep (fun b => B ≤ b ∧ ¬ Y b) W W' → J s Y W → J s Y W'
def Iter {α : Type} (P : Program) (gf : Nat) (lb : Array Value) (encs : α → Array Value) (L : List α) (Nd : Nat → Prop) (w0 : World) : Prop :=
 ∀ (l : Nat) (X : Nat → Prop) (J Jx : List α → (Nat → Prop) → World → Prop) (W : World),
  (∀ b, Nd b → ¬ X b) → (∀ b, X b → b < W.heap.size) → (∀ b, Nd b → W.heap[b]? = w0.heap[b]?) → w0.heap.size ≤ W.heap.size →
  Low W.heap.size J → Low W.heap.size Jx →
  (∀ pre x Y W1, pre ++ [x] <+: L → J pre Y W1 → W.heap.size ≤ W1.heap.size → (∀ b, Y b → W.heap.size ≤ b) → YieldAt Fence.wide 0 P l (encs x) W1 fun e W' =>
   ∃ Y', Keep (fun b => X b ∨ Y b) W1 W' ∧ (∀ b, Y' b → Y b ∨ W1.heap.size ≤ b) ∧ ((e = .returned (.bool true) ∧ J (pre ++ [x]) Y' W') ∨ (e = .returned (.bool false) ∧ Jx (pre ++ [x]) Y' W'))) →
  J [] (fun _ => False) W →
  Calls P gf (#[.func (.yield l) #[] #[]] ++ lb) W fun e W' => (∃ v, e = .returned v) ∧ Keep X W W' ∧ ((∃ Y, (∀ b, Y b → W.heap.size ≤ b) ∧ J L Y W') ∨ ∃ pre Y, pre <+: L ∧ (∀ b, Y b → W.heap.size ≤ b) ∧ Jx pre Y W')
def Left {α : Type} (X Y : Nat → Prop) (I : List α → (Nat → Prop) → World → Prop) (xs : List α) (W W' : World) : Prop :=
 ∃ Y', Keep (fun b => X b ∨ Y b) W W' ∧ (∀ b, Y' b → Y b ∨ W.heap.size ≤ b) ∧ I xs Y' W'
def roundEnd {α : Type} (X Y : Nat → Prop) (I : List α → (Nat → Prop) → World → Prop) (Ix : Code → List α → (Nat → Prop) → World → Prop) (xs : List α) (W : World) : Exit → Act → World → Prop
 | .normal, _, W' => Left X Y I xs W W'
 | .ret, _, W' => Left X Y (Ix .ret) xs W W'
 | .exit id, _, W' => Left X Y (Ix (.exit id)) xs W W'
 | .goto t, _, W' => Left X Y (Ix (.goto t)) xs W W'
 | .panic _, _, _ => False
 | .outgrown, _, _ => False
variable {P : Program}
def Round {α : Type} (P : Program) (ps : Array Tmp) (assign body : Code) (tmps : Array Value) (encs : α → Array Value) (L : List α) (X : Nat → Prop) (I : List α → (Nat → Prop) → World → Prop) (Ix : Code → List α → (Nat → Prop) → World → Prop) (w : World) (l : Nat) : Prop :=
 ∀ (pre : List α) (x : α) (Y : Nat → Prop) (W : World), pre ++ [x] <+: L → I pre Y W → Keep X w W → (∀ b, Y b → w.heap.size ≤ b ∧ b ≠ l) → l < W.heap.size → (∃ r, W.heap[l]? = some (.loop r)) →
  assign.wpIn (Fence.wide.inRound l) 0 P (Exit.then (fun a₁ w₁ => Keep (fun _ => False) W w₁ ∧
   (∀ W2, Keep (fun b => b = l) w₁ W2 → Keep X w W2 → I pre Y W2 → (∃ r, W2.heap[l]? = some (.loop r)) → body.wpIn (Fence.wide.inRound l) 0 P (roundEnd X Y I Ix (pre ++ [x]) W2) a₁ W2)) (fun _ _ _ => False))
   { tmps := (ps.zip (encs x)).foldl (fun t (p, v) => t.setIfInBounds p v) tmps, defers := [] } W
theorem loop_core {α : Type} {F : Fence} {ps : Array Tmp} {assign body : Code} {Q : Exit → Act → World → Prop} {a a' : Act} {w W1 : World}
 {gf : Nat} {lb : Array Value} {encs : α → Array Value} {L : List α} {Nd X : Nat → Prop} {w0 : World} (hit : Iter P gf lb encs L Nd w0)
 (hps : ∀ x, (encs x).size = ps.size) (l : Nat) (rec : LoopState → Option Code → Loop) (fn : FuncId) (D : Nat)
 (hrec : ∀ st pe, rec st pe = { state := st, pending := pe, fn, tmps := a.tmps, params := ps, assign, body, defers := D })
 (hX : ∀ b, X b → b < w.heap.size) (hNd : ∀ b, Nd b → ¬ X b ∧ b < w.heap.size) (hNdw : ∀ b, Nd b → w.heap[b]? = w0.heap[b]?) (hw0 : w0.heap.size ≤ w.heap.size)
 (hl : w.heap.size ≤ l) (hL1 : W1.heap[l]? = some (.loop (rec .ready none))) (hbw : Below w.heap.size w W1)
 (I : List α → (Nat → Prop) → World → Prop) (Ix : Code → List α → (Nat → Prop) → World → Prop) (hI : Low w.heap.size I) (hIx : ∀ c, Low w.heap.size (Ix c)) (h0 : I [] (fun _ => False) w)
 (hround : Round P ps assign body a.tmps encs L X I Ix w l)
 (hdone : ∀ Y W, I L Y W → (∀ b, Y b → W1.heap.size ≤ b) → Keep X w W → Keep (fun b => X b ∨ b = l) W1 W → Q .normal a' W)
 (hstop : ∀ c pre Y W, pre <+: L → Ix c pre Y W → (∀ b, Y b → W1.heap.size ≤ b) → Keep X w W → Keep (fun b => X b ∨ b = l) W1 W → c.wpIn F 0 P Q a' W) :
 Calls P gf (#[.func (.yield l) #[] #[]] ++ lb) W1 (rangePost F 0 P l Q a') := by
 have hlt1 : l < W1.heap.size := (Array.getElem?_eq_some_iff.1 hL1).1
 have hB1 : w.heap.size ≤ W1.heap.size := hbw.size
 have hkw : Keep X w W1 := .of_all hbw
 have low1 : ∀ {Y : Nat → Prop} {A B : World}, Keep (fun b => W1.heap.size ≤ b ∧ ¬ Y b) A B → Keep (fun b => w.heap.size ≤ b ∧ ¬ Y b) A B := fun h => h.weaken fun _ _ hb => ⟨Nat.le_trans hB1 hb.1, hb.2⟩
 have lowX : ∀ {Y : Nat → Prop} {A B : World}, Keep (fun b => W1.heap.size ≤ b ∧ ¬ Y b) A B → Keep X w A → Keep X w B := fun h k =>
  ⟨h.os.trans k.os, h.tape.trans k.tape, h.output.trans k.output, Nat.le_trans k.size h.size, fun b hb hx => (h.same b (Nat.lt_of_lt_of_le hb k.size) (fun hy => by have := hy.1; omega)).trans (k.same b hb hx)⟩
 have lowl : ∀ {Y : Nat → Prop} {A B : World} {o : Obj}, Keep (fun b => W1.heap.size ≤ b ∧ ¬ Y b) A B → A.heap[l]? = some o → B.heap[l]? = some o := fun h ho => h.heap ho (fun hy => by have := hy.1; omega)
 have turn : ∀ {Y : Nat → Prop} (W : World) (o : Obj), (∀ b, Y b → W1.heap.size ≤ b) → Keep (fun b => w.heap.size ≤ b ∧ ¬ Y b) W (W.putObj l o) := fun W o hY => (Keep.refl _ W).putObj (.inl ⟨hl, fun hy => by have := hY l hy; omega⟩) o
 refine (hit l (fun b => X b ∨ b = l) (fun pre Y W => (∀ b, Y b → W1.heap.size ≤ b) ∧ I pre Y W ∧ Keep X w W ∧ W.heap[l]? = some (.loop (rec .ready none)))
  (fun pre Y W => (∀ b, Y b → W1.heap.size ≤ b) ∧ ∃ c, Ix c pre Y W ∧ Keep X w W ∧ W.heap[l]? = some (.loop (rec .done (some c)))) W1
  (fun b hb => by have := hNd b hb; rintro (h | h); exact this.1 h; omega)
  (fun b hb => by rcases hb with hb | hb; have := hX b hb; omega; omega)
  (fun b hb => (hkw.same b (hNd b hb).2 (hNd b hb).1).trans (hNdw b hb)) (by omega)
  (fun s Y A B hb ⟨hY, h1, h2, h3⟩ => ⟨hY, hI s Y A B (low1 hb) h1, lowX hb h2, lowl hb h3⟩)
  (fun s Y A B hb ⟨hY, c, h1, h2, h3⟩ => ⟨hY, c, hIx c s Y A B (low1 hb) h1, lowX hb h2, lowl hb h3⟩)
  ?_ ⟨fun _ h => h.elim, hI _ _ _ _ (.of_all hbw) h0, hkw, hL1⟩).mono ?_
 ·rintro pre x Y W hpre ⟨hY, hi, hk, hl3⟩ hsz _
  have hlt : l < W.heap.size := (Array.getElem?_eq_some_iff.1 hl3).1
  have hYl : ∀ b, Y b → w.heap.size ≤ b ∧ b ≠ l := fun b hb => by have := hY b hb; omega
  have hy := run_yield (P := P) (args := encs x) hl3 (by rw [hrec]; exact hps x)
  rw [hrec] at hy
  refine ⟨fn, _, assign, body, hy, roundIn_of_wpIn trivial (wpIn_mono (hround pre x Y W hpre hi hk hYl hlt ⟨_, hl3⟩) ?_)⟩
  intro e a₁ w₁ h
  cases e with
  | normal =>
    obtain ⟨hk1, hb1⟩ := h
    have hl4 : w₁.heap[l]? = some (.loop (rec .ready none)) := hk1.heap hl3 (fun hx => hx)
    refine ⟨_, run_beginRound hl4 (by rw [hrec]), ?_⟩
    have hlt4 : l < w₁.heap.size := (Array.getElem?_eq_some_iff.1 hl4).1
    have hi1 : I pre Y w₁ := hI _ _ _ _ (hk1.weaken (fun _ _ h => h.elim)) hi
    have hi2 := hI _ _ _ _ (turn (Y := Y) w₁ (.loop { rec .ready none with state := .busy }) hY) hi1
    have hkw1 : Keep X w (w₁.putObj l (.loop { rec .ready none with state := .busy })) := (hk.trans (hk1.weaken fun _ _ h => h.elim)).putObj (.inr hl) _
    have hl5 : (w₁.putObj l (.loop { rec .ready none with state := .busy })).heap[l]? = some (.loop { rec .ready none with state := .busy }) := World.putObj_heap_same hlt4
    refine wpIn_mono (hb1 _ ((Keep.refl (fun b => b = l) w₁).putObj (.inl rfl) _) hkw1 hi2 ⟨_, hl5⟩) ?_
    have hX2 : Keep (fun b => (X b ∨ b = l) ∨ Y b) W (w₁.putObj l (.loop { rec .ready none with state := .busy })) := (hk1.weaken (fun _ _ h => h.elim)).putObj (.inl (.inl (.inr rfl))) _
    have hsz2 : W.heap.size ≤ (w₁.putObj l (.loop { rec .ready none with state := .busy })).heap.size := hX2.size
    have fin : ∀ (jump : Option Code) (W3 : World) (I' : List α → (Nat → Prop) → World → Prop), Low w.heap.size I' → Left X Y I' (pre ++ [x]) (w₁.putObj l (.loop { rec .ready none with state := .busy })) W3 →
     (Instr.endRound l jump).run P W3 = .ok (.bool jump.isNone) (W3.putObj l (.loop (rec (if jump.isNone then .ready else .done) jump))) ∧
     (W3.putObj l (.loop (rec (if jump.isNone then .ready else .done) jump))).heap[l]? = some (.loop (rec (if jump.isNone then .ready else .done) jump)) ∧
     ∃ Y', (∀ b, Y' b → W1.heap.size ≤ b) ∧ (∀ b, Y' b → Y b ∨ W.heap.size ≤ b) ∧ I' (pre ++ [x]) Y' (W3.putObj l (.loop (rec (if jump.isNone then .ready else .done) jump))) ∧
     Keep X w (W3.putObj l (.loop (rec (if jump.isNone then .ready else .done) jump))) ∧
     Keep (fun b => (X b ∨ b = l) ∨ Y b) W (W3.putObj l (.loop (rec (if jump.isNone then .ready else .done) jump))) := fun jump W3 I' hI' ⟨Y', hk3, hY', hi3⟩ => by
     have hl6 := hk3.heap hl5 (fun hx => by rcases hx with hx | hx; have := hX l hx; omega; have := hY l hx; omega)
     have hr := run_endRound (P := P) jump hl6
     have er : ({ ({ rec .ready none with state := .busy } : Loop) with state := if jump.isNone then .ready else .done, pending := jump } : Loop) = rec (if jump.isNone then .ready else .done) jump := by
      rw [hrec, hrec]
     rw [er] at hr
     have hY1 : ∀ b, Y' b → W1.heap.size ≤ b := fun b hb => by rcases hY' b hb with h | h; exact hY b h; omega
     refine ⟨hr, World.putObj_heap_same (Array.getElem?_eq_some_iff.1 hl6).1, Y', hY1, fun b hb => by rcases hY' b hb with h | h; exact .inl h; exact .inr (by omega), hI' _ _ _ _ (turn W3 _ hY1) hi3, ?_, ?_⟩
     ·refine Keep.putObj ?_ (.inr hl) _
      exact ⟨hk3.os.trans hkw1.os, hk3.tape.trans hkw1.tape, hk3.output.trans hkw1.output, Nat.le_trans hkw1.size hk3.size, fun b hb hx => (hk3.same b (Nat.lt_of_lt_of_le hb hkw1.size) (fun h => by rcases h with h | h; exact hx h; have := hY b h; omega)).trans (hkw1.same b hb hx)⟩
     ·exact (hX2.trans (hk3.weaken (fun _ _ h => by rcases h with h | h; exact .inl (.inl h); exact .inr h))).putObj (.inl (.inl (.inr rfl))) _
    rintro e a3 W3 hp
    cases e with
    | normal =>
      obtain ⟨hr, hl7, Y', q1, q2, q3, q4, q5⟩ := fin none W3 I hI hp
      exact ⟨_, _, hr, Y', q5, q2, .inl ⟨rfl, q1, q3, q4, hl7⟩⟩
    | ret =>
      obtain ⟨hr, hl7, Y', q1, q2, q3, q4, q5⟩ := fin (some .ret) W3 _ (hIx _) hp
      exact ⟨_, _, hr, Y', q5, q2, .inr ⟨rfl, q1, .ret, q3, q4, hl7⟩⟩
    | exit id =>
      obtain ⟨hr, hl7, Y', q1, q2, q3, q4, q5⟩ := fin (some (.exit id)) W3 _ (hIx _) hp
      exact ⟨_, _, hr, Y', q5, q2, .inr ⟨rfl, q1, .exit id, q3, q4, hl7⟩⟩
    | goto t =>
      obtain ⟨hr, hl7, Y', q1, q2, q3, q4, q5⟩ := fin (some (.goto t)) W3 _ (hIx _) hp
      exact ⟨_, _, hr, Y', q5, q2, .inr ⟨rfl, q1, .goto t, q3, q4, hl7⟩⟩
    | panic ch => exact hp.elim
    | outgrown => exact hp.elim
  | ret => exact h.elim
  | exit id => exact h.elim
  | goto t => exact h.elim
  | panic ch => exact h.elim
  | outgrown => exact h.elim
 ·rintro e W2 ⟨⟨v, rfl⟩, hk2, (⟨Y, _, hY, hi, hk, hl2⟩ | ⟨pre, Y, hpre, _, hY, c, hi, hk, hl2⟩)⟩
  ·have hr := run_endLoop (P := P) hl2 (by rw [hrec]; simp)
   have e1 : (rec .ready none).pending = none := by rw [hrec]
   rw [e1] at hr
   exact ⟨none, _, hr, hdone Y _ (hI _ _ _ _ (turn W2 _ hY) hi) hY (hk.putObj (.inr hl) _) (hk2.putObj (.inl (.inr rfl)) _)⟩
  ·have hr := run_endLoop (P := P) hl2 (by rw [hrec]; simp)
   have e1 : (rec .done (some c)).pending = some c := by rw [hrec]
   rw [e1] at hr
   exact ⟨some c, _, hr, hstop c pre Y _ hpre (hIx c _ _ _ _ (turn W2 _ hY) hi) hY (hk.putObj (.inr hl) _) (hk2.putObj (.inl (.inr rfl)) _)⟩
theorem loop_out {α : Type} {g : Operand} {ps : Array Tmp} {assign body : Code} {Q : Exit → Act → World → Prop} {a : Act} {w : World}
 {gf : Nat} {lb : Array Value} (hg : a.eval g = .func (.func gf) #[] lb) (eg : ∀ args w, (callFunc gf args).run P w = .ok (.enter gf args) w)
 {encs : α → Array Value} {L : List α} {Nd X : Nat → Prop} {w0 : World} (hit : Iter P gf lb encs L Nd w0) (hps : ∀ x, (encs x).size = ps.size)
 (hX : ∀ b, X b → b < w.heap.size) (hNd : ∀ b, Nd b → ¬ X b ∧ b < w.heap.size) (hNdw : ∀ b, Nd b → w.heap[b]? = w0.heap[b]?) (hw0 : w0.heap.size ≤ w.heap.size)
 (I : List α → (Nat → Prop) → World → Prop) (Ix : Code → List α → (Nat → Prop) → World → Prop) (hI : Low w.heap.size I) (hIx : ∀ c, Low w.heap.size (Ix c)) (h0 : I [] (fun _ => False) w)
 (hround : ∀ l, w.heap.size ≤ l → Round P ps assign body a.tmps encs L X I Ix w l)
 (hdone : ∀ D Y W, w.heap.size ≤ D → W.heap[D]? = some (.deferred (some [])) → I L Y W → (∀ b, Y b → w.heap.size ≤ b ∧ b ≠ D) → Keep X w W → Q .normal { a with defers := { target := .collected D, args := #[] } :: a.defers } W)
 (hstop : ∀ D c pre Y W, w.heap.size ≤ D → W.heap[D]? = some (.deferred (some [])) → pre <+: L → Ix c pre Y W → (∀ b, Y b → w.heap.size ≤ b ∧ b ≠ D) → Keep X w W → c.wpIn Fence.wide 0 P Q { a with defers := { target := .collected D, args := #[] } :: a.defers } W) :
 (Code.rangeFunc g ps assign body).wpIn Fence.wide 0 P Q a w := by
 refine wpIn_rangeFunc ?_
 intro fn _
 obtain ⟨rec, hrec⟩ : ∃ rec : LoopState → Option Code → Loop, rec = fun st pe => { state := st, pending := pe, fn, tmps := a.tmps, params := ps, assign, body, defers := w.heap.size } := ⟨_, rfl⟩
 obtain ⟨W1, hW1⟩ : ∃ W1, (w.alloc (.deferred (some []))).alloc (.loop (rec .ready none)) = W1 := ⟨_, rfl⟩
 have hL1 : W1.heap[w.heap.size + 1]? = some (.loop (rec .ready none)) := by
  rw [← hW1]; have := World.alloc_heap_new (w.alloc (.deferred (some []))) (.loop (rec .ready none)); rwa [World.size_alloc] at this
 have hD1 : W1.heap[w.heap.size]? = some (.deferred (some [])) := by
  rw [← hW1]; exact (Below.heap_alloc _ _ _ (by simp)).trans (World.alloc_heap_new w _)
 have hbw : Below w.heap.size w W1 := by
  rw [← hW1]; exact ((Below.refl _ w).alloc (Nat.le_refl _) _).alloc (by simp) _
 have hltD : w.heap.size < W1.heap.size := (Array.getElem?_eq_some_iff.1 hD1).1
 have hD : ∀ W, Keep (fun b => X b ∨ b = w.heap.size + 1) W1 W → W.heap[w.heap.size]? = some (.deferred (some [])) := fun W hk =>
  hk.heap hD1 (fun h => by rcases h with h | h; have := hX _ h; omega; omega)
 refine ⟨w.heap.size + 1, [{ target := .collected w.heap.size, args := #[] }], W1, { target := .fn (.func gf) lb, args := #[.func (.yield (w.heap.size + 1)) #[] #[]] }, W1, gf,
  #[.func (.yield (w.heap.size + 1)) #[] #[]] ++ lb, W1, ?_, ?_, ?_, ?_, (fun h => by cases h), ?_⟩
 ·rw [← hW1, hrec]; exact run_enterLoop_outer _ _ _ _ _
 ·simp only [resolve, hg]
  simp [go_sem]
 ·intro _ _; trivial
 ·simp [invoke, go_sem, eg]
 ·exact callsIn_wide.2 (loop_core hit hps (w.heap.size + 1) rec fn w.heap.size (by intro st pe; rw [hrec]) hX hNd hNdw hw0 (by omega) hL1 hbw I Ix hI hIx h0
  (hround _ (by omega))
  (fun Y W hi hY hk hk1 => hdone _ Y W (Nat.le_refl _) (hD W hk1) hi (fun b hb => by have := hY b hb; omega) hk)
  (fun c pre Y W hp hi hY hk hk1 => hstop _ c pre Y W (Nat.le_refl _) (hD W hk1) hp hi (fun b hb => by have := hY b hb; omega) hk))
theorem leaves_marks {fn : Func} {tmps : Array Value} {R : Ending → World → Prop} {W : World} {Ds : List Nat} (hnd : Ds.Nodup) (hD : ∀ D, D ∈ Ds → W.heap[D]? = some (.deferred (some [])))
 (h : ∀ W', Keep (fun b => b ∈ Ds) W W' → ∃ v, (results fn tmps).run P W' = .ok v W' ∧ R (.returned v) W') :
 LeavesInM Fence.wide 0 P fn tmps R (Ds.map fun D => { target := .collected D, args := #[] }) .returning W := by
 induction Ds generalizing W with
 | nil => exact h W (Keep.refl _ _)
 | cons D Ds ih =>
   have h1 := hD D (List.mem_cons_self ..)
   obtain ⟨hn1, hn2⟩ := List.nodup_cons.1 hnd
   refine ⟨by simp, .inl ⟨D, _, rfl, run_takeDeferred h1, ih hn2 (fun D' hD' => ?_) (fun W' hk => h W' ?_)⟩⟩
   ·exact (World.putObj_heap_other (fun e : D' = D => hn1 (e ▸ hD'))).trans (hD D' (List.mem_cons_of_mem _ hD'))
   ·exact ((Keep.refl (fun b => b ∈ D :: Ds) W).putObj (.inl (List.mem_cons_self ..)) _).trans (hk.weaken (fun _ _ hb => List.mem_cons_of_mem _ hb))
end Go.Kt
namespace Go.Kt
open Go Go.RowKit
variable {P : Program}
def OwnS (Y : Nat → Prop) (e : TypeId) (size : Nat) (v : Value) (n : Nat) (xs : List Value) (W : World) : Prop :=
 W.ownsRow 0 e size v n xs ∧ ∀ g, v.ownBlock = some g → Y g
theorem heap_alloc_if (A : World) (o : Obj) (k : Nat) : (A.alloc o).heap[k]? = if k = A.heap.size then some o else A.heap[k]? := by
 show (A.heap.push o)[k]? = _
 exact Array.getElem?_push ..
theorem own_nil (e : TypeId) (size : Nat) (W : World) (Y : Nat → Prop) : OwnS Y e size (.slice none 0 0) 0 [] W := ⟨World.ownsRow_nil W 0 e size, fun _ h => by cases h⟩
theorem keep_grown {A B : World} {row : Option Nat} (hg : A.grownBy B row) : Keep (fun b => row = some b) A B :=
 ⟨hg.os, hg.tape, hg.output, hg.size, fun b hb hr => hg.block b hb (fun e => hr e.symm)⟩
theorem OwnS.keep {Y X : Nat → Prop} {e : TypeId} {size n : Nat} {v : Value} {xs : List Value} {A B : World} (h : OwnS Y e size v n xs A) (hk : Keep X A B) (hX : ∀ b, X b → ¬ Y b) : OwnS Y e size v n xs B := by
 obtain ⟨⟨hl, h2⟩, hY⟩ := h
 refine ⟨⟨hl, ?_⟩, hY⟩
 rcases h2 with h2 | ⟨g, cap, cur, rfl, hb, hg, rest⟩
 ·exact .inl h2
 ·exact .inr ⟨g, cap, cur, rfl, hb, hk.heap hg (fun hx => hX g hx (hY g rfl)), rest⟩
theorem OwnS.weaken {Y Z : Nat → Prop} {e : TypeId} {size n : Nat} {v : Value} {xs : List Value} {A : World} (h : OwnS Y e size v n xs A) (hY : ∀ b, Y b → Z b) : OwnS Z e size v n xs A := ⟨h.1, fun g hg => hY g (h.2 g hg)⟩
theorem append_x (W : World) (t e : TypeId) {z : Value} {size bytes : Nat} (ht : P.underlying t = some (.slice e)) (hinfo : (P.info? e).map (fun i => (i.zero, i.size, i.bytes)) = some (some z, size, bytes))
 (hzs : z.cells.size = size) (hsz : 0 < size) {Y : Nat → Prop} {v : Value} {n : Nat} {xs : List Value} (hown : OwnS Y e size v n xs W)
 (news : List Value) (hl : news.length = size) (h1 : ∀ u ∈ news, u.oneCell' = true) (h63 : n + 1 ≤ maxLen) (hbytes : (n + 1) * bytes ≤ 140737488355328) :
 ∃ g cap w', (∀ ty, (Builtin.append_ #[t, t] ty #[v, .slice (some ⟨W.heap.size, 0, none⟩) 1 1]).run P (W.alloc (.cells news.toArray e)) = .ok (.slice (some ⟨g, 0, none⟩) (n + 1) cap) w') ∧
  OwnS (fun b => b = g) e size (.slice (some ⟨g, 0, none⟩) (n + 1) cap) (n + 1) (xs ++ news) w' ∧ Keep (fun b => v.ownBlock = some b) W w' ∧ (v.ownBlock = some g ∨ W.heap.size < g) ∧ W.heap.size < w'.heap.size := by
 obtain ⟨i, hi, hz, hs1, hb1⟩ := info_parts hinfo
 have hc : ∀ j u, news[j]? = some u → (W.alloc (.cells news.toArray e)).cell? ((⟨W.heap.size, 0, none⟩ : Addr).add j) = some u := fun j u hj => by
  have hh := World.alloc_heap_new W (.cells news.toArray e)
  rw [Addr.add_lit, Lib.cell_of_heap hh]
  simpa using hj
 have hown' : (W.alloc (.cells news.toArray e)).ownsRow 0 e size v n xs := hown.1.alloc _
 obtain ⟨v', w', hrun, r1, r2, r3⟩ := run_append_own (P := P) (W.alloc (.cells news.toArray e)) 0 t 0 e i z size bytes ht hi hz hs1 hb1 hzs hsz v n xs hown' ⟨W.heap.size, 0, none⟩ 1 1 news (by omega) hc h1 h63 hbytes (Nat.zero_le _)
 have hrun' : ∀ ty, (Builtin.append_ #[t, t] ty #[v, .slice (some ⟨W.heap.size, 0, none⟩) 1 1]).run P (W.alloc (.cells news.toArray e)) = .ok v' w' := fun ty => hrun
 have hK : Keep (fun b => v.ownBlock = some b) W w' := ((Keep.refl _ W).alloc _).trans (keep_grown r2)
 have hsz' : W.heap.size < w'.heap.size := by have := r2.size; simp at this; omega
 rcases r1.2 with ⟨_, h⟩ | ⟨g, cap, cur, rfl, hb, hg, rest⟩
 ·omega
 refine ⟨g, cap, w', hrun', ⟨r1, fun g' h => by cases h; rfl⟩, hK, ?_, hsz'⟩
 rcases hown'.2 with ⟨hv, hn⟩ | ⟨g0, cap0, cur0, hv, hb0, hg0, hnc, hcm, hcs, _⟩
 ·-- no row yet: a new one
  right
  obtain ⟨v2, w2, hrun2, q1, q2, q3⟩ := run_append_own (P := P) (W.alloc (.cells news.toArray e)) (W.heap.size + 1) t 0 e i z size bytes ht hi hz hs1 hb1 hzs hsz v n xs ⟨hown'.1, .inl ⟨hv, hn⟩⟩ ⟨W.heap.size, 0, none⟩ 1 1 news (by omega) hc h1 h63 hbytes (by simp)
  rw [hrun] at hrun2
  injection hrun2 with e1 e2
  subst e1; subst e2
  exact (q1.lt g rfl).1
 ·subst hv
  by_cases hroom : n + 1 ≤ cap0
  ·left
   have hr := run_append_room (P := P) (W.alloc (.cells news.toArray e)) t 0 e i ht hi g0 n cap0 cur0 hg0 ⟨W.heap.size, 0, none⟩ 1 1 news (by omega) hc h1 hroom (by rw [hs1, hcs, hl, ← Nat.succ_mul]; exact Nat.mul_le_mul_right _ hroom)
   rw [hrun] at hr
   injection hr with e1 e2
   injection e1 with e1 _ _
   injection e1 with e1
   injection e1 with e1
   subst e1
   rfl
  ·right
   have holds : ∀ j u, xs[j]? = some u → (W.alloc (.cells news.toArray e)).cell? ((⟨g0, 0, none⟩ : Addr).add j) = some u := hown'.cells (g := g0) rfl
   have hsmall : n + 1 ≤ 9223372036854775807 := by simp only [maxLen] at h63; omega
   have hr := run_append_grow (P := P) (W.alloc (.cells news.toArray e)) t 0 e i z ht hi hz ⟨g0, 0, none⟩ n cap0 xs (by rw [hs1]; exact hown'.1) holds ⟨W.heap.size, 0, none⟩ 1 1 news (by omega) hc (by omega) (by omega) (by rw [hb1]; exact growslice_fits (by omega) hbytes)
   rw [hrun] at hr
   injection hr with e1 e2
   injection e1 with e1 _ _
   injection e1 with e1
   injection e1 with e1
   subst e1
   simp
theorem wpList_append_eq {ops : Array Oper} {rest : List Oper} {o : Oper} {a : Act} {Q : Exit → Act → World → Prop} {w w' : World} {v' x y : Value} (hgd : o.guard = none) {sl ar : Operand} {t u : TypeId}
 (ho : o.op = .call { callee := .builtin .append, args := #[sl, ar], argTypes := #[t, u] }) (hs : a.eval sl = x) (hx : a.eval ar = y)
 (hrun : ∀ ty, (Builtin.append_ #[t, u] ty #[x, y]).run P w = .ok v' w') (h : wpList P ops Q rest (a.put o.dst v') w') : wpList P ops Q (o :: rest) a w := by
 refine wpList_plain hgd fun K hK => ?_
 unfold Oper.wp execOp
 simp only [ho, resolve, invoke, builtin, Sem.run_bind, Sem.run_pure, Result.andThen_ok, List.map_toArray, List.map_cons, List.map_nil, hs, hx, hrun]
 exact hK _ _ h
theorem wpListIn_append_eq {F : Fence} {n : Nat} {ops : Array Oper} {rest : List Oper} {o : Oper} {a : Act} {Q : Exit → Act → World → Prop} {w w' : World} {v' x y : Value} (hgd : o.guard = none) {sl ar : Operand} {t u : TypeId}
 (ho : o.op = .call { callee := .builtin .append, args := #[sl, ar], argTypes := #[t, u] }) (hs : a.eval sl = x) (hx : a.eval ar = y)
 (hrun : ∀ ty, (Builtin.append_ #[t, u] ty #[x, y]).run P w = .ok v' w') (h : wpListIn F n P ops Q rest (a.put o.dst v') w') : wpListIn F n P ops Q (o :: rest) a w := by
 refine wpListIn_plain hgd fun K hK => ?_
 unfold Oper.wpIn
 refine ⟨?_, ?_⟩
 ·simp [Oper.about, ho, resolve, Target.leads, Sem.run_pure]
 ·rw [Oper.semAt_plain F _ _ (by rw [ho]; intro c hc'; cases hc')]
  simp [execOp, ho, resolve, invoke, builtin, hs, hx, hrun, Result.andThen]
  exact hK _ _ h
end Go.Kt
namespace Go.Kt.Rg
end Go.Kt.Rg
namespace Go.Proofs.YthhepebkfokddaaGreatDoor
open Go
def digV (c : Nat) : Option Nat := if 48 ≤ c ∧ c ≤ 57 then some (c - 48) else if 97 ≤ (c ||| 32) ∧ (c ||| 32) ≤ 122 then some ((c ||| 32) - 87) else none
def puF (mx : Nat) : Nat → List UInt8 → Option Nat
 | n, [] => some n
 | n, c :: t => match digV c.toNat with
   | none => none
   | some d => if 16 ≤ d then none else if mx < n * 16 + d then none else puF mx (n * 16 + d) t
def puV (mx : Nat) (l : List UInt8) : Option Nat := if l = [] then none else puF mx 0 l
end Go.Proofs.YthhepebkfokddaaGreatDoor
namespace Go.Kt
open Go Go.RowKit
theorem Keep.plus {X Z : Nat → Prop} {A B C : World} (h : Keep X A B) (k : Keep Z B C) (hz : ∀ b, b < A.heap.size → Z b → X b) : Keep X A C :=
 ⟨k.os.trans h.os, k.tape.trans h.tape, k.output.trans h.output, Nat.le_trans h.size k.size, fun b hb hX => (k.same b (Nat.lt_of_lt_of_le hb h.size) (fun e => hX (hz b hb e))).trans (h.same b hb hX)⟩
theorem OwnS.shape {Y : Nat → Prop} {e : TypeId} {size n : Nat} {v : Value} {xs : List Value} {W : World} (h : OwnS Y e size v n xs W) :
 (v = .slice none 0 0 ∧ n = 0) ∨ ∃ g cap, v = .slice (some ⟨g, 0, none⟩) n cap ∧ Y g ∧ g < W.heap.size := by
 rcases h.1.2 with h1 | ⟨g, cap, cur, rfl, _, hg, _⟩
 ·exact .inl h1
 ·exact .inr ⟨g, cap, rfl, h.2 g rfl, (Array.getElem?_eq_some_iff.1 hg).1⟩
theorem OwnS.at0 {Y : Nat → Prop} {e : TypeId} {n g cap : Nat} {xs : List Value} {W : World} (h : OwnS Y e 1 (.slice (some ⟨g, 0, none⟩) n cap) n xs W) {i : Nat} {u : Value} (hi : xs[i]? = some u) : W.cell? ⟨g, i, none⟩ = some u := by
 have := h.1.cells (g := g) rfl i u hi
 rwa [Addr.add_lit, Nat.zero_add] at this
theorem OwnS.frozen {Y : Nat → Prop} {e : TypeId} {n g cap : Nat} {xs : List Value} {W : World} (h : OwnS Y e 1 (.slice (some ⟨g, 0, none⟩) n cap) n xs W) (i : Nat) : W.frozen? ⟨g, i, none⟩ = false := by
 rcases h.1.2 with ⟨h1, _⟩ | ⟨g', cap', cur, h1, _, hg, _⟩
 ·cases h1
 ·injection h1 with e1 _ _
  injection e1 with e1
  injection e1 with e1
  subst e1
  exact Lib.frozen_of_heap hg i
theorem OwnS.self {Y : Nat → Prop} {e : TypeId} {size n : Nat} {v : Value} {xs : List Value} {A : World} (h : OwnS Y e size v n xs A) : OwnS (fun b => v.ownBlock = some b) e size v n xs A := ⟨h.1, fun _ hg => hg⟩
theorem OwnS.keepX {X Y : Nat → Prop} {e : TypeId} {size n : Nat} {v : Value} {xs : List Value} {A B : World} (h : OwnS Y e size v n xs A) (hk : Keep X A B) (hX : ∀ b, X b → v.ownBlock ≠ some b) : OwnS Y e size v n xs B :=
 ⟨(h.self.keep hk (fun b hb hy => hX b hb hy)).1, h.2⟩
end Go.Kt
namespace Go.Proofs
open Go.Shelf
def Tryz.laysC245_ren : Go.Shelf.Ren := ⟨fun | 245 => 136 | 279 => 153 | 280 => 154 | 281 => 155 | 282 => 156 | 316 => 164 | 171 => 166 | 205 => 165 | 243 => 170 | 246 => 171 | 283 => 172 | 284 => 173 | 285 => 174 | 286 => 175 | 129 => 147 | 317 => 176 | 318 => 177 | 319 => 178 | 320 => 179 | 337 => 180 | 338 => 181 | n => n, fun | 9 => 9 | 3 => 3 | 75 => 24 | 167 => 202 | 4 => 4 | 168 => 206 | 210 => 218 | 37 => 203 | 0 => 0 | 127 => 224 | 145 => 227 | 143 => 225 | 2 => 2 | 171 => 229 | 53 => 182 | 5 => 5 | 173 => 231 | 212 => 234 | 51 => 193 | 20 => 20 | 213 => 235 | 46 => 169 | 232 => 236 | 233 => 237 | 80 => 238 | n => n, fun | 15 => 5 | 16 => 6 | 17 => 7 | 18 => 8 | 19 => 9 | n => n⟩
theorem Tryz.laysC245 : Go.Proofs.LaysC.n245 Tryz.prog Tryz.laysC245_ren := {
 mixed := by kernel_rfl
 f129 := Tryz.func147.trans (congrArg some (by kernel_rfl))
 f171 := Tryz.func166.trans (congrArg some (by kernel_rfl))
 f205 := Tryz.func165.trans (congrArg some (by kernel_rfl))
 f243 := Tryz.func170.trans (congrArg some (by kernel_rfl))
 f245 := Tryz.func136.trans (congrArg some (by kernel_rfl))
 f246 := Tryz.func171.trans (congrArg some (by kernel_rfl))
 f279 := Tryz.func153.trans (congrArg some (by kernel_rfl))
 f280 := Tryz.func154.trans (congrArg some (by kernel_rfl))
 f281 := Tryz.func155.trans (congrArg some (by kernel_rfl))
 f282 := Tryz.func156.trans (congrArg some (by kernel_rfl))
 f283 := Tryz.func172.trans (congrArg some (by kernel_rfl))
 f284 := Tryz.func173.trans (congrArg some (by kernel_rfl))
 f285 := Tryz.func174.trans (congrArg some (by kernel_rfl))
 f286 := Tryz.func175.trans (congrArg some (by kernel_rfl))
 f316 := Tryz.func164.trans (congrArg some (by kernel_rfl))
 f317 := Tryz.func176.trans (congrArg some (by kernel_rfl))
 f318 := Tryz.func177.trans (congrArg some (by kernel_rfl))
 f319 := Tryz.func178.trans (congrArg some (by kernel_rfl))
 f320 := Tryz.func179.trans (congrArg some (by kernel_rfl))
 f337 := Tryz.func180.trans (congrArg some (by kernel_rfl))
 f338 := Tryz.func181.trans (congrArg some (by kernel_rfl))
 t0 := Tryz.underlying0
 a0 := Tryz.isAgg0
 z0 := Tryz.sizeOf0
 v0 := Tryz.zeroValue0
 t2 := Tryz.underlying2
 a2 := Tryz.isAgg2
 z2 := Tryz.sizeOf2
 v2 := Tryz.zeroValue2
 t3 := Tryz.underlying3
 a3 := Tryz.isAgg3
 z3 := Tryz.sizeOf3
 v3 := Tryz.zeroValue3
 t4 := Tryz.underlying4
 a4 := Tryz.isAgg4
 z4 := Tryz.sizeOf4
 v4 := Tryz.zeroValue4
 t5 := Tryz.underlying5
 a5 := Tryz.isAgg5
 z5 := Tryz.sizeOf5
 v5 := Tryz.zeroValue5
 t9 := Tryz.underlying9
 a9 := Tryz.isAgg9
 z9 := Tryz.sizeOf9
 v9 := Tryz.zeroValue9
 t20 := Tryz.underlying20
 a20 := Tryz.isAgg20
 z20 := Tryz.sizeOf20
 v20 := Tryz.zeroValue20
 t37 := Tryz.underlying203
 a37 := Tryz.isAgg203
 z37 := Tryz.sizeOf203
 v37 := Tryz.zeroValue203
 t46 := Tryz.underlying169
 a46 := Tryz.isAgg169
 z46 := Tryz.sizeOf169
 v46 := Tryz.zeroValue169
 t51 := Tryz.underlying193
 a51 := Tryz.isAgg193
 z51 := Tryz.sizeOf193
 v51 := Tryz.zeroValue193
 t53 := Tryz.underlying182
 a53 := Tryz.isAgg182
 z53 := Tryz.sizeOf182
 v53 := Tryz.zeroValue182
 t75 := Tryz.underlying24
 a75 := Tryz.isAgg24
 z75 := Tryz.sizeOf24
 v75 := Tryz.zeroValue24
 t127 := Tryz.underlying224
 a127 := Tryz.isAgg224
 z127 := Tryz.sizeOf224
 v127 := Tryz.zeroValue224
 t143 := Tryz.underlying225
 a143 := Tryz.isAgg225
 z143 := Tryz.sizeOf225
 v143 := Tryz.zeroValue225
 t145 := Tryz.underlying227
 a145 := Tryz.isAgg227
 z145 := Tryz.sizeOf227
 v145 := Tryz.zeroValue227
 t167 := Tryz.underlying202
 a167 := Tryz.isAgg202
 z167 := Tryz.sizeOf202
 v167 := Tryz.zeroValue202
 t168 := Tryz.underlying206
 a168 := Tryz.isAgg206
 z168 := Tryz.sizeOf206
 v168 := Tryz.zeroValue206
 t171 := Tryz.underlying229
 a171 := Tryz.isAgg229
 z171 := Tryz.sizeOf229
 v171 := Tryz.zeroValue229
 t173 := Tryz.underlying231
 a173 := Tryz.isAgg231
 z173 := Tryz.sizeOf231
 v173 := Tryz.zeroValue231
 t210 := Tryz.underlying218
 a210 := Tryz.isAgg218
 z210 := Tryz.sizeOf218
 v210 := Tryz.zeroValue218
 t212 := Tryz.underlying234
 a212 := Tryz.isAgg234
 z212 := Tryz.sizeOf234
 v212 := Tryz.zeroValue234
 t213 := Tryz.underlying235
 a213 := Tryz.isAgg235
 z213 := Tryz.sizeOf235
 t232 := Tryz.underlying236
 a232 := Tryz.isAgg236
 z232 := Tryz.sizeOf236
 v232 := Tryz.zeroValue236
 t233 := Tryz.underlying237
 a233 := Tryz.isAgg237
 z233 := Tryz.sizeOf237
 v233 := Tryz.zeroValue237
 g15 := by kernel_rfl
 g16 := by kernel_rfl
 g17 := by kernel_rfl
 g18 := by kernel_rfl
 g19 := by kernel_rfl
 t80 := Tryz.underlying238
 a80 := Tryz.isAgg238
 z80 := Tryz.sizeOf238
 v80 := Tryz.zeroValue238
 i0 := by kernel_rfl
 i2 := by kernel_rfl
 i3 := by kernel_rfl
 i4 := by kernel_rfl
 i5 := by kernel_rfl
 i9 := by kernel_rfl
 i20 := by kernel_rfl
 i37 := by kernel_rfl
 i46 := by kernel_rfl
 i51 := by kernel_rfl
 i53 := by kernel_rfl
 i75 := by kernel_rfl
 i80 := by kernel_rfl
 i127 := by kernel_rfl
 i143 := by kernel_rfl
 i145 := by kernel_rfl
 i167 := by kernel_rfl
 i168 := by kernel_rfl
 i171 := by kernel_rfl
 i173 := by kernel_rfl
 i210 := by kernel_rfl
 i212 := by kernel_rfl
 i232 := by kernel_rfl
 i233 := by kernel_rfl
 m15 := by kernel_rfl
 m16 := by kernel_rfl
 m17 := by kernel_rfl
 m18 := by kernel_rfl
 m19 := by kernel_rfl
 c0 := by kernel_rfl
 c2 := by kernel_rfl
 c3 := by kernel_rfl
 c4 := by kernel_rfl
 c5 := by kernel_rfl
 c9 := by kernel_rfl
 c20 := by kernel_rfl
 c37 := by kernel_rfl
 c46 := by kernel_rfl
 c51 := by kernel_rfl
 c53 := by kernel_rfl
 c75 := by kernel_rfl
 c80 := by kernel_rfl
 c127 := by kernel_rfl
 c143 := by kernel_rfl
 c145 := by kernel_rfl
 c167 := by kernel_rfl
 c168 := by kernel_rfl
 c171 := by kernel_rfl
 c173 := by kernel_rfl
 c210 := by kernel_rfl
 c212 := by kernel_rfl
 c213 := by kernel_rfl
 c232 := by kernel_rfl
 c233 := by kernel_rfl }
open Go.RowKit in
theorem Tryz.strconv_toError_syntax (fn s : ByteArray) (base bits : Int) (ev : Value) (w : World) (hlim : s.size ≤ 281474976710656) (hv : w.cell? ⟨5, 0, none⟩ = some ev) (hev : ev = .nilIface ∨ ∃ te pe, ev = .iface te pe) :
 Calls Tryz.prog 136 #[.string fn, .string s, .int .i64 base, .int .i64 bits, .iface 202 (.int .i64 2)] w fun e w' => ∃ N, e = .returned (.iface 206 (.pointer (some ⟨N, 0, none⟩))) ∧ w.heap.size ≤ N ∧ w'.heap[N]? = some (.cells #[.string fn, .string s, ev] 218 (0, 0)) ∧ Below w.heap.size w w' := Any.strconv_toError_syntax Tryz.laysC245 fn s base bits ev w hlim hv hev
def Tryz.lays321_ren : Go.Shelf.Ren := ⟨fun | 321 => 167 | n => n, fun | 5 => 5 | n => n, fun | n => n⟩
theorem Tryz.lays321 : Go.Proofs.Lays.n321 Tryz.prog Tryz.lays321_ren := {
 mixed := by kernel_rfl
 f321 := Tryz.func167.trans (congrArg some (by kernel_rfl))
 t5 := Tryz.underlying5
 a5 := Tryz.isAgg5
 z5 := Tryz.sizeOf5
 v5 := Tryz.zeroValue5 }
open Go.RowKit in
theorem Tryz.internal_strconv_lower (c : Int) (w : World) :
 Calls Tryz.prog 167 #[.int .u8 c] w fun e w' => e = .returned (.int .u8 (bits .or .u8 c 32)) ∧ w' = w := Any.internal_strconv_lower Tryz.lays321 c w
open Go.RowKit in
theorem Tryz.strconv_toError_range (fn s : ByteArray) (base bits : Int) (ev : Value) (w : World) (hlim : s.size ≤ 281474976710656) (hv : w.cell? ⟨6, 0, none⟩ = some ev) (hev : ev = .nilIface ∨ ∃ te pe, ev = .iface te pe) :
 Calls Tryz.prog 136 #[.string fn, .string s, .int .i64 base, .int .i64 bits, .iface 202 (.int .i64 1)] w fun e w' => ∃ N, e = .returned (.iface 206 (.pointer (some ⟨N, 0, none⟩))) ∧ w.heap.size ≤ N ∧ w'.heap[N]? = some (.cells #[.string fn, .string s, ev] 218 (0, 0)) ∧ Below w.heap.size w w' := Any.strconv_toError_range Tryz.laysC245 fn s base bits ev w hlim hv hev
def Tryz.lays219_ren : Go.Shelf.Ren := ⟨fun | 219 => 103 | 217 => 78 | 225 => 125 | 224 => 126 | 267 => 127 | 266 => 112 | 314 => 149 | n => n, fun | 9 => 9 | 3 => 3 | 4 => 4 | 5 => 5 | 46 => 169 | 146 => 199 | 51 => 193 | n => n, fun | 1 => 1 | n => n⟩
end Go.Proofs
namespace Go.Proofs.YthhepebkfokddaaGreatDoor
open Go Go.RowKit Go.Kt Go.Kt.Rg
theorem or_32 : ∀ c, c < 256 → bits .or .u8 ((c : Nat) : Int) 32 = ((c ||| 32 : Nat) : Int) := by decide +kernel
theorem or_ge : ∀ c, c < 256 → c ≤ c ||| 32 := by decide +kernel
theorem or_bd : ∀ c, c < 256 → c ||| 32 < 256 := by decide +kernel
theorem or_dig : ∀ c, c < 256 → 97 ≤ c ||| 32 → c ||| 32 ≤ 122 → 57 < c ∧ c ≠ 95 := by decide +kernel
def PuOut (T : TypeId) (K : Value → Prop) (o : Option Nat) (e : Ending) : Prop :=
 match o with
 | some n => e = .returned (.tuple #[.int .u64 (n : Nat), .nilIface])
 | none => ∃ (z : Int) (k : Value), e = .returned (.tuple #[.int .u64 z, .iface T k]) ∧ K k
theorem PuOut.yes {T : TypeId} {K : Value → Prop} {o : Option Nat} {n : Nat} (h : o = some n) : PuOut T K o (.returned (.tuple #[.int .u64 (n : Nat), .nilIface])) := by subst h; rfl
theorem PuOut.no {T : TypeId} {K : Value → Prop} {o : Option Nat} (z : Int) {k : Value} (h : o = none) (hk : K k) : PuOut T K o (.returned (.tuple #[.int .u64 z, .iface T k])) := by subst h; exact ⟨z, k, rfl, hk⟩
def PuErr (k : Value) : Prop := k = .int .i64 1 ∨ k = .int .i64 2
theorem puF_some {mx n d : Nat} {c : UInt8} {t : List UInt8} (h : digV c.toNat = some d) (h1 : d < 16) (h2 : n * 16 + d ≤ mx) : puF mx n (c :: t) = puF mx (n * 16 + d) t := by
 rw [puF, h]; simp only; rw [if_neg (by omega), if_neg (by omega)]
theorem puF_over {mx n d : Nat} {c : UInt8} {t : List UInt8} (h : digV c.toNat = some d) (h1 : d < 16) (h2 : mx < n * 16 + d) : puF mx n (c :: t) = none := by
 rw [puF, h]; simp only; rw [if_neg (by omega), if_pos h2]
theorem puF_big {mx n d : Nat} {c : UInt8} {t : List UInt8} (h : digV c.toNat = some d) (h1 : 16 ≤ d) : puF mx n (c :: t) = none := by
 rw [puF, h]; simp only; rw [if_pos h1]
theorem puF_bad {mx n : Nat} {c : UInt8} {t : List UInt8} (h : digV c.toNat = none) : puF mx n (c :: t) = none := by
 rw [puF, h]
theorem digV_dig {c : Nat} (h1 : 48 ≤ c) (h2 : c ≤ 57) : digV c = some (c - 48) := by unfold digV; rw [if_pos ⟨h1, h2⟩]
theorem digV_let {c : Nat} (h : 57 < c) (h1 : 97 ≤ c ||| 32) (h2 : c ||| 32 ≤ 122) : digV c = some ((c ||| 32) - 87) := by unfold digV; rw [if_neg (by omega), if_pos ⟨h1, h2⟩]
theorem digV_no {c : Nat} (h : ¬ (48 ≤ c ∧ c ≤ 57)) (h1 : ¬ (97 ≤ c ||| 32 ∧ c ||| 32 ≤ 122)) : digV c = none := by unfold digV; rw [if_neg h, if_neg h1]
end Go.Proofs.YthhepebkfokddaaGreatDoor
namespace Go.Kt.Os
open Go Go.RowKit Go.Kt Go.Sort
abbrev E32 : Int → Value := Value.int .i32
theorem holds_keep {X : Nat → Prop} {blk off : Nat} {d : Array Int} {A B : World} (h : Holds E32 A blk off d) (k : Keep X A B) (hX : ¬ X blk) : Holds E32 B blk off d := fun j hj => by
 obtain ⟨h1, h2⟩ := h j hj
 exact ⟨k.cell h1 hX, (k.frozen (lt_of_cell h1) hX).trans h2⟩
structure SW (w : World) (blk off : Nat) (d : Array Int) (wr : World) : Prop where
 keep : Keep (fun b => b = blk) w wr
 holds : Holds E32 wr blk off d
section
variable {w wr w1 : World} {blk off : Nat} {d d' : Array Int}
theorem SW.refl (h : Holds E32 w blk off d) : SW w blk off d w := ⟨Keep.refl _ _, h⟩
theorem SW.trans (h : SW w blk off d wr) (k : SW wr blk off d' w1) : SW w blk off d' w1 := ⟨h.keep.trans k.keep, k.holds⟩
theorem SW.drewN (h : SW w blk off d wr) (q : Nat) : SW w blk off d (wr.drewN q) := ⟨h.keep.trans ⟨rfl, rfl, rfl, Nat.le_refl _, fun _ _ _ => rfl⟩, h.holds⟩
theorem SW.then (h : SW w blk off d wr) (k : Keep (fun b => b ≠ blk ∧ w.heap.size ≤ b) wr w1) : SW w blk off d w1 :=
 ⟨h.keep.plus k (fun b hb hz => absurd hz.2 (by omega)), holds_keep h.holds k (fun e => e.1 rfl)⟩
theorem SW.cells (h : SW w blk off d wr) {G : Nat → Int} (hG : ∀ t, G t = d[t]!) {n : Nat} (hn : d.size = n) : ∀ t, t < n → wr.cell? ⟨blk, off + t, none⟩ = some (.int .i32 (G t)) := fun t ht => by
 rw [hG]; exact (h.holds t (by omega)).1
theorem SW.thaw (h : SW w blk off d wr) {n : Nat} (hn : d.size = n) : ∀ t, t < n → wr.frozen? ⟨blk, off + t, none⟩ = false := fun t ht => (h.holds t (by omega)).2
theorem SW.swap (h : SW w blk off d wr) {G : Nat → Int} (hG : ∀ t, G t = d[t]!) {i j : Nat} (hi : i < d.size) (hj : j < d.size) :
 SW w blk off (swp d i j) ((wr.setCell ⟨blk, off + i, none⟩ (.int .i32 (G j))).setCell ⟨blk, off + j, none⟩ (.int .i32 (G i))) := by
 refine ⟨(h.keep.setCell rfl _).setCell rfl _, ?_⟩
 rw [hG, hG]
 have e := putRow_swp E32 wr blk off d i j hi hj
 rw [putRow_self E32 wr blk off d h.holds] at e
 rw [show (wr.setCell ⟨blk, off + i, none⟩ (.int .i32 d[j]!)).setCell ⟨blk, off + j, none⟩ (.int .i32 d[i]!) = _ from e]
 exact holds_putRow E32 wr blk off d _ h.holds (size_swp _ _ _)
theorem SW.swapq (h : SW w blk off d wr) {G : Nat → Int} (hG : ∀ t, G t = d[t]!) {i j : Nat} (hi : i < d.size) (hj : j < d.size) (q r : Nat) :
 SW w blk off (swp d i j) ((((wr.drewN q).setCell ⟨blk, off + i, none⟩ (.int .i32 (G j))).setCell ⟨blk, off + j, none⟩ (.int .i32 (G i))).drewN r) :=
 ((h.drewN q).swap hG hi hj).drewN r
end
section
variable (lt : Int → Int → Bool)
theorem insInner_go (a j : Nat) (d : Array Int) (hj : a < j) (hl : lt d[j]! d[j - 1]! = true) : insInner lt a j d = insInner lt a (j - 1) (swp d j (j - 1)) := by
 obtain ⟨k, rfl⟩ : ∃ k, j = k + 1 := ⟨j - 1, by omega⟩
 simp only [Nat.add_sub_cancel] at hl ⊢
 rw [insInner, if_pos (by simp [hl]; omega)]
theorem insInner_stop (a j : Nat) (d : Array Int) (h : j ≤ a ∨ lt d[j]! d[j - 1]! = false) : insInner lt a j d = d := by
 cases j with
 | zero => rfl
 | succ k =>
   simp only [Nat.add_sub_cancel] at h
   rw [insInner, if_neg]
   rcases h with h | h
   ·simp; omega
   ·simp [h]
theorem insOuter_go (a b i : Nat) (d : Array Int) (h : i < b) : insOuter lt a b i d = insOuter lt a b (i + 1) (insInner lt a i d) := by rw [insOuter, if_pos h]
theorem insOuter_stop (a b i : Nat) (d : Array Int) (h : ¬ i < b) : insOuter lt a b i d = d := by rw [insOuter, if_neg h]
theorem sd_end {hi F root : Nat} (d : Array Int) (h : hi ≤ 2 * root + 1) : siftDown lt hi F root d = d := by rw [siftDown, dif_pos h]
theorem sd_right {hi F root : Nat} (d : Array Int) (h1 : 2 * root + 2 < hi) (h2 : lt d[F + (2 * root + 1)]! d[F + (2 * root + 1) + 1]! = true) :
 siftDown lt hi F root d = if lt d[F + root]! d[F + (2 * root + 2)]! then siftDown lt hi F (2 * root + 2) (swp d (F + root) (F + (2 * root + 2))) else d := by
 rw [siftDown, dif_neg (by omega), if_pos (by simp [h2]; omega)]
 cases lt d[F + root]! d[F + (2 * root + 2)]! with
 | true => simp [h1]
 | false => simp
theorem sd_left {hi F root : Nat} (d : Array Int) (h0 : 2 * root + 1 < hi) (h1 : ¬ (2 * root + 2 < hi) ∨ lt d[F + (2 * root + 1)]! d[F + (2 * root + 1) + 1]! = false) :
 siftDown lt hi F root d = if lt d[F + root]! d[F + (2 * root + 1)]! then siftDown lt hi F (2 * root + 1) (swp d (F + root) (F + (2 * root + 1))) else d := by
 rw [siftDown, dif_neg (by omega), if_neg (by rcases h1 with h | h <;> simp [h] <;> omega)]
 cases lt d[F + root]! d[F + (2 * root + 1)]! with
 | true => simp
 | false => simp
theorem sd_r {hi F root : Nat} (d : Array Int) (h1 : 2 * root + 2 < hi) (h2 : lt d[F + 2 * root + 1]! d[F + 2 * root + 2]! = true) :
 siftDown lt hi F root d = if lt d[F + root]! d[F + 2 * root + 2]! then siftDown lt hi F (2 * root + 2) (swp d (F + root) (F + 2 * root + 2)) else d := sd_right lt d h1 h2
theorem sd_l {hi F root : Nat} (d : Array Int) (h0 : 2 * root + 1 < hi) (h1 : ¬ (2 * root + 2 < hi) ∨ lt d[F + 2 * root + 1]! d[F + 2 * root + 2]! = false) :
 siftDown lt hi F root d = if lt d[F + root]! d[F + 2 * root + 1]! then siftDown lt hi F (2 * root + 1) (swp d (F + root) (F + 2 * root + 1)) else d := sd_left lt d h0 h1
theorem size_siftDown (hi F : Nat) : ∀ (n root : Nat) (d : Array Int), hi - root ≤ n → (siftDown lt hi F root d).size = d.size := by
 intro n
 induction n with
 | zero => intro root d h; rw [sd_end lt d (by omega)]
 | succ n ih =>
   intro root d h
   by_cases h0 : hi ≤ 2 * root + 1
   ·rw [sd_end lt d h0]
   ·by_cases h1 : 2 * root + 2 < hi ∧ lt d[F + (2 * root + 1)]! d[F + (2 * root + 1) + 1]! = true
    ·rw [sd_right lt d h1.1 h1.2]
     split
     ·rw [ih _ _ (by omega), size_swp]
     ·rfl
    ·rw [sd_left lt d (by omega) (by
     by_cases h2 : 2 * root + 2 < hi
     ·right; cases h3 : lt d[F + (2 * root + 1)]! d[F + (2 * root + 1) + 1]! with
      | true => exact absurd ⟨h2, h3⟩ h1
      | false => rfl
     ·exact .inl h2)]
     split
     ·rw [ih _ _ (by omega), size_swp]
     ·rfl
theorem scanUp_go (p : Int → Bool) (d : Array Int) (j i : Nat) (h : i ≤ j) (hp : p d[i]! = true) : scanUp p d j i = scanUp p d j (i + 1) := by
 rw [scanUp, if_pos (by simp [h, hp])]
theorem scanUp_end (p : Int → Bool) (d : Array Int) (j i : Nat) (h : ¬ i ≤ j ∨ p d[i]! = false) : scanUp p d j i = i := by
 rw [scanUp, if_neg (by rcases h with h | h <;> simp [h])]
theorem scanDown_go (p : Int → Bool) (d : Array Int) (i j : Nat) (h : i ≤ j) (h0 : 0 < j) (hp : p d[j]! = true) : scanDown p d i j = scanDown p d i (j - 1) := by
 obtain ⟨k, rfl⟩ : ∃ k, j = k + 1 := ⟨j - 1, by omega⟩
 rw [scanDown, if_pos (by simp [h, hp])]
 rfl
theorem scanDown_end (p : Int → Bool) (d : Array Int) (i j : Nat) (h : ¬ i ≤ j ∨ p d[j]! = false) : scanDown p d i j = j := by
 cases j with
 | zero => rfl
 | succ k => rw [scanDown, if_neg (by rcases h with h | h <;> simp [h])]
theorem ss_go (d : Array Int) (b i : Nat) (h : i < b) (hl : lt d[i]! d[i - 1]! = false) : scanSorted lt d b i = scanSorted lt d b (i + 1) := by
 rw [scanSorted, if_pos (by simp [h, hl])]
theorem ss_stop (d : Array Int) (b i : Nat) (h : ¬ i < b ∨ lt d[i]! d[i - 1]! = true) : scanSorted lt d b i = i := by
 rw [scanSorted, if_neg (by rcases h with h | h <;> simp [h])]
theorem sdn_go (j : Nat) (d : Array Int) (hj : 1 ≤ j) (hl : lt d[j]! d[j - 1]! = true) : shiftDown lt j d = shiftDown lt (j - 1) (swp d j (j - 1)) := by
 obtain ⟨k, rfl⟩ : ∃ k, j = k + 1 := ⟨j - 1, by omega⟩
 simp only [Nat.add_sub_cancel] at hl ⊢
 rw [shiftDown, if_neg (by simp [hl])]
theorem sdn_stop (j : Nat) (d : Array Int) (h : ¬ 1 ≤ j ∨ lt d[j]! d[j - 1]! = false) : shiftDown lt j d = d := by
 cases j with
 | zero => rfl
 | succ k =>
   simp only [Nat.add_sub_cancel] at h
   rw [shiftDown, if_pos]
   rcases h with h | h
   ·omega
   ·simp [h]
theorem sup_go (b j : Nat) (d : Array Int) (hj : j < b) (hl : lt d[j]! d[j - 1]! = true) : shiftUp lt b j d = shiftUp lt b (j + 1) (swp d j (j - 1)) := by
 rw [shiftUp, if_pos hj, if_neg (by simp [hl])]
theorem sup_stop (b j : Nat) (d : Array Int) (h : ¬ j < b ∨ lt d[j]! d[j - 1]! = false) : shiftUp lt b j d = d := by
 rw [shiftUp]
 rcases h with h | h
 ·rw [if_neg h]
 ·rw [if_pos (by simp [h] : (!lt d[j]! d[j - 1]!) = true)]
  split <;> rfl
theorem pi_true (a b s i : Nat) (d : Array Int) (hs : s < 5) (hK : scanSorted lt d b i = b) : partialIns lt a b (5 - s) i d = (d, true) := by
 rw [show 5 - s = (4 - s) + 1 by omega, partialIns]
 simp [hK]
theorem pi_short (a b s i k : Nat) (d : Array Int) (hs : s < 5) (hK : scanSorted lt d b i = k) (hkb : k ≠ b) (h50 : b - a < 50) : partialIns lt a b (5 - s) i d = (d, false) := by
 rw [show 5 - s = (4 - s) + 1 by omega, partialIns]
 simp [hK, hkb, h50]
theorem pi_go (a b s i k : Nat) (d : Array Int) (hs : s < 5) (hK : scanSorted lt d b i = k) (hkb : k ≠ b) (h50 : ¬ b - a < 50) {d1 d2 d3 : Array Int} (h1 : d1 = swp d k (k - 1))
 (h2 : d2 = if k - a ≥ 2 then shiftDown lt (k - 1) d1 else d1) (h3 : d3 = if b - k ≥ 2 then shiftUp lt b (k + 1) d2 else d2) : partialIns lt a b (5 - s) i d = partialIns lt a b (5 - (s + 1)) k d3 := by
 subst h1 h2 h3
 rw [show 5 - s = (5 - (s + 1)) + 1 by omega, partialIns]
 simp only [hK]
 rw [if_neg hkb, if_neg h50]
end
end Go.Kt.Os
namespace Go.Proofs.YthhepebkfokddaaGreatDoor
open Go Go.RowKit Go.Kt Go.Kt.Os Go.Sort
theorem oNaN (x : Int) (w : World) : Calls Tryz.prog 148 #[.int .i32 x] w fun e w' => e = .returned (.bool false) ∧ w' = w := by
 go_enter Tryz.func148, Tryz.ntmps148
 go_wp2
 go_ret
 exact ⟨by simp, rfl⟩
theorem oLess (x y : Int) (w : World) : Calls Tryz.prog 118 #[.int .i32 x, .int .i32 y] w fun e w' => e = .returned (.bool (ltInt x y)) ∧ w' = w := by
 go_enter Tryz.func118, Tryz.ntmps118
 go_wp2_with (go_at_call 148; refine (oNaN _ _).mono ?_; rintro e w' ⟨rfl, rfl⟩)
 go_ret
 exact ⟨rfl, rfl⟩
set_option maxRecDepth 100000 in
set_option maxHeartbeats 8000000 in
theorem oIns (blk off cap a b : Nat) (d : Array Int) (w : World) (hH : Holds E32 w blk off d) (hab : a ≤ b) (hb : b ≤ d.size) (hsz : d.size < 4611686018427387904) :
 Calls Tryz.prog 138 #[.slice (some ⟨blk, off, none⟩) d.size cap, .int .i64 a, .int .i64 b] w fun e w' =>
  e = .returned (.tuple #[]) ∧ SW w blk off (insertionSort ltInt d a b) w' := by
 have H0 := Lib.hid (SW.refl hH)
 clear hH
 obtain ⟨n, hn⟩ : ∃ n, d.size = n := ⟨_, rfl⟩
 rw [hn] at hb hsz ⊢
 have HN := Lib.hid hn
 clear hn
 go_enter Tryz.func138, Tryz.ntmps138
 go_wp2
 go_loopw [6] (fun vi wr => ∃ (i : Nat) (dk : Array Int), vi = .int .i64 i ∧ a < i ∧ i ≤ b + 1 ∧ Hid (dk.size = n ∧ SW w blk off dk wr ∧ insOuter ltInt a b i dk = insOuter ltInt a b (a + 1) d)) (fun vi _ => b + 1 - (RowKit.intOf vi).toNat)
 case atStart => exact ⟨a + 1, d, by go_num, by omega, by omega, Lib.hid ⟨HN.out, H0.out, rfl⟩⟩
 case round =>
  obtain ⟨i, dk, rfl, hai, hib, hh⟩ := hrel
  obtain ⟨W1, hW1⟩ : ∃ W1, W1 = wr := ⟨_, rfl⟩
  subst hW1
  go_wp2
  ·rename_i hlt0
   have hlt : i < b := by omega
   go_loopw [7] (fun vj wr2 => ∃ (j : Nat) (dj : Array Int), vj = .int .i64 j ∧ a ≤ j ∧ j ≤ i ∧ Hid (dj.size = n ∧ SW w blk off dj wr2 ∧ insInner ltInt a j dj = insInner ltInt a i dk)) (fun vj _ => (RowKit.intOf vj).toNat)
   case atStart => exact ⟨i, dk, rfl, by omega, Nat.le_refl _, Lib.hid ⟨hh.out.1, hh.out.2.1, rfl⟩⟩
   case round =>
    obtain ⟨j, dj, rfl, haj, hji, hg⟩ := hrel
    obtain ⟨G, hG⟩ : ∃ G : Nat → Int, ∀ t, G t = dj[t]! := ⟨fun t => dj[t]!, fun _ => rfl⟩
    have hcw := hg.out.2.1.cells hG hg.out.1
    have hfw := hg.out.2.1.thaw hg.out.1
    have HG := Lib.hid hG
    clear hG
    by_cases hja : a < j
    ·have hjz : (a : Int) < (j : Int) := by omega
     go_wp2_with fail
     go_big_quiet (first | (go_at_call 118; refine Calls.quiet_of_same (oLess _ _ _)))
     go_wp2_with fail
     ·have hl : ltInt (G j) (G (j - 1)) = true := by assumption
      have hcw2 : ∀ t, t < n → (wr.drewN nq).cell? ⟨blk, off + t, none⟩ = some (.int .i32 (G t)) := hcw
      have hfw2 : ∀ t, t < n → (wr.drewN nq).frozen? ⟨blk, off + t, none⟩ = false := hfw
      have HS := Lib.hid (hg.out.2.1.drewN nq)
      clear hcw hfw
      generalize wr.drewN nq = wr3 at hcw2 hfw2 HS ⊢
      go_region
      all_goals go_wp2
      go_roundw
      case rel =>
       refine ⟨j - 1, swp dj j (j - 1), by congr 1; omega, by omega, by omega, Lib.hid ⟨by rw [size_swp]; exact hg.out.1, HS.out.swapq HG.out (by have := hg.out.1; omega) (by have := hg.out.1; omega) 0 1, ?_⟩⟩
       rw [← hg.out.2.2, insInner_go ltInt a j dj hja (by rw [← HG.out, ← HG.out]; exact hl)]
      case measure => simp [RowKit.intOf]; omega
     ·have hl : ltInt (G j) (G (j - 1)) = false := by assumption
      go_wp2
      go_roundw
      case rel => exact ⟨i + 1, dj, by go_num, by omega, by omega, Lib.hid ⟨hg.out.1, hg.out.2.1.drewN nq, by rw [← hh.out.2.2, insOuter_go _ _ _ _ _ hlt, ← hg.out.2.2, insInner_stop _ _ _ _ (.inr (by rw [← HG.out, ← HG.out]; exact hl))]⟩⟩
      case measure => simp [RowKit.intOf]; omega
    ·have hjz : ¬ (a : Int) < (j : Int) := by omega
     go_wp2_with fail
     go_big_quiet (first | (go_at_call 118; refine Calls.quiet_of_same (oLess _ _ _)))
     go_wp2
     go_roundw
     case rel => exact ⟨i + 1, dj, by go_num, by omega, by omega, Lib.hid ⟨hg.out.1, hg.out.2.1.drewN nq, by rw [← hh.out.2.2, insOuter_go _ _ _ _ _ hlt, ← hg.out.2.2, insInner_stop _ _ _ _ (.inl (by omega))]⟩⟩
     case measure => simp [RowKit.intOf]; omega
  ·rename_i hge
   go_end0
   refine ⟨rfl, ?_⟩
   have e : insertionSort ltInt d a b = dk := by unfold insertionSort; rw [← hh.out.2.2, insOuter_stop _ _ _ _ _ (by omega)]
   rw [e]
   exact hh.out.2.1
set_option maxRecDepth 100000 in
set_option maxHeartbeats 8000000 in
theorem oRev (blk off cap a b : Nat) (d : Array Int) (w : World) (hH : Holds E32 w blk off d) (hab : a < b) (hb : b ≤ d.size) (hsz : d.size < 4611686018427387904) :
 Calls Tryz.prog 142 #[.slice (some ⟨blk, off, none⟩) d.size cap, .int .i64 a, .int .i64 b] w fun e w' =>
  e = .returned (.tuple #[]) ∧ ∃ d', PermIn a b d d' ∧ SW w blk off d' w' := by
 have H0 := Lib.hid (SW.refl hH)
 clear hH
 obtain ⟨n, hn⟩ : ∃ n, d.size = n := ⟨_, rfl⟩
 rw [hn] at hb hsz ⊢
 have HN := Lib.hid hn
 clear hn
 go_enter Tryz.func142, Tryz.ntmps142
 go_wp2
 go_loopw [6, 7] (fun vi vj wr => ∃ (i j : Nat) (dk : Array Int), vi = .int .i64 i ∧ vj = .int .i64 j ∧ a ≤ i ∧ i ≤ j + 2 ∧ j < b ∧ Hid (PermIn a b d dk ∧ SW w blk off dk wr)) (fun vi vj _ => (RowKit.intOf vj).toNat + 2 - (RowKit.intOf vi).toNat)
 case atStart => exact ⟨a, b - 1, d, rfl, by go_num, by omega, by omega, by omega, Lib.hid ⟨permIn_refl _ _ _, H0.out⟩⟩
 case round =>
  obtain ⟨i, j, dk, rfl, rfl, hai, hij, hjb, hh⟩ := hrel
  have hsk : dk.size = n := hh.out.1.1.trans HN.out
  obtain ⟨G, hG⟩ : ∃ G : Nat → Int, ∀ t, G t = dk[t]! := ⟨fun t => dk[t]!, fun _ => rfl⟩
  have hcw := hh.out.2.cells hG hsk
  have hfw := hh.out.2.thaw hsk
  have HG := Lib.hid hG
  have HSK := Lib.hid hsk
  clear hG hsk
  go_wp2
  ·rename_i hlt
   go_region
   all_goals go_wp2
   go_roundw
   case rel =>
    have hsk := HSK.out
    refine ⟨i + 1, j - 1, swp dk i j, by go_num, by go_num, by omega, by omega, by omega, Lib.hid ⟨?_, hh.out.2.swapq HG.out (by omega) (by omega) 0 1⟩⟩
    exact permIn_trans _ _ _ _ _ hh.out.1 (swp_permIn dk a b i j hai (by omega) (by omega) hjb (by omega))
   case measure => simp [RowKit.intOf]; omega
  ·go_end0
   exact ⟨rfl, dk, hh.out.1, hh.out.2⟩
end Go.Proofs.YthhepebkfokddaaGreatDoor
