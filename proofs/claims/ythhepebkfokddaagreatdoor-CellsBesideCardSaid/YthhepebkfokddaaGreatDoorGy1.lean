/- Parts of the proof of what the last text says. -/
import Derived.RangeFuncNested
import Derived.RangeFuncLeaves
import Derived.RangeFuncCalls
import Derived.Below
import Derived.WalkKit
import Derived.Lib.FrozenHead
import Derived.OwnWalkIn
import Derived.Test.YthhepebkfokddaaGreatDoorProg
import Derived.Lib.Hide
import Derived.IntWalk
import Derived.BigQuiet
import Derived.WalkLawsBesides
import Derived.WalkSpells
import Derived.Deep.QuietTactic
import Derived.Shelf.Strings.Builder1
import Derived.Shelf.Small.Utf8
import Derived.Shelf.Strings.BuilderF
import Derived.Shelf.Strings.BuilderK
import Derived.Shelf.Unicode.DecodeSlow
import Derived.Shelf.Unicode.DecodeAny
import Derived.Shelf.Unicode.DecodeLast
import Derived.Shelf.Strings.BuilderCap
import Derived.Handy
import Derived.Lib.DecodeN
/- What is the same of any program: worlds that keep all blocks but some; an iterator that hands out a known list; a loop over such an iterator. -/
namespace Go.Kt
open Go Go.RowKit

structure Keep (X : Nat → Prop) (A B : World) : Prop where
  os : B.os = A.os
  tape : B.tape = A.tape
  output : B.output = A.output
  size : A.heap.size ≤ B.heap.size
  same : ∀ b, b < A.heap.size → ¬ X b → B.heap[b]? = A.heap[b]?

theorem Keep.refl (X : Nat → Prop) (A : World) : Keep X A A := ⟨rfl, rfl, rfl, Nat.le_refl _, fun _ _ _ => rfl⟩
theorem Keep.trans {X : Nat → Prop} {A B C : World} (h : Keep X A B) (k : Keep X B C) : Keep X A C :=
  ⟨k.os.trans h.os, k.tape.trans h.tape, k.output.trans h.output, Nat.le_trans h.size k.size, fun b hb hX => (k.same b (Nat.lt_of_lt_of_le hb h.size) hX).trans (h.same b hb hX)⟩
theorem Keep.weaken {X Y : Nat → Prop} {A B : World} (h : Keep X A B) (hXY : ∀ b, b < A.heap.size → X b → Y b) : Keep Y A B :=
  ⟨h.os, h.tape, h.output, h.size, fun b hb hY => h.same b hb fun hX => hY (hXY b hb hX)⟩
theorem Keep.of_below {X : Nat → Prop} {n : Nat} {A B : World} (h : Below n A B) (hX : ∀ b, b < A.heap.size → n ≤ b → X b) : Keep X A B :=
  ⟨h.os, h.tape, h.output, h.size, fun b hb hnX => h.block b (by
    rcases Nat.lt_or_ge b n with h' | h'
    · exact h'
    · exact absurd (hX b hb h') hnX)⟩
theorem Keep.of_all {X : Nat → Prop} {A B : World} (h : Below A.heap.size A B) : Keep X A B := .of_below h (fun b h1 h2 => absurd h1 (by omega))
theorem Keep.below {X : Nat → Prop} {n : Nat} {A B : World} (h : Keep X A B) (hn : n ≤ A.heap.size) (hX : ∀ b, X b → n ≤ b) : Below n A B :=
  ⟨h.os, h.tape, h.output, h.size, fun b hb => h.same b (by omega) fun hx => absurd (hX b hx) (by omega)⟩
theorem Keep.alloc {X : Nat → Prop} {A B : World} (h : Keep X A B) (o : Obj) : Keep X A (B.alloc o) :=
  h.trans (.of_all ((Below.refl _ B).alloc (Nat.le_refl _) o))
theorem Keep.drew {X : Nat → Prop} {A B : World} (h : Keep X A B) : Keep X A B.drew := h.trans ⟨rfl, rfl, rfl, Nat.le_refl _, fun _ _ _ => rfl⟩
theorem Keep.setCell {X : Nat → Prop} {A B : World} (h : Keep X A B) {p : Addr} (hp : X p.block) (u : Value) : Keep X A (B.setCell p u) :=
  h.trans ⟨rfl, rfl, rfl, by simp, fun b _ hb => Below.heap_setCell B p u b (fun e => hb (e ▸ hp))⟩
theorem Keep.then {X : Nat → Prop} {A B C : World} (h : Keep X A B) (k : Below A.heap.size B C) : Keep X A C :=
  ⟨k.os.trans h.os, k.tape.trans h.tape, k.output.trans h.output, Nat.le_trans h.size k.size, fun b hb hX => (k.block b hb).trans (h.same b hb hX)⟩
theorem Keep.putObj {X : Nat → Prop} {A B : World} (h : Keep X A B) {l : Nat} (hl : X l ∨ A.heap.size ≤ l) (o : Obj) : Keep X A (B.putObj l o) :=
  ⟨h.os, h.tape, h.output, by simpa using h.size, fun b hb hX => (World.putObj_heap_other (fun e => by subst e; rcases hl with hl | hl; exact hX hl; omega)).trans (h.same b hb hX)⟩
theorem Keep.heap {X : Nat → Prop} {A B : World} (h : Keep X A B) {b : Nat} {o : Obj} (hb : A.heap[b]? = some o) (hX : ¬ X b) : B.heap[b]? = some o :=
  (h.same b (Array.getElem?_eq_some_iff.1 hb).1 hX).trans hb
theorem lt_of_cell {A : World} {p : Addr} {v : Value} (h : A.cell? p = some v) : p.block < A.heap.size := by
  rcases Nat.lt_or_ge p.block A.heap.size with h' | h'
  · exact h'
  · have : A.heap[p.block]? = none := Array.getElem?_eq_none h'
    simp [World.cell?, this] at h
theorem Keep.cell {X : Nat → Prop} {A B : World} (h : Keep X A B) {p : Addr} {v : Value} (hc : A.cell? p = some v) (hX : ¬ X p.block) : B.cell? p = some v :=
  (World.cell?_of_block (w := A) (h.same p.block (lt_of_cell hc) hX)).trans hc
theorem Keep.frozen {X : Nat → Prop} {A B : World} (h : Keep X A B) {p : Addr} (hp : p.block < A.heap.size) (hX : ¬ X p.block) : B.frozen? p = A.frozen? p :=
  World.frozen?_of_block (w := A) (h.same p.block hp hX)
theorem below_putObj {n : Nat} {B : World} {l : Nat} (hl : n ≤ l) (o : Obj) : Below n B (B.putObj l o) :=
  ⟨rfl, rfl, rfl, by simp, fun _ hk => World.putObj_heap_other (by omega)⟩

def Low {β : Type} (B : Nat) (J : β → (Nat → Prop) → World → Prop) : Prop := ∀ s Y W W', Keep (fun b => B ≤ b ∧ ¬ Y b) W W' → J s Y W → J s Y W'
def Iter {α : Type} (P : Program) (gf : Nat) (lb : Array Value) (encs : α → Array Value) (L : List α) (Nd : Nat → Prop) (w0 : World) : Prop :=
  ∀ (l : Nat) (X : Nat → Prop) (J Jx : List α → (Nat → Prop) → World → Prop) (W : World),
    (∀ b, Nd b → ¬ X b) → (∀ b, X b → b < W.heap.size) → (∀ b, Nd b → W.heap[b]? = w0.heap[b]?) → w0.heap.size ≤ W.heap.size →
    Low W.heap.size J → Low W.heap.size Jx →
    (∀ pre x Y W1, pre ++ [x] <+: L → J pre Y W1 → W.heap.size ≤ W1.heap.size → (∀ b, Y b → W.heap.size ≤ b) → YieldAt Fence.wide 0 P l (encs x) W1 fun e W' =>
      ∃ Y', Keep (fun b => X b ∨ Y b) W1 W' ∧ (∀ b, Y' b → Y b ∨ W1.heap.size ≤ b) ∧ ((e = .returned (.bool true) ∧ J (pre ++ [x]) Y' W') ∨ (e = .returned (.bool false) ∧ Jx (pre ++ [x]) Y' W'))) →
    J [] (fun _ => False) W →
    Calls P gf (#[.func (.yield l) #[] #[]] ++ lb) W fun e W' => (∃ v, e = .returned v) ∧ Keep X W W' ∧ ((∃ Y, (∀ b, Y b → W.heap.size ≤ b) ∧ J L Y W') ∨ ∃ pre Y, pre <+: L ∧ (∀ b, Y b → W.heap.size ≤ b) ∧ Jx pre Y W')

def Left {α : Type} (X Y : Nat → Prop) (I : List α → (Nat → Prop) → World → Prop) (xs : List α) (W W' : World) : Prop :=
  ∃ Y', Keep (fun b => X b ∨ Y b) W W' ∧ (∀ b, Y' b → Y b ∨ W.heap.size ≤ b) ∧ I xs Y' W'
def roundEnd {α : Type} (X Y : Nat → Prop) (I : List α → (Nat → Prop) → World → Prop) (Ix : Code → List α → (Nat → Prop) → World → Prop) (xs : List α) (W : World) : Exit → Act → World → Prop
  | .normal, _, W' => Left X Y I xs W W'
  | .ret, _, W' => Left X Y (Ix .ret) xs W W'
  | .exit id, _, W' => Left X Y (Ix (.exit id)) xs W W'
  | .goto t, _, W' => Left X Y (Ix (.goto t)) xs W W'
  | .panic _, _, _ => False
  | .outgrown, _, _ => False

variable {P : Program}

def Round {α : Type} (P : Program) (ps : Array Tmp) (assign body : Code) (tmps : Array Value) (encs : α → Array Value) (L : List α) (X : Nat → Prop) (I : List α → (Nat → Prop) → World → Prop) (Ix : Code → List α → (Nat → Prop) → World → Prop) (w : World) (l : Nat) : Prop :=
  ∀ (pre : List α) (x : α) (Y : Nat → Prop) (W : World), pre ++ [x] <+: L → I pre Y W → Keep X w W → (∀ b, Y b → w.heap.size ≤ b ∧ b ≠ l) → l < W.heap.size → (∃ r, W.heap[l]? = some (.loop r)) →
    assign.wpIn (Fence.wide.inRound l) 0 P (Exit.then (fun a₁ w₁ => Keep (fun _ => False) W w₁ ∧
        (∀ W2, Keep (fun b => b = l) w₁ W2 → Keep X w W2 → I pre Y W2 → (∃ r, W2.heap[l]? = some (.loop r)) → body.wpIn (Fence.wide.inRound l) 0 P (roundEnd X Y I Ix (pre ++ [x]) W2) a₁ W2)) (fun _ _ _ => False))
      { tmps := (ps.zip (encs x)).foldl (fun t (p, v) => t.setIfInBounds p v) tmps, defers := [] } W

theorem loop_core {α : Type} {F : Fence} {ps : Array Tmp} {assign body : Code} {Q : Exit → Act → World → Prop} {a a' : Act} {w W1 : World}
    {gf : Nat} {lb : Array Value} {encs : α → Array Value} {L : List α} {Nd X : Nat → Prop} {w0 : World} (hit : Iter P gf lb encs L Nd w0)
    (hps : ∀ x, (encs x).size = ps.size) (l : Nat) (rec : LoopState → Option Code → Loop) (fn : FuncId) (D : Nat)
    (hrec : ∀ st pe, rec st pe = { state := st, pending := pe, fn, tmps := a.tmps, params := ps, assign, body, defers := D })
    (hX : ∀ b, X b → b < w.heap.size) (hNd : ∀ b, Nd b → ¬ X b ∧ b < w.heap.size) (hNdw : ∀ b, Nd b → w.heap[b]? = w0.heap[b]?) (hw0 : w0.heap.size ≤ w.heap.size)
    (hl : w.heap.size ≤ l) (hL1 : W1.heap[l]? = some (.loop (rec .ready none))) (hbw : Below w.heap.size w W1)
    (I : List α → (Nat → Prop) → World → Prop) (Ix : Code → List α → (Nat → Prop) → World → Prop) (hI : Low w.heap.size I) (hIx : ∀ c, Low w.heap.size (Ix c)) (h0 : I [] (fun _ => False) w)
    (hround : Round P ps assign body a.tmps encs L X I Ix w l)
    (hdone : ∀ Y W, I L Y W → (∀ b, Y b → W1.heap.size ≤ b) → Keep X w W → Keep (fun b => X b ∨ b = l) W1 W → Q .normal a' W)
    (hstop : ∀ c pre Y W, pre <+: L → Ix c pre Y W → (∀ b, Y b → W1.heap.size ≤ b) → Keep X w W → Keep (fun b => X b ∨ b = l) W1 W → c.wpIn F 0 P Q a' W) :
    Calls P gf (#[.func (.yield l) #[] #[]] ++ lb) W1 (rangePost F 0 P l Q a') := by
  have hlt1 : l < W1.heap.size := (Array.getElem?_eq_some_iff.1 hL1).1
  have hB1 : w.heap.size ≤ W1.heap.size := hbw.size
  have hkw : Keep X w W1 := .of_all hbw
  -- a step that touches nothing below W1's heap's end but what is not of Y
  have low1 : ∀ {Y : Nat → Prop} {A B : World}, Keep (fun b => W1.heap.size ≤ b ∧ ¬ Y b) A B → Keep (fun b => w.heap.size ≤ b ∧ ¬ Y b) A B := fun h => h.weaken fun _ _ hb => ⟨Nat.le_trans hB1 hb.1, hb.2⟩
  have lowX : ∀ {Y : Nat → Prop} {A B : World}, Keep (fun b => W1.heap.size ≤ b ∧ ¬ Y b) A B → Keep X w A → Keep X w B := fun h k =>
    ⟨h.os.trans k.os, h.tape.trans k.tape, h.output.trans k.output, Nat.le_trans k.size h.size, fun b hb hx => (h.same b (Nat.lt_of_lt_of_le hb k.size) (fun hy => by have := hy.1; omega)).trans (k.same b hb hx)⟩
  have lowl : ∀ {Y : Nat → Prop} {A B : World} {o : Obj}, Keep (fun b => W1.heap.size ≤ b ∧ ¬ Y b) A B → A.heap[l]? = some o → B.heap[l]? = some o := fun h ho => h.heap ho (fun hy => by have := hy.1; omega)
  -- the law's own turn of its record
  have turn : ∀ {Y : Nat → Prop} (W : World) (o : Obj), (∀ b, Y b → W1.heap.size ≤ b) → Keep (fun b => w.heap.size ≤ b ∧ ¬ Y b) W (W.putObj l o) := fun W o hY => (Keep.refl _ W).putObj (.inl ⟨hl, fun hy => by have := hY l hy; omega⟩) o
  refine (hit l (fun b => X b ∨ b = l) (fun pre Y W => (∀ b, Y b → W1.heap.size ≤ b) ∧ I pre Y W ∧ Keep X w W ∧ W.heap[l]? = some (.loop (rec .ready none)))
    (fun pre Y W => (∀ b, Y b → W1.heap.size ≤ b) ∧ ∃ c, Ix c pre Y W ∧ Keep X w W ∧ W.heap[l]? = some (.loop (rec .done (some c)))) W1
    (fun b hb => by have := hNd b hb; rintro (h | h); exact this.1 h; omega)
    (fun b hb => by rcases hb with hb | hb; have := hX b hb; omega; omega)
    (fun b hb => (hkw.same b (hNd b hb).2 (hNd b hb).1).trans (hNdw b hb)) (by omega)
    (fun s Y A B hb ⟨hY, h1, h2, h3⟩ => ⟨hY, hI s Y A B (low1 hb) h1, lowX hb h2, lowl hb h3⟩)
    (fun s Y A B hb ⟨hY, c, h1, h2, h3⟩ => ⟨hY, c, hIx c s Y A B (low1 hb) h1, lowX hb h2, lowl hb h3⟩)
    ?_ ⟨fun _ h => h.elim, hI _ _ _ _ (.of_all hbw) h0, hkw, hL1⟩).mono ?_
  · rintro pre x Y W hpre ⟨hY, hi, hk, hl3⟩ hsz _
    have hlt : l < W.heap.size := (Array.getElem?_eq_some_iff.1 hl3).1
    have hYl : ∀ b, Y b → w.heap.size ≤ b ∧ b ≠ l := fun b hb => by have := hY b hb; omega
    have hy := run_yield (P := P) (args := encs x) hl3 (by rw [hrec]; exact hps x)
    rw [hrec] at hy
    refine ⟨fn, _, assign, body, hy, roundIn_of_wpIn trivial (wpIn_mono (hround pre x Y W hpre hi hk hYl hlt ⟨_, hl3⟩) ?_)⟩
    intro e a₁ w₁ h
    cases e with
    | normal =>
      obtain ⟨hk1, hb1⟩ := h
      have hl4 : w₁.heap[l]? = some (.loop (rec .ready none)) := hk1.heap hl3 (fun hx => hx)
      refine ⟨_, run_beginRound hl4 (by rw [hrec]), ?_⟩
      have hlt4 : l < w₁.heap.size := (Array.getElem?_eq_some_iff.1 hl4).1
      have hi1 : I pre Y w₁ := hI _ _ _ _ (hk1.weaken (fun _ _ h => h.elim)) hi
      have hi2 := hI _ _ _ _ (turn (Y := Y) w₁ (.loop { rec .ready none with state := .busy }) hY) hi1
      have hkw1 : Keep X w (w₁.putObj l (.loop { rec .ready none with state := .busy })) := (hk.trans (hk1.weaken fun _ _ h => h.elim)).putObj (.inr hl) _
      have hl5 : (w₁.putObj l (.loop { rec .ready none with state := .busy })).heap[l]? = some (.loop { rec .ready none with state := .busy }) := World.putObj_heap_same hlt4
      refine wpIn_mono (hb1 _ ((Keep.refl (fun b => b = l) w₁).putObj (.inl rfl) _) hkw1 hi2 ⟨_, hl5⟩) ?_
      have hX2 : Keep (fun b => (X b ∨ b = l) ∨ Y b) W (w₁.putObj l (.loop { rec .ready none with state := .busy })) := (hk1.weaken (fun _ _ h => h.elim)).putObj (.inl (.inl (.inr rfl))) _
      have hsz2 : W.heap.size ≤ (w₁.putObj l (.loop { rec .ready none with state := .busy })).heap.size := hX2.size
      have fin : ∀ (jump : Option Code) (W3 : World) (I' : List α → (Nat → Prop) → World → Prop), Low w.heap.size I' → Left X Y I' (pre ++ [x]) (w₁.putObj l (.loop { rec .ready none with state := .busy })) W3 →
          (Instr.endRound l jump).run P W3 = .ok (.bool jump.isNone) (W3.putObj l (.loop (rec (if jump.isNone then .ready else .done) jump))) ∧
          (W3.putObj l (.loop (rec (if jump.isNone then .ready else .done) jump))).heap[l]? = some (.loop (rec (if jump.isNone then .ready else .done) jump)) ∧
          ∃ Y', (∀ b, Y' b → W1.heap.size ≤ b) ∧ (∀ b, Y' b → Y b ∨ W.heap.size ≤ b) ∧ I' (pre ++ [x]) Y' (W3.putObj l (.loop (rec (if jump.isNone then .ready else .done) jump))) ∧
          Keep X w (W3.putObj l (.loop (rec (if jump.isNone then .ready else .done) jump))) ∧
          Keep (fun b => (X b ∨ b = l) ∨ Y b) W (W3.putObj l (.loop (rec (if jump.isNone then .ready else .done) jump))) := fun jump W3 I' hI' ⟨Y', hk3, hY', hi3⟩ => by
        have hl6 := hk3.heap hl5 (fun hx => by rcases hx with hx | hx; have := hX l hx; omega; have := hY l hx; omega)
        have hr := run_endRound (P := P) jump hl6
        have er : ({ ({ rec .ready none with state := .busy } : Loop) with state := if jump.isNone then .ready else .done, pending := jump } : Loop) = rec (if jump.isNone then .ready else .done) jump := by
          rw [hrec, hrec]
        rw [er] at hr
        have hY1 : ∀ b, Y' b → W1.heap.size ≤ b := fun b hb => by rcases hY' b hb with h | h; exact hY b h; omega
        refine ⟨hr, World.putObj_heap_same (Array.getElem?_eq_some_iff.1 hl6).1, Y', hY1, fun b hb => by rcases hY' b hb with h | h; exact .inl h; exact .inr (by omega), hI' _ _ _ _ (turn W3 _ hY1) hi3, ?_, ?_⟩
        · refine Keep.putObj ?_ (.inr hl) _
          exact ⟨hk3.os.trans hkw1.os, hk3.tape.trans hkw1.tape, hk3.output.trans hkw1.output, Nat.le_trans hkw1.size hk3.size, fun b hb hx => (hk3.same b (Nat.lt_of_lt_of_le hb hkw1.size) (fun h => by rcases h with h | h; exact hx h; have := hY b h; omega)).trans (hkw1.same b hb hx)⟩
        · exact (hX2.trans (hk3.weaken (fun _ _ h => by rcases h with h | h; exact .inl (.inl h); exact .inr h))).putObj (.inl (.inl (.inr rfl))) _
      rintro e a3 W3 hp
      cases e with
      | normal =>
        obtain ⟨hr, hl7, Y', q1, q2, q3, q4, q5⟩ := fin none W3 I hI hp
        exact ⟨_, _, hr, Y', q5, q2, .inl ⟨rfl, q1, q3, q4, hl7⟩⟩
      | ret =>
        obtain ⟨hr, hl7, Y', q1, q2, q3, q4, q5⟩ := fin (some .ret) W3 _ (hIx _) hp
        exact ⟨_, _, hr, Y', q5, q2, .inr ⟨rfl, q1, .ret, q3, q4, hl7⟩⟩
      | exit id =>
        obtain ⟨hr, hl7, Y', q1, q2, q3, q4, q5⟩ := fin (some (.exit id)) W3 _ (hIx _) hp
        exact ⟨_, _, hr, Y', q5, q2, .inr ⟨rfl, q1, .exit id, q3, q4, hl7⟩⟩
      | goto t =>
        obtain ⟨hr, hl7, Y', q1, q2, q3, q4, q5⟩ := fin (some (.goto t)) W3 _ (hIx _) hp
        exact ⟨_, _, hr, Y', q5, q2, .inr ⟨rfl, q1, .goto t, q3, q4, hl7⟩⟩
      | panic ch => exact hp.elim
      | outgrown => exact hp.elim
    | ret => exact h.elim
    | exit id => exact h.elim
    | goto t => exact h.elim
    | panic ch => exact h.elim
    | outgrown => exact h.elim
  · rintro e W2 ⟨⟨v, rfl⟩, hk2, (⟨Y, _, hY, hi, hk, hl2⟩ | ⟨pre, Y, hpre, _, hY, c, hi, hk, hl2⟩)⟩
    · have hr := run_endLoop (P := P) hl2 (by rw [hrec]; simp)
      have e1 : (rec .ready none).pending = none := by rw [hrec]
      rw [e1] at hr
      exact ⟨none, _, hr, hdone Y _ (hI _ _ _ _ (turn W2 _ hY) hi) hY (hk.putObj (.inr hl) _) (hk2.putObj (.inl (.inr rfl)) _)⟩
    · have hr := run_endLoop (P := P) hl2 (by rw [hrec]; simp)
      have e1 : (rec .done (some c)).pending = some c := by rw [hrec]
      rw [e1] at hr
      exact ⟨some c, _, hr, hstop c pre Y _ hpre (hIx c _ _ _ _ (turn W2 _ hY) hi) hY (hk.putObj (.inr hl) _) (hk2.putObj (.inl (.inr rfl)) _)⟩

theorem loop_out {α : Type} {g : Operand} {ps : Array Tmp} {assign body : Code} {Q : Exit → Act → World → Prop} {a : Act} {w : World}
    {gf : Nat} {lb : Array Value} (hg : a.eval g = .func (.func gf) #[] lb) (eg : ∀ args w, (callFunc gf args).run P w = .ok (.enter gf args) w)
    {encs : α → Array Value} {L : List α} {Nd X : Nat → Prop} {w0 : World} (hit : Iter P gf lb encs L Nd w0) (hps : ∀ x, (encs x).size = ps.size)
    (hX : ∀ b, X b → b < w.heap.size) (hNd : ∀ b, Nd b → ¬ X b ∧ b < w.heap.size) (hNdw : ∀ b, Nd b → w.heap[b]? = w0.heap[b]?) (hw0 : w0.heap.size ≤ w.heap.size)
    (I : List α → (Nat → Prop) → World → Prop) (Ix : Code → List α → (Nat → Prop) → World → Prop) (hI : Low w.heap.size I) (hIx : ∀ c, Low w.heap.size (Ix c)) (h0 : I [] (fun _ => False) w)
    (hround : ∀ l, w.heap.size ≤ l → Round P ps assign body a.tmps encs L X I Ix w l)
    (hdone : ∀ D Y W, w.heap.size ≤ D → W.heap[D]? = some (.deferred (some [])) → I L Y W → (∀ b, Y b → w.heap.size ≤ b ∧ b ≠ D) → Keep X w W → Q .normal { a with defers := { target := .collected D, args := #[] } :: a.defers } W)
    (hstop : ∀ D c pre Y W, w.heap.size ≤ D → W.heap[D]? = some (.deferred (some [])) → pre <+: L → Ix c pre Y W → (∀ b, Y b → w.heap.size ≤ b ∧ b ≠ D) → Keep X w W → c.wpIn Fence.wide 0 P Q { a with defers := { target := .collected D, args := #[] } :: a.defers } W) :
    (Code.rangeFunc g ps assign body).wpIn Fence.wide 0 P Q a w := by
  refine wpIn_rangeFunc ?_
  intro fn _
  obtain ⟨rec, hrec⟩ : ∃ rec : LoopState → Option Code → Loop, rec = fun st pe => { state := st, pending := pe, fn, tmps := a.tmps, params := ps, assign, body, defers := w.heap.size } := ⟨_, rfl⟩
  obtain ⟨W1, hW1⟩ : ∃ W1, (w.alloc (.deferred (some []))).alloc (.loop (rec .ready none)) = W1 := ⟨_, rfl⟩
  have hL1 : W1.heap[w.heap.size + 1]? = some (.loop (rec .ready none)) := by
    rw [← hW1]; have := World.alloc_heap_new (w.alloc (.deferred (some []))) (.loop (rec .ready none)); rwa [World.size_alloc] at this
  have hD1 : W1.heap[w.heap.size]? = some (.deferred (some [])) := by
    rw [← hW1]; exact (Below.heap_alloc _ _ _ (by simp)).trans (World.alloc_heap_new w _)
  have hbw : Below w.heap.size w W1 := by
    rw [← hW1]; exact ((Below.refl _ w).alloc (Nat.le_refl _) _).alloc (by simp) _
  have hltD : w.heap.size < W1.heap.size := (Array.getElem?_eq_some_iff.1 hD1).1
  have hD : ∀ W, Keep (fun b => X b ∨ b = w.heap.size + 1) W1 W → W.heap[w.heap.size]? = some (.deferred (some [])) := fun W hk =>
    hk.heap hD1 (fun h => by rcases h with h | h; have := hX _ h; omega; omega)
  refine ⟨w.heap.size + 1, [{ target := .collected w.heap.size, args := #[] }], W1, { target := .fn (.func gf) lb, args := #[.func (.yield (w.heap.size + 1)) #[] #[]] }, W1, gf,
    #[.func (.yield (w.heap.size + 1)) #[] #[]] ++ lb, W1, ?_, ?_, ?_, ?_, (fun h => by cases h), ?_⟩
  · rw [← hW1, hrec]; exact run_enterLoop_outer _ _ _ _ _
  · simp only [resolve, hg]
    simp [go_sem]
  · intro _ _; trivial
  · simp [invoke, go_sem, eg]
  · exact callsIn_wide.2 (loop_core hit hps (w.heap.size + 1) rec fn w.heap.size (by intro st pe; rw [hrec]) hX hNd hNdw hw0 (by omega) hL1 hbw I Ix hI hIx h0
      (hround _ (by omega))
      (fun Y W hi hY hk hk1 => hdone _ Y W (Nat.le_refl _) (hD W hk1) hi (fun b hb => by have := hY b hb; omega) hk)
      (fun c pre Y W hp hi hY hk hk1 => hstop _ c pre Y W (Nat.le_refl _) (hD W hk1) hp hi (fun b hb => by have := hY b hb; omega) hk))

theorem leaves_marks {fn : Func} {tmps : Array Value} {R : Ending → World → Prop} {W : World} {Ds : List Nat} (hnd : Ds.Nodup) (hD : ∀ D, D ∈ Ds → W.heap[D]? = some (.deferred (some [])))
    (h : ∀ W', Keep (fun b => b ∈ Ds) W W' → ∃ v, (results fn tmps).run P W' = .ok v W' ∧ R (.returned v) W') :
    LeavesInM Fence.wide 0 P fn tmps R (Ds.map fun D => { target := .collected D, args := #[] }) .returning W := by
  induction Ds generalizing W with
  | nil => exact h W (Keep.refl _ _)
  | cons D Ds ih =>
    have h1 := hD D (List.mem_cons_self ..)
    obtain ⟨hn1, hn2⟩ := List.nodup_cons.1 hnd
    refine ⟨by simp, .inl ⟨D, _, rfl, run_takeDeferred h1, ih hn2 (fun D' hD' => ?_) (fun W' hk => h W' ?_)⟩⟩
    · exact (World.putObj_heap_other (fun e : D' = D => hn1 (e ▸ hD'))).trans (hD D' (List.mem_cons_of_mem _ hD'))
    · exact ((Keep.refl (fun b => b ∈ D :: Ds) W).putObj (.inl (List.mem_cons_self ..)) _).trans (hk.weaken (fun _ _ hb => List.mem_cons_of_mem _ hb))
end Go.Kt
/- What is the same of any program: a slice that the call itself builds, element by element. -/
namespace Go.Kt
open Go Go.RowKit
variable {P : Program}

def OwnS (Y : Nat → Prop) (e : TypeId) (size : Nat) (v : Value) (n : Nat) (xs : List Value) (W : World) : Prop :=
  W.ownsRow 0 e size v n xs ∧ ∀ g, v.ownBlock = some g → Y g

theorem heap_alloc_if (A : World) (o : Obj) (k : Nat) : (A.alloc o).heap[k]? = if k = A.heap.size then some o else A.heap[k]? := by
  show (A.heap.push o)[k]? = _
  exact Array.getElem?_push ..
theorem own_nil (e : TypeId) (size : Nat) (W : World) (Y : Nat → Prop) : OwnS Y e size (.slice none 0 0) 0 [] W := ⟨World.ownsRow_nil W 0 e size, fun _ h => by cases h⟩
theorem keep_grown {A B : World} {row : Option Nat} (hg : A.grownBy B row) : Keep (fun b => row = some b) A B :=
  ⟨hg.os, hg.tape, hg.output, hg.size, fun b hb hr => hg.block b hb (fun e => hr e.symm)⟩
theorem OwnS.keep {Y X : Nat → Prop} {e : TypeId} {size n : Nat} {v : Value} {xs : List Value} {A B : World} (h : OwnS Y e size v n xs A) (hk : Keep X A B) (hX : ∀ b, X b → ¬ Y b) : OwnS Y e size v n xs B := by
  obtain ⟨⟨hl, h2⟩, hY⟩ := h
  refine ⟨⟨hl, ?_⟩, hY⟩
  rcases h2 with h2 | ⟨g, cap, cur, rfl, hb, hg, rest⟩
  · exact .inl h2
  · exact .inr ⟨g, cap, cur, rfl, hb, hk.heap hg (fun hx => hX g hx (hY g rfl)), rest⟩
theorem OwnS.weaken {Y Z : Nat → Prop} {e : TypeId} {size n : Nat} {v : Value} {xs : List Value} {A : World} (h : OwnS Y e size v n xs A) (hY : ∀ b, Y b → Z b) : OwnS Z e size v n xs A := ⟨h.1, fun g hg => hY g (h.2 g hg)⟩

theorem append_x (W : World) (t e : TypeId) {z : Value} {size bytes : Nat} (ht : P.underlying t = some (.slice e)) (hinfo : (P.info? e).map (fun i => (i.zero, i.size, i.bytes)) = some (some z, size, bytes))
    (hzs : z.cells.size = size) (hsz : 0 < size) {Y : Nat → Prop} {v : Value} {n : Nat} {xs : List Value} (hown : OwnS Y e size v n xs W)
    (news : List Value) (hl : news.length = size) (h1 : ∀ u ∈ news, u.oneCell' = true) (h63 : n + 1 ≤ maxLen) (hbytes : (n + 1) * bytes ≤ 140737488355328) :
    ∃ g cap w', (∀ ty, (Builtin.append_ #[t, t] ty #[v, .slice (some ⟨W.heap.size, 0, none⟩) 1 1]).run P (W.alloc (.cells news.toArray e)) = .ok (.slice (some ⟨g, 0, none⟩) (n + 1) cap) w') ∧
      OwnS (fun b => b = g) e size (.slice (some ⟨g, 0, none⟩) (n + 1) cap) (n + 1) (xs ++ news) w' ∧ Keep (fun b => v.ownBlock = some b) W w' ∧ (v.ownBlock = some g ∨ W.heap.size < g) ∧ W.heap.size < w'.heap.size := by
  obtain ⟨i, hi, hz, hs1, hb1⟩ := info_parts hinfo
  have hc : ∀ j u, news[j]? = some u → (W.alloc (.cells news.toArray e)).cell? ((⟨W.heap.size, 0, none⟩ : Addr).add j) = some u := fun j u hj => by
    have hh := World.alloc_heap_new W (.cells news.toArray e)
    rw [Addr.add_lit, Lib.cell_of_heap hh]
    simpa using hj
  have hown' : (W.alloc (.cells news.toArray e)).ownsRow 0 e size v n xs := hown.1.alloc _
  obtain ⟨v', w', hrun, r1, r2, r3⟩ := run_append_own (P := P) (W.alloc (.cells news.toArray e)) 0 t 0 e i z size bytes ht hi hz hs1 hb1 hzs hsz v n xs hown' ⟨W.heap.size, 0, none⟩ 1 1 news (by omega) hc h1 h63 hbytes (Nat.zero_le _)
  have hrun' : ∀ ty, (Builtin.append_ #[t, t] ty #[v, .slice (some ⟨W.heap.size, 0, none⟩) 1 1]).run P (W.alloc (.cells news.toArray e)) = .ok v' w' := fun ty => hrun
  have hK : Keep (fun b => v.ownBlock = some b) W w' := ((Keep.refl _ W).alloc _).trans (keep_grown r2)
  have hsz' : W.heap.size < w'.heap.size := by have := r2.size; simp at this; omega
  rcases r1.2 with ⟨_, h⟩ | ⟨g, cap, cur, rfl, hb, hg, rest⟩
  · omega
  refine ⟨g, cap, w', hrun', ⟨r1, fun g' h => by cases h; rfl⟩, hK, ?_, hsz'⟩
  -- where it lies
  rcases hown'.2 with ⟨hv, hn⟩ | ⟨g0, cap0, cur0, hv, hb0, hg0, hnc, hcm, hcs, _⟩
  · -- no row yet: a new one
    right
    obtain ⟨v2, w2, hrun2, q1, q2, q3⟩ := run_append_own (P := P) (W.alloc (.cells news.toArray e)) (W.heap.size + 1) t 0 e i z size bytes ht hi hz hs1 hb1 hzs hsz v n xs ⟨hown'.1, .inl ⟨hv, hn⟩⟩ ⟨W.heap.size, 0, none⟩ 1 1 news (by omega) hc h1 h63 hbytes (by simp)
    rw [hrun] at hrun2
    injection hrun2 with e1 e2
    subst e1; subst e2
    exact (q1.lt g rfl).1
  · subst hv
    by_cases hroom : n + 1 ≤ cap0
    · left
      have hr := run_append_room (P := P) (W.alloc (.cells news.toArray e)) t 0 e i ht hi g0 n cap0 cur0 hg0 ⟨W.heap.size, 0, none⟩ 1 1 news (by omega) hc h1 hroom (by rw [hs1, hcs, hl, ← Nat.succ_mul]; exact Nat.mul_le_mul_right _ hroom)
      rw [hrun] at hr
      injection hr with e1 e2
      injection e1 with e1 _ _
      injection e1 with e1
      injection e1 with e1
      subst e1
      rfl
    · right
      have holds : ∀ j u, xs[j]? = some u → (W.alloc (.cells news.toArray e)).cell? ((⟨g0, 0, none⟩ : Addr).add j) = some u := hown'.cells (g := g0) rfl
      have hsmall : n + 1 ≤ 9223372036854775807 := by simp only [maxLen] at h63; omega
      have hr := run_append_grow (P := P) (W.alloc (.cells news.toArray e)) t 0 e i z ht hi hz ⟨g0, 0, none⟩ n cap0 xs (by rw [hs1]; exact hown'.1) holds ⟨W.heap.size, 0, none⟩ 1 1 news (by omega) hc (by omega) (by omega) (by rw [hb1]; exact growslice_fits (by omega) hbytes)
      rw [hrun] at hr
      injection hr with e1 e2
      injection e1 with e1 _ _
      injection e1 with e1
      injection e1 with e1
      subst e1
      simp

theorem wpList_append_eq {ops : Array Oper} {rest : List Oper} {o : Oper} {a : Act} {Q : Exit → Act → World → Prop} {w w' : World} {v' x y : Value} (hgd : o.guard = none) {sl ar : Operand} {t u : TypeId}
    (ho : o.op = .call { callee := .builtin .append, args := #[sl, ar], argTypes := #[t, u] }) (hs : a.eval sl = x) (hx : a.eval ar = y)
    (hrun : ∀ ty, (Builtin.append_ #[t, u] ty #[x, y]).run P w = .ok v' w') (h : wpList P ops Q rest (a.put o.dst v') w') : wpList P ops Q (o :: rest) a w := by
  refine wpList_plain hgd fun K hK => ?_
  unfold Oper.wp execOp
  simp only [ho, resolve, invoke, builtin, Sem.run_bind, Sem.run_pure, Result.andThen_ok, List.map_toArray, List.map_cons, List.map_nil, hs, hx, hrun]
  exact hK _ _ h
theorem wpListIn_append_eq {F : Fence} {n : Nat} {ops : Array Oper} {rest : List Oper} {o : Oper} {a : Act} {Q : Exit → Act → World → Prop} {w w' : World} {v' x y : Value} (hgd : o.guard = none) {sl ar : Operand} {t u : TypeId}
    (ho : o.op = .call { callee := .builtin .append, args := #[sl, ar], argTypes := #[t, u] }) (hs : a.eval sl = x) (hx : a.eval ar = y)
    (hrun : ∀ ty, (Builtin.append_ #[t, u] ty #[x, y]).run P w = .ok v' w') (h : wpListIn F n P ops Q rest (a.put o.dst v') w') : wpListIn F n P ops Q (o :: rest) a w := by
  refine wpListIn_plain hgd fun K hK => ?_
  unfold Oper.wpIn
  refine ⟨?_, ?_⟩
  · simp [Oper.about, ho, resolve, Target.leads, Sem.run_pure]
  · rw [Oper.semAt_plain F _ _ (by rw [ho]; intro c hc'; cases hc')]
    simp [execOp, ho, resolve, invoke, builtin, hs, hx, hrun, Result.andThen]
    exact hK _ _ h
end Go.Kt
/- cells: kinds of Hangul; whether two go into one sign; whether an edge lies between two units. -/
namespace Go.Proofs.YthhepebkfokddaaGreatDoor
open Go Go.RowKit Go.Kt

def hanK (r : Int) : Int :=
  if 4352 ≤ r ∧ r ≤ 4370 then 1 else if 4449 ≤ r ∧ r ≤ 4469 then 2 else if 4520 ≤ r ∧ r ≤ 4546 then 3 else if r < 44032 ∨ 55203 < r then 0 else if (r - 44032) % 28 = 0 then 4 else 5
def oneS (a b : Int) : Bool :=
  if a = 1 then decide (b = 1) || decide (b = 2) || decide (b = 4) || decide (b = 5) else if a = 2 ∨ a = 4 then decide (b = 2) || decide (b = 3) else if a = 3 ∨ a = 5 then decide (b = 3) else false
structure CU where
  num : Int
  apart : Bool
  hangs : Bool
  holds : Bool
  han : Int
def cuV (u : CU) : Value := .agg #[.int .i32 u.num, .bool u.apart, .bool u.hangs, .bool u.holds, .int .i64 u.han]
def edgU (a b : CU) : Bool :=
  if a.num = 13 ∧ b.num = 10 then false else if a.apart || b.apart then true else if b.hangs || a.holds then false else !oneS a.han b.han

set_option maxRecDepth 100000 in
theorem chan (r : Int) (w : World) : Calls Tryz.prog 59 #[.int .i32 r] w fun e w' => e = .returned (.int .i64 (hanK r)) ∧ w' = w := by
  by_cases h1 : 4352 ≤ r ∧ r ≤ 4370
  · have e1 := h1.1
    have e2 := h1.2
    rw [show hanK r = 1 by unfold hanK; rw [if_pos h1]]
    clear h1
    go_enter Tryz.func59, Tryz.ntmps59
    go_wp2
    go_ret
    exact ⟨rfl, rfl⟩
  by_cases h2 : 4449 ≤ r ∧ r ≤ 4469
  · have e1 : 4352 ≤ r := by omega
    have e2 : ¬ r ≤ 4370 := by omega
    have e3 := h2.1
    have e4 := h2.2
    rw [show hanK r = 2 by unfold hanK; rw [if_neg h1, if_pos h2]]
    clear h1 h2
    go_enter Tryz.func59, Tryz.ntmps59
    go_wp2
    go_ret
    exact ⟨rfl, rfl⟩
  by_cases h3 : 4520 ≤ r ∧ r ≤ 4546
  · have e1 : 4352 ≤ r := by omega
    have e2 : ¬ r ≤ 4370 := by omega
    have e3 : 4449 ≤ r := by omega
    have e4 : ¬ r ≤ 4469 := by omega
    have e5 := h3.1
    have e6 := h3.2
    rw [show hanK r = 3 by unfold hanK; rw [if_neg h1, if_neg h2, if_pos h3]]
    clear h1 h2 h3
    go_enter Tryz.func59, Tryz.ntmps59
    go_wp2
    go_ret
    exact ⟨rfl, rfl⟩
  have HN : Hid ((¬ (4352 ≤ r ∧ r ≤ 4370)) ∧ (¬ (4449 ≤ r ∧ r ≤ 4469)) ∧ ¬ (4520 ≤ r ∧ r ≤ 4546)) := Lib.hid ⟨h1, h2, h3⟩
  by_cases h4 : r < 44032
  · rw [show hanK r = 0 by unfold hanK; rw [if_neg h1, if_neg h2, if_neg h3, if_pos (Or.inl h4)]]
    by_cases a1 : 4352 ≤ r
    · have a2 : ¬ r ≤ 4370 := by omega
      by_cases b1 : 4449 ≤ r
      · have b2 : ¬ r ≤ 4469 := by omega
        by_cases c1 : 4520 ≤ r
        · have c2 : ¬ r ≤ 4546 := by omega
          clear h1 h2 h3 HN
          go_enter Tryz.func59, Tryz.ntmps59
          go_wp2
          go_ret
          exact ⟨rfl, rfl⟩
        · clear h1 h2 h3 HN
          go_enter Tryz.func59, Tryz.ntmps59
          go_wp2
          go_ret
          exact ⟨rfl, rfl⟩
      · have c1 : ¬ 4520 ≤ r := by omega
        clear h1 h2 h3 HN
        go_enter Tryz.func59, Tryz.ntmps59
        go_wp2
        go_ret
        exact ⟨rfl, rfl⟩
    · have b1 : ¬ 4449 ≤ r := by omega
      have c1 : ¬ 4520 ≤ r := by omega
      clear h1 h2 h3 HN
      go_enter Tryz.func59, Tryz.ntmps59
      go_wp2
      go_ret
      exact ⟨rfl, rfl⟩
  have a1 : 4352 ≤ r := by omega
  have a2 : ¬ r ≤ 4370 := by omega
  have b1 : 4449 ≤ r := by omega
  have b2 : ¬ r ≤ 4469 := by omega
  have c1 : 4520 ≤ r := by omega
  have c2 : ¬ r ≤ 4546 := by omega
  by_cases h5 : 55203 < r
  · rw [show hanK r = 0 by unfold hanK; rw [if_neg h1, if_neg h2, if_neg h3, if_pos (Or.inr h5)]]
    clear h1 h2 h3 HN
    go_enter Tryz.func59, Tryz.ntmps59
    go_wp2
    go_ret
    exact ⟨rfl, rfl⟩
  obtain ⟨m, rfl⟩ : ∃ m, r = 44032 + m := ⟨r - 44032, by omega⟩
  have q1 : IntKind.i32.wrap (44032 + m - 44032) = m := by rw [IntWalk.i32_in _ (by omega)]; omega
  have q2 : m.tmod 28 = m % 28 := Int.tmod_eq_emod_of_nonneg (by omega)
  have q3 : 44032 + m - 44032 = m := by omega
  obtain ⟨k, hk⟩ : ∃ k, m % 28 = k := ⟨_, rfl⟩
  have q4 : IntKind.i32.wrap k = k := IntWalk.i32_in _ (by omega)
  rw [show hanK (44032 + m) = if k = 0 then 4 else 5 by unfold hanK; rw [if_neg h1, if_neg h2, if_neg h3, if_neg (by omega), q3, hk]]
  by_cases hk0 : k = 0
  · rw [if_pos hk0]
    clear h1 h2 h3 HN q3
    go_enter Tryz.func59, Tryz.ntmps59
    go_wp2
    go_ret
    exact ⟨rfl, rfl⟩
  · rw [if_neg hk0]
    have hk1 : (k == 0) = false := by rw [beq_eq_false_iff_ne]; exact hk0
    clear h1 h2 h3 HN q3
    go_enter Tryz.func59, Tryz.ntmps59
    go_wp2
    go_ret
    exact ⟨rfl, rfl⟩
theorem hanK_in (r : Int) : 0 ≤ hanK r ∧ hanK r ≤ 5 := by
  unfold hanK
  repeat' split
  all_goals decide
set_option maxRecDepth 100000 in
theorem cone (a b : Int) (w : World) (ha : 0 ≤ a ∧ a ≤ 5) (hb : 0 ≤ b ∧ b ≤ 5) : Calls Tryz.prog 57 #[.int .i64 a, .int .i64 b] w fun e w' => e = .returned (.bool (oneS a b)) ∧ w' = w := by
  have ha' : a = 0 ∨ a = 1 ∨ a = 2 ∨ a = 3 ∨ a = 4 ∨ a = 5 := by omega
  have hb' : b = 0 ∨ b = 1 ∨ b = 2 ∨ b = 3 ∨ b = 4 ∨ b = 5 := by omega
  clear ha hb
  rcases ha' with rfl | rfl | rfl | rfl | rfl | rfl <;> rcases hb' with rfl | rfl | rfl | rfl | rfl | rfl <;>
    (go_enter Tryz.func57, Tryz.ntmps57
     go_wp2
     go_ret
     exact ⟨rfl, rfl⟩)
end Go.Proofs.YthhepebkfokddaaGreatDoor
/- cells: whether an edge lies between two units; the unit at a place. -/
namespace Go.Proofs.YthhepebkfokddaaGreatDoor
open Go Go.RowKit Go.Kt

set_option maxRecDepth 100000 in
set_option maxHeartbeats 2000000 in
theorem cedge (a b : CU) (w : World) (ha : 0 ≤ a.han ∧ a.han ≤ 5) (hb : 0 ≤ b.han ∧ b.han ≤ 5) : Calls Tryz.prog 27 #[cuV a, cuV b] w fun e w' => e = .returned (.bool (edgU a b)) ∧ Below w.heap.size w w' := by
  have CO := Lib.hid (fun W => cone a.han b.han W ha hb)
  obtain ⟨an, aa, ag, ao, ah⟩ := a
  obtain ⟨bn, ba, bg, bo, bh⟩ := b
  simp only at ha hb CO
  have HW : ∀ (x y : Obj), Below w.heap.size w ((w.alloc x).alloc y) := fun x y => Below.alloc (Below.alloc (Below.refl _ w) (Nat.le_refl _) _) (Below.alloc (Below.refl _ w) (Nat.le_refl _) _).size _
  have HW := Lib.hid HW
  have HE : Hid (edgU ⟨an, aa, ag, ao, ah⟩ ⟨bn, ba, bg, bo, bh⟩ = if an = 13 ∧ bn = 10 then false else if aa || ba then true else if bg || ao then false else !oneS ah bh) := Lib.hid rfl
  rw [HE.out]
  unfold cuV
  simp only
  clear ha hb
  by_cases n1 : an = 13 ∧ bn = 10
  · rw [if_pos n1]
    obtain ⟨rfl, rfl⟩ := n1
    clear HE CO
    go_enter Tryz.func27, Tryz.ntmps27
    go_wp2
    go_ret
    exact ⟨rfl, HW.out _ _⟩
  rw [if_neg n1]
  clear HE
  obtain ⟨o, ho⟩ : ∃ o, oneS ah bh = o := ⟨_, rfl⟩
  rw [ho] at CO ⊢
  clear ho
  by_cases n2 : an = 13
  · have n3 : bn ≠ 10 := fun h => n1 ⟨n2, h⟩
    have n4 : (bn == 10) = false := by rw [beq_eq_false_iff_ne]; exact n3
    subst n2
    clear n1 n3
    cases aa <;> cases ba <;> cases bg <;> cases ao <;>
      (go_enter Tryz.func27, Tryz.ntmps27
       first
       | (go_wp2_with fail
          refine (CO.out _).mono ?_
          rintro e w' ⟨rfl, rfl⟩
          go_wp2
          go_ret
          exact ⟨rfl, HW.out _ _⟩)
       | (go_wp2
          go_ret
          exact ⟨rfl, HW.out _ _⟩))
  · have n4 : (an == 13) = false := by rw [beq_eq_false_iff_ne]; exact n2
    clear n1 n2
    cases aa <;> cases ba <;> cases bg <;> cases ao <;>
      (go_enter Tryz.func27, Tryz.ntmps27
       first
       | (go_wp2_with fail
          refine (CO.out _).mono ?_
          rintro e w' ⟨rfl, rfl⟩
          go_wp2
          go_ret
          exact ⟨rfl, HW.out _ _⟩)
       | (go_wp2
          go_ret
          exact ⟨rfl, HW.out _ _⟩))
end Go.Proofs.YthhepebkfokddaaGreatDoor

namespace Go.Proofs.YthhepebkfokddaaGreatDoor
open Go Go.RowKit

def inB (c lo hi : Int) : Bool := decide (lo ≤ c) && decide (c ≤ hi)

def leadI (c : Int) : Int × Int × Int :=
  if c < 128 then (1, 0, 0) else if inB c 194 223 then (2, 128, 191) else if c == 224 then (3, 160, 191) else if c == 237 then (3, 128, 159)
  else if inB c 225 239 then (3, 128, 191) else if c == 240 then (4, 144, 191) else if c == 244 then (4, 128, 143) else if inB c 241 243 then (4, 128, 191) else (0, 0, 0)

def bAt (s : ByteArray) (i : Nat) : Int := (s.data.toList.getD i 0).toNat
theorem bAt_eq (s : ByteArray) (i : Nat) (h : i < s.size) : bAt s i = (s[i]'h).toNat := by
  have h' : i < s.data.toList.length := by simpa using h
  unfold bAt
  rw [List.getD_eq_getElem?_getD, List.getElem?_eq_getElem h']; rfl
def begunC (s : ByteArray) (i : Nat) (lo hi : Int) (k : Nat) : Bool := if k = 1 then inB (bAt s (i + k)) lo hi else inB (bAt s (i + k)) 128 191
def begunK (s : ByteArray) (i : Nat) (n lo hi : Int) : Nat → Nat → Nat
  | 0, k => k
  | f + 1, k => if (k : Int) < n ∧ i + k < s.size ∧ begunC s i lo hi k = true then begunK s i n lo hi f (k + 1) else k
def begunI (s : ByteArray) (i : Nat) : Int × Int :=
  if (leadI (bAt s i)).1 == 0 then (0, 0) else ((begunK s i (leadI (bAt s i)).1 (leadI (bAt s i)).2.1 (leadI (bAt s i)).2.2 4 1 : Nat), (leadI (bAt s i)).1)
theorem leadI_bd (c : Int) : 0 ≤ (leadI c).1 ∧ (leadI c).1 ≤ 4 := by
  unfold leadI; repeat' split
  all_goals simp

end Go.Proofs.YthhepebkfokddaaGreatDoor
/- The contracts of the library functions that the program calls (unicode/utf8, strings.Builder), laid over this translation. -/
namespace Go.Proofs
open Go.Shelf
def Tryz.lays120_ren : Go.Shelf.Ren := ⟨fun | 120 => 95 | n => n, fun | 5 => 5 | 4 => 4 | n => n, fun | n => n⟩
def Tryz.lays260_ren : Go.Shelf.Ren := ⟨fun | 260 => 122 | n => n, fun | 9 => 9 | 21 => 21 | 3 => 3 | 4 => 4 | 5 => 5 | 119 => 195 | 0 => 0 | 46 => 169 | 139 => 198 | 138 => 197 | n => n, fun | 3 => 3 | 4 => 4 | n => n⟩
def Tryz.lays197_ren : Go.Shelf.Ren := ⟨fun | 197 => 94 | 260 => 122 | n => n, fun | 9 => 9 | 21 => 21 | 3 => 3 | 4 => 4 | 5 => 5 | 105 => 67 | 119 => 195 | 0 => 0 | 46 => 169 | 139 => 198 | 138 => 197 | n => n, fun | 3 => 3 | 4 => 4 | n => n⟩
theorem Tryz.lays197 : Go.Proofs.Lays.n197 Tryz.prog Tryz.lays197_ren := {
  mixed := by kernel_rfl
  f197 := Tryz.func94.trans (congrArg some (by kernel_rfl))
  f260 := Tryz.func122.trans (congrArg some (by kernel_rfl))
  t0 := Tryz.underlying0
  a0 := Tryz.isAgg0
  z0 := Tryz.sizeOf0
  v0 := Tryz.zeroValue0
  t3 := Tryz.underlying3
  a3 := Tryz.isAgg3
  z3 := Tryz.sizeOf3
  v3 := Tryz.zeroValue3
  t4 := Tryz.underlying4
  a4 := Tryz.isAgg4
  z4 := Tryz.sizeOf4
  v4 := Tryz.zeroValue4
  t5 := Tryz.underlying5
  a5 := Tryz.isAgg5
  z5 := Tryz.sizeOf5
  v5 := Tryz.zeroValue5
  t9 := Tryz.underlying9
  a9 := Tryz.isAgg9
  z9 := Tryz.sizeOf9
  v9 := Tryz.zeroValue9
  t21 := Tryz.underlying21
  a21 := Tryz.isAgg21
  z21 := Tryz.sizeOf21
  v21 := Tryz.zeroValue21
  t46 := Tryz.underlying169
  a46 := Tryz.isAgg169
  z46 := Tryz.sizeOf169
  v46 := Tryz.zeroValue169
  t105 := Tryz.underlying67
  a105 := Tryz.isAgg67
  z105 := Tryz.sizeOf67
  v105 := Tryz.zeroValue67
  t119 := Tryz.underlying195
  a119 := Tryz.isAgg195
  z119 := Tryz.sizeOf195
  t138 := Tryz.underlying197
  a138 := Tryz.isAgg197
  z138 := Tryz.sizeOf197
  v138 := Tryz.zeroValue197
  t139 := Tryz.underlying198
  a139 := Tryz.isAgg198
  z139 := Tryz.sizeOf198
  v139 := Tryz.zeroValue198
  g3 := by kernel_rfl
  g4 := by kernel_rfl }
open Go.RowKit Go.Lib in
theorem Tryz.utf8_DecodeRuneInString (s : ByteArray) (w : World) (hT : Lib.Utf8Tabs 3 4 w) :
    Calls Tryz.prog 94 #[.string s] w fun e w' => e = .returned (.tuple #[.int .i32 (Lib.decodeGo s).1, .int .i64 (Lib.decodeGo s).2]) ∧ Below w.heap.size w w' := Any.utf8_DecodeRuneInString Tryz.lays197 s w hT
def Tryz.lays271_ren : Go.Shelf.Ren := ⟨fun | 271 => 56 | 120 => 95 | 197 => 94 | 260 => 122 | n => n, fun | 9 => 9 | 21 => 21 | 3 => 3 | 4 => 4 | 5 => 5 | 105 => 67 | 119 => 195 | 0 => 0 | 46 => 169 | 139 => 198 | 138 => 197 | n => n, fun | 3 => 3 | 4 => 4 | n => n⟩
theorem Tryz.lays271 : Go.Proofs.Lays.n271 Tryz.prog Tryz.lays271_ren := {
  mixed := by kernel_rfl
  f120 := Tryz.func95.trans (congrArg some (by kernel_rfl))
  f197 := Tryz.func94.trans (congrArg some (by kernel_rfl))
  f260 := Tryz.func122.trans (congrArg some (by kernel_rfl))
  f271 := Tryz.func56.trans (congrArg some (by kernel_rfl))
  t0 := Tryz.underlying0
  a0 := Tryz.isAgg0
  z0 := Tryz.sizeOf0
  v0 := Tryz.zeroValue0
  t3 := Tryz.underlying3
  a3 := Tryz.isAgg3
  z3 := Tryz.sizeOf3
  v3 := Tryz.zeroValue3
  t4 := Tryz.underlying4
  a4 := Tryz.isAgg4
  z4 := Tryz.sizeOf4
  v4 := Tryz.zeroValue4
  t5 := Tryz.underlying5
  a5 := Tryz.isAgg5
  z5 := Tryz.sizeOf5
  v5 := Tryz.zeroValue5
  t9 := Tryz.underlying9
  a9 := Tryz.isAgg9
  z9 := Tryz.sizeOf9
  v9 := Tryz.zeroValue9
  t21 := Tryz.underlying21
  a21 := Tryz.isAgg21
  z21 := Tryz.sizeOf21
  v21 := Tryz.zeroValue21
  t46 := Tryz.underlying169
  a46 := Tryz.isAgg169
  z46 := Tryz.sizeOf169
  v46 := Tryz.zeroValue169
  t105 := Tryz.underlying67
  a105 := Tryz.isAgg67
  z105 := Tryz.sizeOf67
  v105 := Tryz.zeroValue67
  t119 := Tryz.underlying195
  a119 := Tryz.isAgg195
  z119 := Tryz.sizeOf195
  t138 := Tryz.underlying197
  a138 := Tryz.isAgg197
  z138 := Tryz.sizeOf197
  v138 := Tryz.zeroValue197
  t139 := Tryz.underlying198
  a139 := Tryz.isAgg198
  z139 := Tryz.sizeOf198
  v139 := Tryz.zeroValue198
  g3 := by kernel_rfl
  g4 := by kernel_rfl }
open Go.RowKit Go.Lib in
theorem Tryz.utf8_DecodeLastRuneInString (s : ByteArray) (w : World) (hs : s.size ≤ 9223372036854775807) (hT : Lib.Utf8Tabs 3 4 w) :
    Calls Tryz.prog 56 #[.string s] w fun e w' => e = .returned (.tuple #[.int .i32 (Lib.decodeLastL s.data.toList).1, .int .i64 (Lib.decodeLastL s.data.toList).2]) ∧ Below w.heap.size w w' := Any.utf8_DecodeLastRuneInString Tryz.lays271 s w hs hT
end Go.Proofs

namespace Go.Proofs.YthhepebkfokddaaGreatDoor
open Go Go.RowKit

def wideI (s : ByteArray) (i : Nat) : Int := if (begunI s i).1 != (begunI s i).2 then 0 else (begunI s i).2

def numI (t : ByteArray) : Int :=
  if t.size = 1 then bAt t 0 else if t.size = 2 then bAt t 0 % 32 * 64 + bAt t 1 % 64
  else if t.size = 3 then (bAt t 0 % 16 * 64 + bAt t 1 % 64) * 64 + bAt t 2 % 64
  else ((bAt t 0 % 8 * 64 + bAt t 1 % 64) * 64 + bAt t 2 % 64) * 64 + bAt t 3 % 64

end Go.Proofs.YthhepebkfokddaaGreatDoor

namespace Go.Proofs.YthhepebkfokddaaGreatDoor
open Go Go.RowKit Go.Lib

def bgT (r : Int × Int × Int) (N : Nat) (x1 x2 x3 : Int) : Int :=
  if 1 < r.1 ∧ 1 < N ∧ inB x1 r.2.1 r.2.2 = true then
    (if 2 < r.1 ∧ 2 < N ∧ inB x2 128 191 = true then (if 3 < r.1 ∧ 3 < N ∧ inB x3 128 191 = true then 4 else 3) else 2) else 1
def numT (w : Nat) (x0 x1 x2 x3 : Int) : Int :=
  if w = 1 then x0 else if w = 2 then x0 % 32 * 64 + x1 % 64
  else if w = 3 then (x0 % 16 * 64 + x1 % 64) * 64 + x2 % 64
  else ((x0 % 8 * 64 + x1 % 64) * 64 + x2 % 64) * 64 + x3 % 64

theorem inB_iff (c lo hi : Int) : inB c lo hi = true ↔ lo ≤ c ∧ c ≤ hi := by simp [inB]

def Agree (N b0 b1 b2 b3 : Nat) : Prop :=
  (((leadI b0).1 = 0 ∨ bgT (leadI b0) N b1 b2 b3 ≠ (leadI b0).1) ∧ decodeN N b0 b1 b2 b3 = (65533, 1)) ∨
  (∃ w : Nat, 1 ≤ w ∧ w ≤ 4 ∧ w ≤ N ∧ (leadI b0).1 = w ∧ bgT (leadI b0) N b1 b2 b3 = w ∧ (decodeN N b0 b1 b2 b3).2 = w ∧ ((decodeN N b0 b1 b2 b3).1 : Int) = numT w b0 b1 b2 b3)

theorem agree_0 (N b0 b1 b2 b3 : Nat) (hN : 1 ≤ N) (h : b0 < 128) : Agree N b0 b1 b2 b3 := by
  have hl : leadI b0 = (1, 0, 0) := by unfold leadI; rw [if_pos (by omega)]
  unfold Agree; rw [hl]
  refine .inr ⟨1, by omega, by omega, hN, rfl, ?_, ?_, ?_⟩
  · simp [bgT]
  · simp [decodeN, h]
  · simp [decodeN, h, numT]
theorem lead_bad (b0 : Nat) (h : (128 ≤ b0 ∧ b0 < 194) ∨ 245 ≤ b0) : leadI b0 = (0, 0, 0) := by
  unfold leadI
  simp only [inB_iff, beq_iff_eq]
  repeat' split
  all_goals first | rfl | (exfalso; omega)
theorem agree_bad (N b0 b1 b2 b3 : Nat) (h : (128 ≤ b0 ∧ b0 < 194) ∨ 245 ≤ b0) (c0 : b0 < 256) (_c1 : b1 < 256) (_c2 : b2 < 256) (_c3 : b3 < 256) : Agree N b0 b1 b2 b3 := by
  unfold Agree; rw [lead_bad b0 h]
  refine .inl ⟨.inl rfl, ?_⟩
  unfold decodeN
  repeat' split
  all_goals first | rfl | (exfalso; omega)
theorem lead_2 (b0 : Nat) (h : 194 ≤ b0 ∧ b0 < 224) : leadI b0 = (2, 128, 191) := by
  unfold leadI
  simp only [inB_iff, beq_iff_eq]
  repeat' split
  all_goals first | rfl | (exfalso; omega)
theorem agree_2 (N b0 b1 b2 b3 : Nat) (h : 194 ≤ b0 ∧ b0 < 224) (c1 : b1 < 256) : Agree N b0 b1 b2 b3 := by
  unfold Agree; rw [lead_2 b0 h]
  by_cases g : 1 < N ∧ 128 ≤ b1 ∧ b1 ≤ 191
  · refine .inr ⟨2, by omega, by omega, by omega, rfl, ?_, ?_, ?_⟩
    · unfold bgT; simp only [inB_iff]; rw [if_pos (by omega), if_neg (by omega)]; rfl
    · unfold decodeN; rw [if_neg (by omega), if_pos (by omega), if_pos (by omega)]
    · unfold decodeN; rw [if_neg (by omega), if_pos (by omega), if_pos (by omega)]; simp [numT]
  · refine .inl ⟨.inr ?_, ?_⟩
    · unfold bgT; simp only [inB_iff]; rw [if_neg (by omega)]; simp
    · unfold decodeN; rw [if_neg (by omega), if_neg (by omega), if_neg (by omega), if_neg (by omega)]
theorem agree_3 (N b0 b1 b2 b3 lo hi : Nat) (h : 224 ≤ b0 ∧ b0 < 240) (hl : leadI b0 = (3, (lo : Int), (hi : Int))) (hlo : (lo = if b0 = 224 then 160 else 128)) (hhi : hi = if b0 = 237 then 159 else 191) (c1 : b1 < 256) (c2 : b2 < 256) : Agree N b0 b1 b2 b3 := by
  unfold Agree; rw [hl]
  have hlo' : (b0 = 224 ∧ lo = 160) ∨ (b0 ≠ 224 ∧ lo = 128) := by split at hlo <;> omega
  have hhi' : (b0 = 237 ∧ hi = 159) ∨ (b0 ≠ 237 ∧ hi = 191) := by split at hhi <;> omega
  clear hlo hhi hl
  by_cases g : 1 < N ∧ lo ≤ b1 ∧ b1 ≤ hi ∧ 2 < N ∧ 128 ≤ b2 ∧ b2 ≤ 191
  · refine .inr ⟨3, by omega, by omega, by omega, rfl, ?_, ?_, ?_⟩
    · unfold bgT; simp only [inB_iff]; rw [if_pos (by omega), if_pos (by omega), if_neg (by omega)]; rfl
    · unfold decodeN; rw [if_neg (by omega), if_neg (by omega), if_pos (by omega), if_pos (by omega)]
    · unfold decodeN; rw [if_neg (by omega), if_neg (by omega), if_pos (by omega), if_pos (by omega)]; simp [numT]; omega
  · refine .inl ⟨.inr ?_, ?_⟩
    · unfold bgT; simp only [inB_iff]
      split
      · rw [if_neg (by omega)]; simp
      · simp
    · unfold decodeN; rw [if_neg (by omega), if_neg (by omega)]
      split
      · rw [if_neg (by omega)]
      · rw [if_neg (by omega)]
theorem agree_4 (N b0 b1 b2 b3 lo hi : Nat) (h : 240 ≤ b0 ∧ b0 < 245) (hl : leadI b0 = (4, (lo : Int), (hi : Int))) (hlo : (lo = if b0 = 240 then 144 else 128)) (hhi : hi = if b0 = 244 then 143 else 191) (c1 : b1 < 256) (c2 : b2 < 256) (c3 : b3 < 256) : Agree N b0 b1 b2 b3 := by
  unfold Agree; rw [hl]
  have hlo' : (b0 = 240 ∧ lo = 144) ∨ (b0 ≠ 240 ∧ lo = 128) := by split at hlo <;> omega
  have hhi' : (b0 = 244 ∧ hi = 143) ∨ (b0 ≠ 244 ∧ hi = 191) := by split at hhi <;> omega
  clear hlo hhi hl
  by_cases g : 1 < N ∧ lo ≤ b1 ∧ b1 ≤ hi ∧ 2 < N ∧ 128 ≤ b2 ∧ b2 ≤ 191 ∧ 3 < N ∧ 128 ≤ b3 ∧ b3 ≤ 191
  · refine .inr ⟨4, by omega, by omega, by omega, rfl, ?_, ?_, ?_⟩
    · unfold bgT; simp only [inB_iff]; rw [if_pos (by omega), if_pos (by omega), if_pos (by omega)]; rfl
    · unfold decodeN; rw [if_neg (by omega), if_neg (by omega), if_neg (by omega), if_pos (by omega), if_pos (by omega)]
    · unfold decodeN; rw [if_neg (by omega), if_neg (by omega), if_neg (by omega), if_pos (by omega), if_pos (by omega)]; simp [numT]; omega
  · refine .inl ⟨.inr ?_, ?_⟩
    · unfold bgT; simp only [inB_iff]
      split
      · split
        · rw [if_neg (by omega)]; simp
        · simp
      · simp
    · unfold decodeN; rw [if_neg (by omega), if_neg (by omega), if_neg (by omega)]
      split
      · rw [if_neg (by omega)]
      · rfl
theorem lead_3 (b0 : Nat) (h : 224 ≤ b0 ∧ b0 < 240) : leadI b0 = (3, ((if b0 = 224 then 160 else 128 : Nat) : Int), ((if b0 = 237 then 159 else 191 : Nat) : Int)) := by
  unfold leadI
  simp only [inB_iff, beq_iff_eq]
  repeat' split
  all_goals first | rfl | (exfalso; omega)
theorem lead_4 (b0 : Nat) (h : 240 ≤ b0 ∧ b0 < 245) : leadI b0 = (4, ((if b0 = 240 then 144 else 128 : Nat) : Int), ((if b0 = 244 then 143 else 191 : Nat) : Int)) := by
  unfold leadI
  simp only [inB_iff, beq_iff_eq]
  repeat' split
  all_goals first | rfl | (exfalso; omega)
theorem agree_all (N b0 b1 b2 b3 : Nat) (hN : 1 ≤ N) (c0 : b0 < 256) (c1 : b1 < 256) (c2 : b2 < 256) (c3 : b3 < 256) : Agree N b0 b1 b2 b3 := by
  by_cases h0 : b0 < 128
  · exact agree_0 N b0 b1 b2 b3 hN h0
  by_cases h1 : (128 ≤ b0 ∧ b0 < 194) ∨ 245 ≤ b0
  · exact agree_bad N b0 b1 b2 b3 h1 c0 c1 c2 c3
  by_cases h2 : b0 < 224
  · exact agree_2 N b0 b1 b2 b3 (by omega) c1
  by_cases h3 : b0 < 240
  · exact agree_3 N b0 b1 b2 b3 _ _ (by omega) (lead_3 b0 (by omega)) rfl rfl c1 c2
  · exact agree_4 N b0 b1 b2 b3 _ _ (by omega) (lead_4 b0 (by omega)) rfl rfl c1 c2 c3

def B (s : ByteArray) (i : Nat) : Nat := (s.data.toList.getD i 0).toNat
theorem bAt_B (s : ByteArray) (i : Nat) : bAt s i = (B s i : Int) := rfl
theorem B_lt (s : ByteArray) (i : Nat) : B s i < 256 := by unfold B; have := (s.data.toList.getD i 0).toNat_lt; omega
theorem get_B (s : ByteArray) (i : Nat) : (s.get! i).toNat = B s i := by
  unfold B
  by_cases h : i < s.size
  · have h1 : s.get! i = s[i]'h := by
      show s.data[i]! = s.data[i]
      rw [getElem!_pos s.data i (by exact h)]
    have h2 : s.data.toList.getD i 0 = s[i]'h := by
      have h' : i < s.data.toList.length := by simpa using h
      rw [List.getD_eq_getElem?_getD, List.getElem?_eq_getElem h']; rfl
    rw [h1, h2]
  · have h1 : s.get! i = default := by
      show s.data[i]! = _
      rw [getElem!_neg s.data i (by exact h)]
    have h2 : s.data.toList.getD i 0 = 0 := by
      rw [List.getD_eq_getElem?_getD, List.getElem?_eq_none (by simpa using h)]; rfl
    rw [h1, h2]; rfl
theorem decode_B (s : ByteArray) (i : Nat) : Utf8.decode s i = decodeN (s.size - i) (B s i) (B s (i + 1)) (B s (i + 2)) (B s (i + 3)) := by
  rw [decode_at, get_B, get_B, get_B, get_B]

theorem begunK_bg (s : ByteArray) (i : Nat) (n lo hi : Int) (h4 : n ≤ 4) : (begunK s i n lo hi 4 1 : Int) = bgT (n, lo, hi) (s.size - i) (B s (i + 1)) (B s (i + 2)) (B s (i + 3)) := by
  have e1 : ∀ k : Nat, (i + k < s.size) = (k < s.size - i) := fun k => propext ⟨fun h => by omega, fun h => by omega⟩
  have st : ∀ f k, begunK s i n lo hi (f + 1) k = if (k : Int) < n ∧ k < s.size - i ∧ begunC s i lo hi k = true then begunK s i n lo hi f (k + 1) else k := fun f k => by simp only [← e1]; rfl
  have c1 : begunC s i lo hi 1 = inB (B s (i + 1)) lo hi := rfl
  have c2 : begunC s i lo hi 2 = inB (B s (i + 2)) 128 191 := rfl
  have c3 : begunC s i lo hi 3 = inB (B s (i + 3)) 128 191 := rfl
  unfold bgT
  rw [st 3 1, c1]
  by_cases h1 : (1 : Int) < n ∧ 1 < s.size - i ∧ inB (B s (i + 1)) lo hi = true
  · rw [if_pos (by exact h1), if_pos h1, st 2 2, c2]
    by_cases h2 : (2 : Int) < n ∧ 2 < s.size - i ∧ inB (B s (i + 2)) 128 191 = true
    · rw [if_pos (by exact h2), if_pos h2, st 1 3, c3]
      by_cases h3 : (3 : Int) < n ∧ 3 < s.size - i ∧ inB (B s (i + 3)) 128 191 = true
      · rw [if_pos (by exact h3), if_pos h3, st 0 4, if_neg (by omega)]; rfl
      · rw [if_neg (by exact h3), if_neg h3]; rfl
    · rw [if_neg (by exact h2), if_neg h2]; rfl
  · rw [if_neg (by exact h1), if_neg h1]; rfl

theorem begunI_eq (s : ByteArray) (i : Nat) : begunI s i = if (leadI (B s i)).1 = 0 then ((0 : Int), (0 : Int)) else (bgT (leadI (B s i)) (s.size - i) (B s (i + 1)) (B s (i + 2)) (B s (i + 3)), (leadI (B s i)).1) := by
  unfold begunI
  rw [begunK_bg _ _ _ _ _ (leadI_bd _).2]
  simp [bAt_B]

theorem unit_at (s : ByteArray) (i : Nat) (h : i < s.size) :
    (wideI s i = 0 ∧ Utf8.decode s i = (65533, 1)) ∨
    (∃ w : Nat, 1 ≤ w ∧ w ≤ 4 ∧ i + w ≤ s.size ∧ wideI s i = w ∧ (Utf8.decode s i).2 = w ∧ ((Utf8.decode s i).1 : Int) = numT w (B s i) (B s (i + 1)) (B s (i + 2)) (B s (i + 3))) := by
  have ha := agree_all (s.size - i) (B s i) (B s (i + 1)) (B s (i + 2)) (B s (i + 3)) (by omega) (B_lt _ _) (B_lt _ _) (B_lt _ _) (B_lt _ _)
  unfold Agree at ha
  rw [← decode_B] at ha
  unfold wideI
  rw [begunI_eq]
  rcases ha with ⟨h1, h2⟩ | ⟨w, w1, w4, wN, hl, hb, hd, hn⟩
  · refine .inl ⟨?_, h2⟩
    by_cases hz : (leadI (B s i)).1 = 0
    · rw [if_pos hz]; rfl
    · rw [if_neg hz]
      have hne := h1.resolve_left hz
      simp [hne]
  · refine .inr ⟨w, w1, w4, by omega, ?_, hd, hn⟩
    have hw0 : w ≠ 0 := by omega
    simp [hl, hb, hw0]

theorem bAt_extract (s : ByteArray) (i w j : Nat) (hj : j < w) (hw : i + w ≤ s.size) : bAt (s.extract i (i + w)) j = B s (i + j) := by
  have hz : (s.extract i (i + w)).size = w := by rw [ByteArray.size_extract]; omega
  have h1 := bAt_eq (s.extract i (i + w)) j (by omega)
  have h2 := bAt_eq s (i + j) (by omega)
  rw [h1, ← bAt_B, h2, ByteArray.getElem_extract]
end Go.Proofs.YthhepebkfokddaaGreatDoor

namespace Go.Proofs.YthhepebkfokddaaGreatDoor
open Go Go.RowKit Go.Lib

def decP (s : ByteArray) (a : Int) : Int × Int :=
  if 0 ≤ a ∧ a < s.size then (((Utf8.decode s a.toNat).1 : Int), ((Utf8.decode s a.toNat).2 : Int)) else (65533, 0)
theorem decP_in (s : ByteArray) (i : Nat) (h : i < s.size) : decP s i = (((Utf8.decode s i).1 : Int), ((Utf8.decode s i).2 : Int)) := by
  unfold decP; rw [if_pos (by omega)]; simp
theorem decP_out (s : ByteArray) (a : Int) (h : a < 0 ∨ s.size ≤ a) : decP s a = (65533, 0) := by
  unfold decP; rw [if_neg (by omega)]
theorem B_extract (s : ByteArray) (i n k : Nat) (hn : i + n ≤ s.size) (h : k < n) : B (s.extract i (i + n)) k = B s (i + k) := by
  have := bAt_extract s i n k h hn
  rw [bAt_B] at this
  exact_mod_cast this
theorem B_out (s : ByteArray) (k : Nat) (h : s.size ≤ k) : B s k = 0 := by
  unfold B
  rw [List.getD_eq_getElem?_getD, List.getElem?_eq_none (by simpa using h)]; rfl
theorem B_tail (s : ByteArray) (i k : Nat) (hi : i ≤ s.size) : B (s.extract i s.size) k = B s (i + k) := by
  have hz : (s.extract i s.size).size = s.size - i := by rw [ByteArray.size_extract]; omega
  by_cases h : k < s.size - i
  · have := B_extract s i (s.size - i) k (by omega) h
    rw [show i + (s.size - i) = s.size by omega] at this
    exact this
  · rw [B_out _ _ (by omega), B_out _ _ (by omega)]
theorem decode_tail (s : ByteArray) (i : Nat) (hi : i < s.size) : decodeGo (s.extract i s.size) = Utf8.decode s i := by
  have hz : (s.extract i s.size).size = s.size - i := by rw [ByteArray.size_extract]; omega
  unfold decodeGo
  rw [if_neg (by omega), decode_B, decode_B, hz]
  simp only [B_tail s i _ (by omega), Nat.sub_zero, Nat.zero_add, Nat.add_zero]

theorem tabs_below {w w' : World} {n : Nat} (hT : Utf8Tabs 3 4 w) (hn : 5 ≤ n) (hb : Below n w w') : Utf8Tabs 3 4 w' :=
  ⟨fun c hc => (hb.cell (p := ⟨3, c, none⟩) (by show 3 < n; omega)).trans (hT.1 c hc), fun i hi => ⟨(hb.cell (p := ⟨4, 2 * i, none⟩) (by show 4 < n; omega)).trans (hT.2 i hi).1, (hb.cell (p := ⟨4, 2 * i + 1, none⟩) (by show 4 < n; omega)).trans (hT.2 i hi).2⟩⟩

theorem utfDecode_any (s : ByteArray) (a : Int) (w : World) (hT : Utf8Tabs 3 4 w) (_hs : s.size ≤ 4611686018427387904) :
    Calls Tryz.prog 55 #[.string s, .int .i64 a] w fun e w' => e = .returned (.tuple #[.int .i32 (decP s a).1, .int .i64 (decP s a).2]) ∧ Below w.heap.size w w' := by
  have HT := Lib.hid hT; clear hT
  by_cases hin : 0 ≤ a ∧ a < s.size
  · obtain ⟨i, rfl⟩ := Int.eq_ofNat_of_zero_le hin.1
    have hi : i < s.size := by omega
    have H := Lib.hid (decP_in s i hi)
    generalize decP s i = R at H ⊢
    have HD : Hid (∀ w, Utf8Tabs 3 4 w → Calls Tryz.prog 94 #[.string (s.extract i s.size)] w fun e w' => e = .returned (.tuple #[.int .i32 R.1, .int .i64 R.2]) ∧ Below w.heap.size w w') := Lib.hid fun w hT => by
      have := Tryz.utf8_DecodeRuneInString (s.extract i s.size) w hT
      rw [decode_tail s i hi] at this
      rw [H.out]; exact this
    clear H
    go_enter Tryz.func55, Tryz.ntmps55
    go_wp2_with (go_at_call 94; refine (HD.out _ HT.out).mono ?_; rintro e w' ⟨rfl, hb⟩)
    go_ret2
    exact ⟨rfl, hb⟩
  · have H := Lib.hid (decP_out s a (by omega))
    generalize decP s a = R at H ⊢
    by_cases h0 : a < 0
    · go_enter Tryz.func55, Tryz.ntmps55
      go_wp2
      go_ret2
      rw [H.out]; exact ⟨rfl, Below.refl _ _⟩
    · go_enter Tryz.func55, Tryz.ntmps55
      go_wp2
      go_ret2
      rw [H.out]; exact ⟨rfl, Below.refl _ _⟩
end Go.Proofs.YthhepebkfokddaaGreatDoor
