/- What is the same of any program: worlds that keep all blocks but some; an iterator that hands out a known list; a loop over such an iterator. -/
import Derived.RangeFuncNested
import Derived.RangeFuncLeaves
import Derived.RangeFuncCalls
import Derived.Below
namespace Go.Kt
open Go Go.RowKit

structure Keep (X : Nat → Prop) (A B : World) : Prop where
  os : B.os = A.os
  tape : B.tape = A.tape
  output : B.output = A.output
  size : A.heap.size ≤ B.heap.size
  same : ∀ b, b < A.heap.size → ¬ X b → B.heap[b]? = A.heap[b]?

theorem Keep.refl (X : Nat → Prop) (A : World) : Keep X A A := ⟨rfl, rfl, rfl, Nat.le_refl _, fun _ _ _ => rfl⟩
theorem Keep.trans {X : Nat → Prop} {A B C : World} (h : Keep X A B) (k : Keep X B C) : Keep X A C :=
  ⟨k.os.trans h.os, k.tape.trans h.tape, k.output.trans h.output, Nat.le_trans h.size k.size, fun b hb hX => (k.same b (Nat.lt_of_lt_of_le hb h.size) hX).trans (h.same b hb hX)⟩
theorem Keep.weaken {X Y : Nat → Prop} {A B : World} (h : Keep X A B) (hXY : ∀ b, b < A.heap.size → X b → Y b) : Keep Y A B :=
  ⟨h.os, h.tape, h.output, h.size, fun b hb hY => h.same b hb fun hX => hY (hXY b hb hX)⟩
theorem Keep.of_below {X : Nat → Prop} {n : Nat} {A B : World} (h : Below n A B) (hX : ∀ b, b < A.heap.size → n ≤ b → X b) : Keep X A B :=
  ⟨h.os, h.tape, h.output, h.size, fun b hb hnX => h.block b (by
    rcases Nat.lt_or_ge b n with h' | h'
    · exact h'
    · exact absurd (hX b hb h') hnX)⟩
theorem Keep.of_all {X : Nat → Prop} {A B : World} (h : Below A.heap.size A B) : Keep X A B := .of_below h (fun b h1 h2 => absurd h1 (by omega))
theorem Keep.below {X : Nat → Prop} {n : Nat} {A B : World} (h : Keep X A B) (hn : n ≤ A.heap.size) (hX : ∀ b, X b → n ≤ b) : Below n A B :=
  ⟨h.os, h.tape, h.output, h.size, fun b hb => h.same b (by omega) fun hx => absurd (hX b hx) (by omega)⟩
theorem Keep.alloc {X : Nat → Prop} {A B : World} (h : Keep X A B) (o : Obj) : Keep X A (B.alloc o) :=
  h.trans (.of_all ((Below.refl _ B).alloc (Nat.le_refl _) o))
theorem Keep.drew {X : Nat → Prop} {A B : World} (h : Keep X A B) : Keep X A B.drew := h.trans ⟨rfl, rfl, rfl, Nat.le_refl _, fun _ _ _ => rfl⟩
theorem Keep.setCell {X : Nat → Prop} {A B : World} (h : Keep X A B) {p : Addr} (hp : X p.block) (u : Value) : Keep X A (B.setCell p u) :=
  h.trans ⟨rfl, rfl, rfl, by simp, fun b _ hb => Below.heap_setCell B p u b (fun e => hb (e ▸ hp))⟩
theorem Keep.then {X : Nat → Prop} {A B C : World} (h : Keep X A B) (k : Below A.heap.size B C) : Keep X A C :=
  ⟨k.os.trans h.os, k.tape.trans h.tape, k.output.trans h.output, Nat.le_trans h.size k.size, fun b hb hX => (k.block b hb).trans (h.same b hb hX)⟩
theorem Keep.putObj {X : Nat → Prop} {A B : World} (h : Keep X A B) {l : Nat} (hl : X l ∨ A.heap.size ≤ l) (o : Obj) : Keep X A (B.putObj l o) :=
  ⟨h.os, h.tape, h.output, by simpa using h.size, fun b hb hX => (World.putObj_heap_other (fun e => by subst e; rcases hl with hl | hl; exact hX hl; omega)).trans (h.same b hb hX)⟩
theorem Keep.heap {X : Nat → Prop} {A B : World} (h : Keep X A B) {b : Nat} {o : Obj} (hb : A.heap[b]? = some o) (hX : ¬ X b) : B.heap[b]? = some o :=
  (h.same b (Array.getElem?_eq_some_iff.1 hb).1 hX).trans hb
theorem lt_of_cell {A : World} {p : Addr} {v : Value} (h : A.cell? p = some v) : p.block < A.heap.size := by
  rcases Nat.lt_or_ge p.block A.heap.size with h' | h'
  · exact h'
  · have : A.heap[p.block]? = none := Array.getElem?_eq_none h'
    simp [World.cell?, this] at h
theorem Keep.cell {X : Nat → Prop} {A B : World} (h : Keep X A B) {p : Addr} {v : Value} (hc : A.cell? p = some v) (hX : ¬ X p.block) : B.cell? p = some v :=
  (World.cell?_of_block (w := A) (h.same p.block (lt_of_cell hc) hX)).trans hc
theorem Keep.frozen {X : Nat → Prop} {A B : World} (h : Keep X A B) {p : Addr} (hp : p.block < A.heap.size) (hX : ¬ X p.block) : B.frozen? p = A.frozen? p :=
  World.frozen?_of_block (w := A) (h.same p.block hp hX)
theorem below_putObj {n : Nat} {B : World} {l : Nat} (hl : n ≤ l) (o : Obj) : Below n B (B.putObj l o) :=
  ⟨rfl, rfl, rfl, by simp, fun _ hk => World.putObj_heap_other (by omega)⟩

def Low {β : Type} (B : Nat) (J : β → (Nat → Prop) → World → Prop) : Prop := ∀ s Y W W', Keep (fun b => B ≤ b ∧ ¬ Y b) W W' → J s Y W → J s Y W'
def Iter {α : Type} (P : Program) (gf : Nat) (lb : Array Value) (encs : α → Array Value) (L : List α) (Nd : Nat → Prop) (w0 : World) : Prop :=
  ∀ (l : Nat) (X : Nat → Prop) (J Jx : List α → (Nat → Prop) → World → Prop) (W : World),
    (∀ b, Nd b → ¬ X b) → (∀ b, X b → b < W.heap.size) → (∀ b, Nd b → W.heap[b]? = w0.heap[b]?) → w0.heap.size ≤ W.heap.size →
    Low W.heap.size J → Low W.heap.size Jx →
    (∀ pre x Y W1, pre ++ [x] <+: L → J pre Y W1 → W.heap.size ≤ W1.heap.size → (∀ b, Y b → W.heap.size ≤ b) → YieldAt Fence.wide 0 P l (encs x) W1 fun e W' =>
      ∃ Y', Keep (fun b => X b ∨ Y b) W1 W' ∧ (∀ b, Y' b → Y b ∨ W1.heap.size ≤ b) ∧ ((e = .returned (.bool true) ∧ J (pre ++ [x]) Y' W') ∨ (e = .returned (.bool false) ∧ Jx (pre ++ [x]) Y' W'))) →
    J [] (fun _ => False) W →
    Calls P gf (#[.func (.yield l) #[] #[]] ++ lb) W fun e W' => (∃ v, e = .returned v) ∧ Keep X W W' ∧ ((∃ Y, (∀ b, Y b → W.heap.size ≤ b) ∧ J L Y W') ∨ ∃ pre Y, pre <+: L ∧ (∀ b, Y b → W.heap.size ≤ b) ∧ Jx pre Y W')

def Left {α : Type} (X Y : Nat → Prop) (I : List α → (Nat → Prop) → World → Prop) (xs : List α) (W W' : World) : Prop :=
  ∃ Y', Keep (fun b => X b ∨ Y b) W W' ∧ (∀ b, Y' b → Y b ∨ W.heap.size ≤ b) ∧ I xs Y' W'
def roundEnd {α : Type} (X Y : Nat → Prop) (I : List α → (Nat → Prop) → World → Prop) (Ix : Code → List α → (Nat → Prop) → World → Prop) (xs : List α) (W : World) : Exit → Act → World → Prop
  | .normal, _, W' => Left X Y I xs W W'
  | .ret, _, W' => Left X Y (Ix .ret) xs W W'
  | .exit id, _, W' => Left X Y (Ix (.exit id)) xs W W'
  | .goto t, _, W' => Left X Y (Ix (.goto t)) xs W W'
  | .panic _, _, _ => False
  | .outgrown, _, _ => False

variable {P : Program}

def Round {α : Type} (P : Program) (ps : Array Tmp) (assign body : Code) (tmps : Array Value) (encs : α → Array Value) (L : List α) (X : Nat → Prop) (I : List α → (Nat → Prop) → World → Prop) (Ix : Code → List α → (Nat → Prop) → World → Prop) (w : World) (l : Nat) : Prop :=
  ∀ (pre : List α) (x : α) (Y : Nat → Prop) (W : World), pre ++ [x] <+: L → I pre Y W → Keep X w W → (∀ b, Y b → w.heap.size ≤ b ∧ b ≠ l) → l < W.heap.size → (∃ r, W.heap[l]? = some (.loop r)) →
    assign.wpIn (Fence.wide.inRound l) 0 P (Exit.then (fun a₁ w₁ => Keep (fun _ => False) W w₁ ∧
        (∀ W2, Keep (fun b => b = l) w₁ W2 → Keep X w W2 → I pre Y W2 → (∃ r, W2.heap[l]? = some (.loop r)) → body.wpIn (Fence.wide.inRound l) 0 P (roundEnd X Y I Ix (pre ++ [x]) W2) a₁ W2)) (fun _ _ _ => False))
      { tmps := (ps.zip (encs x)).foldl (fun t (p, v) => t.setIfInBounds p v) tmps, defers := [] } W

theorem loop_core {α : Type} {F : Fence} {ps : Array Tmp} {assign body : Code} {Q : Exit → Act → World → Prop} {a a' : Act} {w W1 : World}
    {gf : Nat} {lb : Array Value} {encs : α → Array Value} {L : List α} {Nd X : Nat → Prop} {w0 : World} (hit : Iter P gf lb encs L Nd w0)
    (hps : ∀ x, (encs x).size = ps.size) (l : Nat) (rec : LoopState → Option Code → Loop) (fn : FuncId) (D : Nat)
    (hrec : ∀ st pe, rec st pe = { state := st, pending := pe, fn, tmps := a.tmps, params := ps, assign, body, defers := D })
    (hX : ∀ b, X b → b < w.heap.size) (hNd : ∀ b, Nd b → ¬ X b ∧ b < w.heap.size) (hNdw : ∀ b, Nd b → w.heap[b]? = w0.heap[b]?) (hw0 : w0.heap.size ≤ w.heap.size)
    (hl : w.heap.size ≤ l) (hL1 : W1.heap[l]? = some (.loop (rec .ready none))) (hbw : Below w.heap.size w W1)
    (I : List α → (Nat → Prop) → World → Prop) (Ix : Code → List α → (Nat → Prop) → World → Prop) (hI : Low w.heap.size I) (hIx : ∀ c, Low w.heap.size (Ix c)) (h0 : I [] (fun _ => False) w)
    (hround : Round P ps assign body a.tmps encs L X I Ix w l)
    (hdone : ∀ Y W, I L Y W → (∀ b, Y b → W1.heap.size ≤ b) → Keep X w W → Keep (fun b => X b ∨ b = l) W1 W → Q .normal a' W)
    (hstop : ∀ c pre Y W, pre <+: L → Ix c pre Y W → (∀ b, Y b → W1.heap.size ≤ b) → Keep X w W → Keep (fun b => X b ∨ b = l) W1 W → c.wpIn F 0 P Q a' W) :
    Calls P gf (#[.func (.yield l) #[] #[]] ++ lb) W1 (rangePost F 0 P l Q a') := by
  have hlt1 : l < W1.heap.size := (Array.getElem?_eq_some_iff.1 hL1).1
  have hB1 : w.heap.size ≤ W1.heap.size := hbw.size
  have hkw : Keep X w W1 := .of_all hbw
  -- a step that touches nothing below W1's heap's end but what is not of Y
  have low1 : ∀ {Y : Nat → Prop} {A B : World}, Keep (fun b => W1.heap.size ≤ b ∧ ¬ Y b) A B → Keep (fun b => w.heap.size ≤ b ∧ ¬ Y b) A B := fun h => h.weaken fun _ _ hb => ⟨Nat.le_trans hB1 hb.1, hb.2⟩
  have lowX : ∀ {Y : Nat → Prop} {A B : World}, Keep (fun b => W1.heap.size ≤ b ∧ ¬ Y b) A B → Keep X w A → Keep X w B := fun h k =>
    ⟨h.os.trans k.os, h.tape.trans k.tape, h.output.trans k.output, Nat.le_trans k.size h.size, fun b hb hx => (h.same b (Nat.lt_of_lt_of_le hb k.size) (fun hy => by have := hy.1; omega)).trans (k.same b hb hx)⟩
  have lowl : ∀ {Y : Nat → Prop} {A B : World} {o : Obj}, Keep (fun b => W1.heap.size ≤ b ∧ ¬ Y b) A B → A.heap[l]? = some o → B.heap[l]? = some o := fun h ho => h.heap ho (fun hy => by have := hy.1; omega)
  -- the law's own turn of its record
  have turn : ∀ {Y : Nat → Prop} (W : World) (o : Obj), (∀ b, Y b → W1.heap.size ≤ b) → Keep (fun b => w.heap.size ≤ b ∧ ¬ Y b) W (W.putObj l o) := fun W o hY => (Keep.refl _ W).putObj (.inl ⟨hl, fun hy => by have := hY l hy; omega⟩) o
  refine (hit l (fun b => X b ∨ b = l) (fun pre Y W => (∀ b, Y b → W1.heap.size ≤ b) ∧ I pre Y W ∧ Keep X w W ∧ W.heap[l]? = some (.loop (rec .ready none)))
    (fun pre Y W => (∀ b, Y b → W1.heap.size ≤ b) ∧ ∃ c, Ix c pre Y W ∧ Keep X w W ∧ W.heap[l]? = some (.loop (rec .done (some c)))) W1
    (fun b hb => by have := hNd b hb; rintro (h | h); exact this.1 h; omega)
    (fun b hb => by rcases hb with hb | hb; have := hX b hb; omega; omega)
    (fun b hb => (hkw.same b (hNd b hb).2 (hNd b hb).1).trans (hNdw b hb)) (by omega)
    (fun s Y A B hb ⟨hY, h1, h2, h3⟩ => ⟨hY, hI s Y A B (low1 hb) h1, lowX hb h2, lowl hb h3⟩)
    (fun s Y A B hb ⟨hY, c, h1, h2, h3⟩ => ⟨hY, c, hIx c s Y A B (low1 hb) h1, lowX hb h2, lowl hb h3⟩)
    ?_ ⟨fun _ h => h.elim, hI _ _ _ _ (.of_all hbw) h0, hkw, hL1⟩).mono ?_
  · rintro pre x Y W hpre ⟨hY, hi, hk, hl3⟩ hsz _
    have hlt : l < W.heap.size := (Array.getElem?_eq_some_iff.1 hl3).1
    have hYl : ∀ b, Y b → w.heap.size ≤ b ∧ b ≠ l := fun b hb => by have := hY b hb; omega
    have hy := run_yield (P := P) (args := encs x) hl3 (by rw [hrec]; exact hps x)
    rw [hrec] at hy
    refine ⟨fn, _, assign, body, hy, roundIn_of_wpIn trivial (wpIn_mono (hround pre x Y W hpre hi hk hYl hlt ⟨_, hl3⟩) ?_)⟩
    intro e a₁ w₁ h
    cases e with
    | normal =>
      obtain ⟨hk1, hb1⟩ := h
      have hl4 : w₁.heap[l]? = some (.loop (rec .ready none)) := hk1.heap hl3 (fun hx => hx)
      refine ⟨_, run_beginRound hl4 (by rw [hrec]), ?_⟩
      have hlt4 : l < w₁.heap.size := (Array.getElem?_eq_some_iff.1 hl4).1
      have hi1 : I pre Y w₁ := hI _ _ _ _ (hk1.weaken (fun _ _ h => h.elim)) hi
      have hi2 := hI _ _ _ _ (turn (Y := Y) w₁ (.loop { rec .ready none with state := .busy }) hY) hi1
      have hkw1 : Keep X w (w₁.putObj l (.loop { rec .ready none with state := .busy })) := (hk.trans (hk1.weaken fun _ _ h => h.elim)).putObj (.inr hl) _
      have hl5 : (w₁.putObj l (.loop { rec .ready none with state := .busy })).heap[l]? = some (.loop { rec .ready none with state := .busy }) := World.putObj_heap_same hlt4
      refine wpIn_mono (hb1 _ ((Keep.refl (fun b => b = l) w₁).putObj (.inl rfl) _) hkw1 hi2 ⟨_, hl5⟩) ?_
      have hX2 : Keep (fun b => (X b ∨ b = l) ∨ Y b) W (w₁.putObj l (.loop { rec .ready none with state := .busy })) := (hk1.weaken (fun _ _ h => h.elim)).putObj (.inl (.inl (.inr rfl))) _
      have hsz2 : W.heap.size ≤ (w₁.putObj l (.loop { rec .ready none with state := .busy })).heap.size := hX2.size
      have fin : ∀ (jump : Option Code) (W3 : World) (I' : List α → (Nat → Prop) → World → Prop), Low w.heap.size I' → Left X Y I' (pre ++ [x]) (w₁.putObj l (.loop { rec .ready none with state := .busy })) W3 →
          (Instr.endRound l jump).run P W3 = .ok (.bool jump.isNone) (W3.putObj l (.loop (rec (if jump.isNone then .ready else .done) jump))) ∧
          (W3.putObj l (.loop (rec (if jump.isNone then .ready else .done) jump))).heap[l]? = some (.loop (rec (if jump.isNone then .ready else .done) jump)) ∧
          ∃ Y', (∀ b, Y' b → W1.heap.size ≤ b) ∧ (∀ b, Y' b → Y b ∨ W.heap.size ≤ b) ∧ I' (pre ++ [x]) Y' (W3.putObj l (.loop (rec (if jump.isNone then .ready else .done) jump))) ∧
          Keep X w (W3.putObj l (.loop (rec (if jump.isNone then .ready else .done) jump))) ∧
          Keep (fun b => (X b ∨ b = l) ∨ Y b) W (W3.putObj l (.loop (rec (if jump.isNone then .ready else .done) jump))) := fun jump W3 I' hI' ⟨Y', hk3, hY', hi3⟩ => by
        have hl6 := hk3.heap hl5 (fun hx => by rcases hx with hx | hx; have := hX l hx; omega; have := hY l hx; omega)
        have hr := run_endRound (P := P) jump hl6
        have er : ({ ({ rec .ready none with state := .busy } : Loop) with state := if jump.isNone then .ready else .done, pending := jump } : Loop) = rec (if jump.isNone then .ready else .done) jump := by
          rw [hrec, hrec]
        rw [er] at hr
        have hY1 : ∀ b, Y' b → W1.heap.size ≤ b := fun b hb => by rcases hY' b hb with h | h; exact hY b h; omega
        refine ⟨hr, World.putObj_heap_same (Array.getElem?_eq_some_iff.1 hl6).1, Y', hY1, fun b hb => by rcases hY' b hb with h | h; exact .inl h; exact .inr (by omega), hI' _ _ _ _ (turn W3 _ hY1) hi3, ?_, ?_⟩
        · refine Keep.putObj ?_ (.inr hl) _
          exact ⟨hk3.os.trans hkw1.os, hk3.tape.trans hkw1.tape, hk3.output.trans hkw1.output, Nat.le_trans hkw1.size hk3.size, fun b hb hx => (hk3.same b (Nat.lt_of_lt_of_le hb hkw1.size) (fun h => by rcases h with h | h; exact hx h; have := hY b h; omega)).trans (hkw1.same b hb hx)⟩
        · exact (hX2.trans (hk3.weaken (fun _ _ h => by rcases h with h | h; exact .inl (.inl h); exact .inr h))).putObj (.inl (.inl (.inr rfl))) _
      rintro e a3 W3 hp
      cases e with
      | normal =>
        obtain ⟨hr, hl7, Y', q1, q2, q3, q4, q5⟩ := fin none W3 I hI hp
        exact ⟨_, _, hr, Y', q5, q2, .inl ⟨rfl, q1, q3, q4, hl7⟩⟩
      | ret =>
        obtain ⟨hr, hl7, Y', q1, q2, q3, q4, q5⟩ := fin (some .ret) W3 _ (hIx _) hp
        exact ⟨_, _, hr, Y', q5, q2, .inr ⟨rfl, q1, .ret, q3, q4, hl7⟩⟩
      | exit id =>
        obtain ⟨hr, hl7, Y', q1, q2, q3, q4, q5⟩ := fin (some (.exit id)) W3 _ (hIx _) hp
        exact ⟨_, _, hr, Y', q5, q2, .inr ⟨rfl, q1, .exit id, q3, q4, hl7⟩⟩
      | goto t =>
        obtain ⟨hr, hl7, Y', q1, q2, q3, q4, q5⟩ := fin (some (.goto t)) W3 _ (hIx _) hp
        exact ⟨_, _, hr, Y', q5, q2, .inr ⟨rfl, q1, .goto t, q3, q4, hl7⟩⟩
      | panic ch => exact hp.elim
      | outgrown => exact hp.elim
    | ret => exact h.elim
    | exit id => exact h.elim
    | goto t => exact h.elim
    | panic ch => exact h.elim
    | outgrown => exact h.elim
  · rintro e W2 ⟨⟨v, rfl⟩, hk2, (⟨Y, _, hY, hi, hk, hl2⟩ | ⟨pre, Y, hpre, _, hY, c, hi, hk, hl2⟩)⟩
    · have hr := run_endLoop (P := P) hl2 (by rw [hrec]; simp)
      have e1 : (rec .ready none).pending = none := by rw [hrec]
      rw [e1] at hr
      exact ⟨none, _, hr, hdone Y _ (hI _ _ _ _ (turn W2 _ hY) hi) hY (hk.putObj (.inr hl) _) (hk2.putObj (.inl (.inr rfl)) _)⟩
    · have hr := run_endLoop (P := P) hl2 (by rw [hrec]; simp)
      have e1 : (rec .done (some c)).pending = some c := by rw [hrec]
      rw [e1] at hr
      exact ⟨some c, _, hr, hstop c pre Y _ hpre (hIx c _ _ _ _ (turn W2 _ hY) hi) hY (hk.putObj (.inr hl) _) (hk2.putObj (.inl (.inr rfl)) _)⟩

theorem loop_out {α : Type} {g : Operand} {ps : Array Tmp} {assign body : Code} {Q : Exit → Act → World → Prop} {a : Act} {w : World}
    {gf : Nat} {lb : Array Value} (hg : a.eval g = .func (.func gf) #[] lb) (eg : ∀ args w, (callFunc gf args).run P w = .ok (.enter gf args) w)
    {encs : α → Array Value} {L : List α} {Nd X : Nat → Prop} {w0 : World} (hit : Iter P gf lb encs L Nd w0) (hps : ∀ x, (encs x).size = ps.size)
    (hX : ∀ b, X b → b < w.heap.size) (hNd : ∀ b, Nd b → ¬ X b ∧ b < w.heap.size) (hNdw : ∀ b, Nd b → w.heap[b]? = w0.heap[b]?) (hw0 : w0.heap.size ≤ w.heap.size)
    (I : List α → (Nat → Prop) → World → Prop) (Ix : Code → List α → (Nat → Prop) → World → Prop) (hI : Low w.heap.size I) (hIx : ∀ c, Low w.heap.size (Ix c)) (h0 : I [] (fun _ => False) w)
    (hround : ∀ l, w.heap.size ≤ l → Round P ps assign body a.tmps encs L X I Ix w l)
    (hdone : ∀ D Y W, w.heap.size ≤ D → W.heap[D]? = some (.deferred (some [])) → I L Y W → (∀ b, Y b → w.heap.size ≤ b ∧ b ≠ D) → Keep X w W → Q .normal { a with defers := { target := .collected D, args := #[] } :: a.defers } W)
    (hstop : ∀ D c pre Y W, w.heap.size ≤ D → W.heap[D]? = some (.deferred (some [])) → pre <+: L → Ix c pre Y W → (∀ b, Y b → w.heap.size ≤ b ∧ b ≠ D) → Keep X w W → c.wpIn Fence.wide 0 P Q { a with defers := { target := .collected D, args := #[] } :: a.defers } W) :
    (Code.rangeFunc g ps assign body).wpIn Fence.wide 0 P Q a w := by
  refine wpIn_rangeFunc ?_
  intro fn _
  obtain ⟨rec, hrec⟩ : ∃ rec : LoopState → Option Code → Loop, rec = fun st pe => { state := st, pending := pe, fn, tmps := a.tmps, params := ps, assign, body, defers := w.heap.size } := ⟨_, rfl⟩
  obtain ⟨W1, hW1⟩ : ∃ W1, (w.alloc (.deferred (some []))).alloc (.loop (rec .ready none)) = W1 := ⟨_, rfl⟩
  have hL1 : W1.heap[w.heap.size + 1]? = some (.loop (rec .ready none)) := by
    rw [← hW1]; have := World.alloc_heap_new (w.alloc (.deferred (some []))) (.loop (rec .ready none)); rwa [World.size_alloc] at this
  have hD1 : W1.heap[w.heap.size]? = some (.deferred (some [])) := by
    rw [← hW1]; exact (Below.heap_alloc _ _ _ (by simp)).trans (World.alloc_heap_new w _)
  have hbw : Below w.heap.size w W1 := by
    rw [← hW1]; exact ((Below.refl _ w).alloc (Nat.le_refl _) _).alloc (by simp) _
  have hltD : w.heap.size < W1.heap.size := (Array.getElem?_eq_some_iff.1 hD1).1
  have hD : ∀ W, Keep (fun b => X b ∨ b = w.heap.size + 1) W1 W → W.heap[w.heap.size]? = some (.deferred (some [])) := fun W hk =>
    hk.heap hD1 (fun h => by rcases h with h | h; have := hX _ h; omega; omega)
  refine ⟨w.heap.size + 1, [{ target := .collected w.heap.size, args := #[] }], W1, { target := .fn (.func gf) lb, args := #[.func (.yield (w.heap.size + 1)) #[] #[]] }, W1, gf,
    #[.func (.yield (w.heap.size + 1)) #[] #[]] ++ lb, W1, ?_, ?_, ?_, ?_, (fun h => by cases h), ?_⟩
  · rw [← hW1, hrec]; exact run_enterLoop_outer _ _ _ _ _
  · simp only [resolve, hg]
    simp [go_sem]
  · intro _ _; trivial
  · simp [invoke, go_sem, eg]
  · exact callsIn_wide.2 (loop_core hit hps (w.heap.size + 1) rec fn w.heap.size (by intro st pe; rw [hrec]) hX hNd hNdw hw0 (by omega) hL1 hbw I Ix hI hIx h0
      (hround _ (by omega))
      (fun Y W hi hY hk hk1 => hdone _ Y W (Nat.le_refl _) (hD W hk1) hi (fun b hb => by have := hY b hb; omega) hk)
      (fun c pre Y W hp hi hY hk hk1 => hstop _ c pre Y W (Nat.le_refl _) (hD W hk1) hp hi (fun b hb => by have := hY b hb; omega) hk))

theorem leaves_marks {fn : Func} {tmps : Array Value} {R : Ending → World → Prop} {W : World} {Ds : List Nat} (hnd : Ds.Nodup) (hD : ∀ D, D ∈ Ds → W.heap[D]? = some (.deferred (some [])))
    (h : ∀ W', Keep (fun b => b ∈ Ds) W W' → ∃ v, (results fn tmps).run P W' = .ok v W' ∧ R (.returned v) W') :
    LeavesInM Fence.wide 0 P fn tmps R (Ds.map fun D => { target := .collected D, args := #[] }) .returning W := by
  induction Ds generalizing W with
  | nil => exact h W (Keep.refl _ _)
  | cons D Ds ih =>
    have h1 := hD D (List.mem_cons_self ..)
    obtain ⟨hn1, hn2⟩ := List.nodup_cons.1 hnd
    refine ⟨by simp, .inl ⟨D, _, rfl, run_takeDeferred h1, ih hn2 (fun D' hD' => ?_) (fun W' hk => h W' ?_)⟩⟩
    · exact (World.putObj_heap_other (fun e : D' = D => hn1 (e ▸ hD'))).trans (hD D' (List.mem_cons_of_mem _ hD'))
    · exact ((Keep.refl (fun b => b ∈ D :: Ds) W).putObj (.inl (List.mem_cons_self ..)) _).trans (hk.weaken (fun _ _ hb => List.mem_cons_of_mem _ hb))
end Go.Kt
