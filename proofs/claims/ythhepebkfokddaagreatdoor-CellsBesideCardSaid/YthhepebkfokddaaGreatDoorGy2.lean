/- Parts of the proof of what the last text says. -/
import Derived.Test.YthhepebkfokddaaGreatDoorGy1
import Derived.Lib.Walk
import Derived.Laws.OwnMore
import Derived.Shelf.LaysM
import Derived.Shelf.LaysC
import Derived.Shelf.Small.Wraps
import Derived.Shelf.Strconv.ToError
import Derived.Shelf.Strconv.ToErrorRange
import Derived.Shelf.Strconv.Lower
import Derived.Shelf.Strings.Search2
import Derived.Shelf.Strings.Prefix
import Derived.Test.YthhepebkfokddaaGreatDoorProg
import Derived.WalkKit
import Derived.WalkLawsBesides
import Derived.WalkSpells
import Derived.Lib.Hide
import Derived.Lib.AtoiErrMem
import Derived.Laws.Strings3
import Derived.Laws.Closers25
import Derived.Laws.Closers25b
import Derived.BigCall
import Derived.BigGuard
/- What is the same of any program: an iterator that lays memory of its own between rounds, and the loop over it. -/
namespace Go.Kt
open Go Go.RowKit
variable {P : Program}

def Slim {β : Type} (J : β → (Nat → Prop) → World → Prop) : Prop := ∀ s Y W, J s Y W → J s (fun b => Y b ∧ b < W.heap.size) W
def Iter2 {α : Type} (P : Program) (gf : Nat) (lb : Array Value) (encs : α → Array Value) (L : List α) (Nd : Nat → Prop) (w0 : World) : Prop :=
  ∀ (l : Nat) (X : Nat → Prop) (J Jx : List α → (Nat → Prop) → World → Prop) (W : World),
    (∀ b, Nd b → ¬ X b) → (∀ b, X b → b < W.heap.size) → (∀ b, Nd b → W.heap[b]? = w0.heap[b]?) → w0.heap.size ≤ W.heap.size →
    Low W.heap.size J → Low W.heap.size Jx → Slim J →
    (∀ pre x Y W1, pre ++ [x] <+: L → J pre Y W1 → W.heap.size ≤ W1.heap.size → (∀ b, Y b → W.heap.size ≤ b) → YieldAt Fence.wide 0 P l (encs x) W1 fun e W' =>
      ∃ Y', Keep (fun b => X b ∨ Y b) W1 W' ∧ (∀ b, Y' b → Y b ∨ W1.heap.size ≤ b) ∧ ((e = .returned (.bool true) ∧ J (pre ++ [x]) Y' W') ∨ (e = .returned (.bool false) ∧ Jx (pre ++ [x]) Y' W'))) →
    J [] (fun _ => False) W →
    Calls P gf (#[.func (.yield l) #[] #[]] ++ lb) W fun e W' => (∃ v, e = .returned v) ∧ Keep X W W' ∧ ((∃ Y, (∀ b, Y b → W.heap.size ≤ b) ∧ J L Y W') ∨ ∃ pre Y, pre <+: L ∧ (∀ b, Y b → W.heap.size ≤ b) ∧ Jx pre Y W')

theorem loop_core2 {α : Type} {F : Fence} {ps : Array Tmp} {assign body : Code} {Q : Exit → Act → World → Prop} {a a' : Act} {w W1 : World}
    {gf : Nat} {lb : Array Value} {encs : α → Array Value} {L : List α} {Nd X : Nat → Prop} {w0 : World} (hit : Iter2 P gf lb encs L Nd w0)
    (hps : ∀ x, (encs x).size = ps.size) (l : Nat) (rec : LoopState → Option Code → Loop) (fn : FuncId) (D : Nat)
    (hrec : ∀ st pe, rec st pe = { state := st, pending := pe, fn, tmps := a.tmps, params := ps, assign, body, defers := D })
    (hX : ∀ b, X b → b < w.heap.size) (hNd : ∀ b, Nd b → ¬ X b ∧ b < w.heap.size) (hNdw : ∀ b, Nd b → w.heap[b]? = w0.heap[b]?) (hw0 : w0.heap.size ≤ w.heap.size)
    (hl : w.heap.size ≤ l) (hL1 : W1.heap[l]? = some (.loop (rec .ready none))) (hbw : Below w.heap.size w W1)
    (I : List α → (Nat → Prop) → World → Prop) (Ix : Code → List α → (Nat → Prop) → World → Prop) (hI : Low w.heap.size I) (hSI : Slim I) (hIx : ∀ c, Low w.heap.size (Ix c)) (h0 : I [] (fun _ => False) w)
    (hround : Round P ps assign body a.tmps encs L X I Ix w l)
    (hdone : ∀ Y W, I L Y W → (∀ b, Y b → W1.heap.size ≤ b) → Keep X w W → Keep (fun b => X b ∨ b = l) W1 W → Q .normal a' W)
    (hstop : ∀ c pre Y W, pre <+: L → Ix c pre Y W → (∀ b, Y b → W1.heap.size ≤ b) → Keep X w W → Keep (fun b => X b ∨ b = l) W1 W → c.wpIn F 0 P Q a' W) :
    Calls P gf (#[.func (.yield l) #[] #[]] ++ lb) W1 (rangePost F 0 P l Q a') := by
  have hlt1 : l < W1.heap.size := (Array.getElem?_eq_some_iff.1 hL1).1
  have hB1 : w.heap.size ≤ W1.heap.size := hbw.size
  have hkw : Keep X w W1 := .of_all hbw
  -- a step that touches nothing below W1's heap's end but what is not of Y
  have low1 : ∀ {Y : Nat → Prop} {A B : World}, Keep (fun b => W1.heap.size ≤ b ∧ ¬ Y b) A B → Keep (fun b => w.heap.size ≤ b ∧ ¬ Y b) A B := fun h => h.weaken fun _ _ hb => ⟨Nat.le_trans hB1 hb.1, hb.2⟩
  have lowX : ∀ {Y : Nat → Prop} {A B : World}, Keep (fun b => W1.heap.size ≤ b ∧ ¬ Y b) A B → Keep X w A → Keep X w B := fun h k =>
    ⟨h.os.trans k.os, h.tape.trans k.tape, h.output.trans k.output, Nat.le_trans k.size h.size, fun b hb hx => (h.same b (Nat.lt_of_lt_of_le hb k.size) (fun hy => by have := hy.1; omega)).trans (k.same b hb hx)⟩
  have lowl : ∀ {Y : Nat → Prop} {A B : World} {o : Obj}, Keep (fun b => W1.heap.size ≤ b ∧ ¬ Y b) A B → A.heap[l]? = some o → B.heap[l]? = some o := fun h ho => h.heap ho (fun hy => by have := hy.1; omega)
  -- the law's own turn of its record
  have turn : ∀ {Y : Nat → Prop} (W : World) (o : Obj), (∀ b, Y b → W1.heap.size ≤ b) → Keep (fun b => w.heap.size ≤ b ∧ ¬ Y b) W (W.putObj l o) := fun W o hY => (Keep.refl _ W).putObj (.inl ⟨hl, fun hy => by have := hY l hy; omega⟩) o
  refine (hit l (fun b => X b ∨ b = l) (fun pre Y W => (∀ b, Y b → W1.heap.size ≤ b) ∧ I pre Y W ∧ Keep X w W ∧ W.heap[l]? = some (.loop (rec .ready none)))
    (fun pre Y W => (∀ b, Y b → W1.heap.size ≤ b) ∧ ∃ c, Ix c pre Y W ∧ Keep X w W ∧ W.heap[l]? = some (.loop (rec .done (some c)))) W1
    (fun b hb => by have := hNd b hb; rintro (h | h); exact this.1 h; omega)
    (fun b hb => by rcases hb with hb | hb; have := hX b hb; omega; omega)
    (fun b hb => (hkw.same b (hNd b hb).2 (hNd b hb).1).trans (hNdw b hb)) (by omega)
    (fun s Y A B hb ⟨hY, h1, h2, h3⟩ => ⟨hY, hI s Y A B (low1 hb) h1, lowX hb h2, lowl hb h3⟩)
    (fun s Y A B hb ⟨hY, c, h1, h2, h3⟩ => ⟨hY, c, hIx c s Y A B (low1 hb) h1, lowX hb h2, lowl hb h3⟩)
    (fun s Y A ⟨hY, h1, h2, h3⟩ => ⟨fun b hb => hY b hb.1, hSI s Y A h1, h2, h3⟩)
    ?_ ⟨fun _ h => h.elim, hI _ _ _ _ (.of_all hbw) h0, hkw, hL1⟩).mono ?_
  · rintro pre x Y W hpre ⟨hY, hi, hk, hl3⟩ hsz _
    have hlt : l < W.heap.size := (Array.getElem?_eq_some_iff.1 hl3).1
    have hYl : ∀ b, Y b → w.heap.size ≤ b ∧ b ≠ l := fun b hb => by have := hY b hb; omega
    have hy := run_yield (P := P) (args := encs x) hl3 (by rw [hrec]; exact hps x)
    rw [hrec] at hy
    refine ⟨fn, _, assign, body, hy, roundIn_of_wpIn trivial (wpIn_mono (hround pre x Y W hpre hi hk hYl hlt ⟨_, hl3⟩) ?_)⟩
    intro e a₁ w₁ h
    cases e with
    | normal =>
      obtain ⟨hk1, hb1⟩ := h
      have hl4 : w₁.heap[l]? = some (.loop (rec .ready none)) := hk1.heap hl3 (fun hx => hx)
      refine ⟨_, run_beginRound hl4 (by rw [hrec]), ?_⟩
      have hlt4 : l < w₁.heap.size := (Array.getElem?_eq_some_iff.1 hl4).1
      have hi1 : I pre Y w₁ := hI _ _ _ _ (hk1.weaken (fun _ _ h => h.elim)) hi
      have hi2 := hI _ _ _ _ (turn (Y := Y) w₁ (.loop { rec .ready none with state := .busy }) hY) hi1
      have hkw1 : Keep X w (w₁.putObj l (.loop { rec .ready none with state := .busy })) := (hk.trans (hk1.weaken fun _ _ h => h.elim)).putObj (.inr hl) _
      have hl5 : (w₁.putObj l (.loop { rec .ready none with state := .busy })).heap[l]? = some (.loop { rec .ready none with state := .busy }) := World.putObj_heap_same hlt4
      refine wpIn_mono (hb1 _ ((Keep.refl (fun b => b = l) w₁).putObj (.inl rfl) _) hkw1 hi2 ⟨_, hl5⟩) ?_
      have hX2 : Keep (fun b => (X b ∨ b = l) ∨ Y b) W (w₁.putObj l (.loop { rec .ready none with state := .busy })) := (hk1.weaken (fun _ _ h => h.elim)).putObj (.inl (.inl (.inr rfl))) _
      have hsz2 : W.heap.size ≤ (w₁.putObj l (.loop { rec .ready none with state := .busy })).heap.size := hX2.size
      have fin : ∀ (jump : Option Code) (W3 : World) (I' : List α → (Nat → Prop) → World → Prop), Low w.heap.size I' → Left X Y I' (pre ++ [x]) (w₁.putObj l (.loop { rec .ready none with state := .busy })) W3 →
          (Instr.endRound l jump).run P W3 = .ok (.bool jump.isNone) (W3.putObj l (.loop (rec (if jump.isNone then .ready else .done) jump))) ∧
          (W3.putObj l (.loop (rec (if jump.isNone then .ready else .done) jump))).heap[l]? = some (.loop (rec (if jump.isNone then .ready else .done) jump)) ∧
          ∃ Y', (∀ b, Y' b → W1.heap.size ≤ b) ∧ (∀ b, Y' b → Y b ∨ W.heap.size ≤ b) ∧ I' (pre ++ [x]) Y' (W3.putObj l (.loop (rec (if jump.isNone then .ready else .done) jump))) ∧
          Keep X w (W3.putObj l (.loop (rec (if jump.isNone then .ready else .done) jump))) ∧
          Keep (fun b => (X b ∨ b = l) ∨ Y b) W (W3.putObj l (.loop (rec (if jump.isNone then .ready else .done) jump))) := fun jump W3 I' hI' ⟨Y', hk3, hY', hi3⟩ => by
        have hl6 := hk3.heap hl5 (fun hx => by rcases hx with hx | hx; have := hX l hx; omega; have := hY l hx; omega)
        have hr := run_endRound (P := P) jump hl6
        have er : ({ ({ rec .ready none with state := .busy } : Loop) with state := if jump.isNone then .ready else .done, pending := jump } : Loop) = rec (if jump.isNone then .ready else .done) jump := by
          rw [hrec, hrec]
        rw [er] at hr
        have hY1 : ∀ b, Y' b → W1.heap.size ≤ b := fun b hb => by rcases hY' b hb with h | h; exact hY b h; omega
        refine ⟨hr, World.putObj_heap_same (Array.getElem?_eq_some_iff.1 hl6).1, Y', hY1, fun b hb => by rcases hY' b hb with h | h; exact .inl h; exact .inr (by omega), hI' _ _ _ _ (turn W3 _ hY1) hi3, ?_, ?_⟩
        · refine Keep.putObj ?_ (.inr hl) _
          exact ⟨hk3.os.trans hkw1.os, hk3.tape.trans hkw1.tape, hk3.output.trans hkw1.output, Nat.le_trans hkw1.size hk3.size, fun b hb hx => (hk3.same b (Nat.lt_of_lt_of_le hb hkw1.size) (fun h => by rcases h with h | h; exact hx h; have := hY b h; omega)).trans (hkw1.same b hb hx)⟩
        · exact (hX2.trans (hk3.weaken (fun _ _ h => by rcases h with h | h; exact .inl (.inl h); exact .inr h))).putObj (.inl (.inl (.inr rfl))) _
      rintro e a3 W3 hp
      cases e with
      | normal =>
        obtain ⟨hr, hl7, Y', q1, q2, q3, q4, q5⟩ := fin none W3 I hI hp
        exact ⟨_, _, hr, Y', q5, q2, .inl ⟨rfl, q1, q3, q4, hl7⟩⟩
      | ret =>
        obtain ⟨hr, hl7, Y', q1, q2, q3, q4, q5⟩ := fin (some .ret) W3 _ (hIx _) hp
        exact ⟨_, _, hr, Y', q5, q2, .inr ⟨rfl, q1, .ret, q3, q4, hl7⟩⟩
      | exit id =>
        obtain ⟨hr, hl7, Y', q1, q2, q3, q4, q5⟩ := fin (some (.exit id)) W3 _ (hIx _) hp
        exact ⟨_, _, hr, Y', q5, q2, .inr ⟨rfl, q1, .exit id, q3, q4, hl7⟩⟩
      | goto t =>
        obtain ⟨hr, hl7, Y', q1, q2, q3, q4, q5⟩ := fin (some (.goto t)) W3 _ (hIx _) hp
        exact ⟨_, _, hr, Y', q5, q2, .inr ⟨rfl, q1, .goto t, q3, q4, hl7⟩⟩
      | panic ch => exact hp.elim
      | outgrown => exact hp.elim
    | ret => exact h.elim
    | exit id => exact h.elim
    | goto t => exact h.elim
    | panic ch => exact h.elim
    | outgrown => exact h.elim
  · rintro e W2 ⟨⟨v, rfl⟩, hk2, (⟨Y, _, hY, hi, hk, hl2⟩ | ⟨pre, Y, hpre, _, hY, c, hi, hk, hl2⟩)⟩
    · have hr := run_endLoop (P := P) hl2 (by rw [hrec]; simp)
      have e1 : (rec .ready none).pending = none := by rw [hrec]
      rw [e1] at hr
      exact ⟨none, _, hr, hdone Y _ (hI _ _ _ _ (turn W2 _ hY) hi) hY (hk.putObj (.inr hl) _) (hk2.putObj (.inl (.inr rfl)) _)⟩
    · have hr := run_endLoop (P := P) hl2 (by rw [hrec]; simp)
      have e1 : (rec .done (some c)).pending = some c := by rw [hrec]
      rw [e1] at hr
      exact ⟨some c, _, hr, hstop c pre Y _ hpre (hIx c _ _ _ _ (turn W2 _ hY) hi) hY (hk.putObj (.inr hl) _) (hk2.putObj (.inl (.inr rfl)) _)⟩

theorem loop_out2 {α : Type} {g : Operand} {ps : Array Tmp} {assign body : Code} {Q : Exit → Act → World → Prop} {a : Act} {w : World}
    {gf : Nat} {lb : Array Value} (hg : a.eval g = .func (.func gf) #[] lb) (eg : ∀ args w, (callFunc gf args).run P w = .ok (.enter gf args) w)
    {encs : α → Array Value} {L : List α} {Nd X : Nat → Prop} {w0 : World} (hit : Iter2 P gf lb encs L Nd w0) (hps : ∀ x, (encs x).size = ps.size)
    (hX : ∀ b, X b → b < w.heap.size) (hNd : ∀ b, Nd b → ¬ X b ∧ b < w.heap.size) (hNdw : ∀ b, Nd b → w.heap[b]? = w0.heap[b]?) (hw0 : w0.heap.size ≤ w.heap.size)
    (I : List α → (Nat → Prop) → World → Prop) (Ix : Code → List α → (Nat → Prop) → World → Prop) (hI : Low w.heap.size I) (hSI : Slim I) (hIx : ∀ c, Low w.heap.size (Ix c)) (h0 : I [] (fun _ => False) w)
    (hround : ∀ l, w.heap.size ≤ l → Round P ps assign body a.tmps encs L X I Ix w l)
    (hdone : ∀ D Y W, w.heap.size ≤ D → W.heap[D]? = some (.deferred (some [])) → I L Y W → (∀ b, Y b → w.heap.size ≤ b ∧ b ≠ D) → Keep X w W → Q .normal { a with defers := { target := .collected D, args := #[] } :: a.defers } W)
    (hstop : ∀ D c pre Y W, w.heap.size ≤ D → W.heap[D]? = some (.deferred (some [])) → pre <+: L → Ix c pre Y W → (∀ b, Y b → w.heap.size ≤ b ∧ b ≠ D) → Keep X w W → c.wpIn Fence.wide 0 P Q { a with defers := { target := .collected D, args := #[] } :: a.defers } W) :
    (Code.rangeFunc g ps assign body).wpIn Fence.wide 0 P Q a w := by
  refine wpIn_rangeFunc ?_
  intro fn _
  obtain ⟨rec, hrec⟩ : ∃ rec : LoopState → Option Code → Loop, rec = fun st pe => { state := st, pending := pe, fn, tmps := a.tmps, params := ps, assign, body, defers := w.heap.size } := ⟨_, rfl⟩
  obtain ⟨W1, hW1⟩ : ∃ W1, (w.alloc (.deferred (some []))).alloc (.loop (rec .ready none)) = W1 := ⟨_, rfl⟩
  have hL1 : W1.heap[w.heap.size + 1]? = some (.loop (rec .ready none)) := by
    rw [← hW1]; have := World.alloc_heap_new (w.alloc (.deferred (some []))) (.loop (rec .ready none)); rwa [World.size_alloc] at this
  have hD1 : W1.heap[w.heap.size]? = some (.deferred (some [])) := by
    rw [← hW1]; exact (Below.heap_alloc _ _ _ (by simp)).trans (World.alloc_heap_new w _)
  have hbw : Below w.heap.size w W1 := by
    rw [← hW1]; exact ((Below.refl _ w).alloc (Nat.le_refl _) _).alloc (by simp) _
  have hltD : w.heap.size < W1.heap.size := (Array.getElem?_eq_some_iff.1 hD1).1
  have hD : ∀ W, Keep (fun b => X b ∨ b = w.heap.size + 1) W1 W → W.heap[w.heap.size]? = some (.deferred (some [])) := fun W hk =>
    hk.heap hD1 (fun h => by rcases h with h | h; have := hX _ h; omega; omega)
  refine ⟨w.heap.size + 1, [{ target := .collected w.heap.size, args := #[] }], W1, { target := .fn (.func gf) lb, args := #[.func (.yield (w.heap.size + 1)) #[] #[]] }, W1, gf,
    #[.func (.yield (w.heap.size + 1)) #[] #[]] ++ lb, W1, ?_, ?_, ?_, ?_, (fun h => by cases h), ?_⟩
  · rw [← hW1, hrec]; exact run_enterLoop_outer _ _ _ _ _
  · simp only [resolve, hg]
    simp [go_sem]
  · intro _ _; trivial
  · simp [invoke, go_sem, eg]
  · exact callsIn_wide.2 (loop_core2 hit hps (w.heap.size + 1) rec fn w.heap.size (by intro st pe; rw [hrec]) hX hNd hNdw hw0 (by omega) hL1 hbw I Ix hI hSI hIx h0
      (hround _ (by omega))
      (fun Y W hi hY hk hk1 => hdone _ Y W (Nat.le_refl _) (hD W hk1) hi (fun b hb => by have := hY b hb; omega) hk)
      (fun c pre Y W hp hi hY hk hk1 => hstop _ c pre Y W (Nat.le_refl _) (hD W hk1) hp hi (fun b hb => by have := hY b hb; omega) hk))
end Go.Kt
/- Digits to the base 16: what a text of them tells. No program. -/
namespace Go.Kt.Rg
end Go.Kt.Rg
namespace Go.Proofs.YthhepebkfokddaaGreatDoor
open Go

def digV (c : Nat) : Option Nat := if 48 ≤ c ∧ c ≤ 57 then some (c - 48) else if 97 ≤ (c ||| 32) ∧ (c ||| 32) ≤ 122 then some ((c ||| 32) - 87) else none
def puF (mx : Nat) : Nat → List UInt8 → Option Nat
  | n, [] => some n
  | n, c :: t => match digV c.toNat with
    | none => none
    | some d => if 16 ≤ d then none else if mx < n * 16 + d then none else puF mx (n * 16 + d) t
def puV (mx : Nat) (l : List UInt8) : Option Nat := if l = [] then none else puF mx 0 l
end Go.Proofs.YthhepebkfokddaaGreatDoor
/- What is the same of any program: more on rows of one's own, and on worlds that keep their blocks. -/
namespace Go.Kt
open Go Go.RowKit

theorem Keep.plus {X Z : Nat → Prop} {A B C : World} (h : Keep X A B) (k : Keep Z B C) (hz : ∀ b, b < A.heap.size → Z b → X b) : Keep X A C :=
  ⟨k.os.trans h.os, k.tape.trans h.tape, k.output.trans h.output, Nat.le_trans h.size k.size, fun b hb hX => (k.same b (Nat.lt_of_lt_of_le hb h.size) (fun e => hX (hz b hb e))).trans (h.same b hb hX)⟩

theorem OwnS.shape {Y : Nat → Prop} {e : TypeId} {size n : Nat} {v : Value} {xs : List Value} {W : World} (h : OwnS Y e size v n xs W) :
    (v = .slice none 0 0 ∧ n = 0) ∨ ∃ g cap, v = .slice (some ⟨g, 0, none⟩) n cap ∧ Y g ∧ g < W.heap.size := by
  rcases h.1.2 with h1 | ⟨g, cap, cur, rfl, _, hg, _⟩
  · exact .inl h1
  · exact .inr ⟨g, cap, rfl, h.2 g rfl, (Array.getElem?_eq_some_iff.1 hg).1⟩
theorem OwnS.at0 {Y : Nat → Prop} {e : TypeId} {n g cap : Nat} {xs : List Value} {W : World} (h : OwnS Y e 1 (.slice (some ⟨g, 0, none⟩) n cap) n xs W) {i : Nat} {u : Value} (hi : xs[i]? = some u) : W.cell? ⟨g, i, none⟩ = some u := by
  have := h.1.cells (g := g) rfl i u hi
  rwa [Addr.add_lit, Nat.zero_add] at this
theorem OwnS.frozen {Y : Nat → Prop} {e : TypeId} {n g cap : Nat} {xs : List Value} {W : World} (h : OwnS Y e 1 (.slice (some ⟨g, 0, none⟩) n cap) n xs W) (i : Nat) : W.frozen? ⟨g, i, none⟩ = false := by
  rcases h.1.2 with ⟨h1, _⟩ | ⟨g', cap', cur, h1, _, hg, _⟩
  · cases h1
  · injection h1 with e1 _ _
    injection e1 with e1
    injection e1 with e1
    subst e1
    exact Lib.frozen_of_heap hg i

theorem OwnS.self {Y : Nat → Prop} {e : TypeId} {size n : Nat} {v : Value} {xs : List Value} {A : World} (h : OwnS Y e size v n xs A) : OwnS (fun b => v.ownBlock = some b) e size v n xs A := ⟨h.1, fun _ hg => hg⟩
theorem OwnS.keepX {X Y : Nat → Prop} {e : TypeId} {size n : Nat} {v : Value} {xs : List Value} {A B : World} (h : OwnS Y e size v n xs A) (hk : Keep X A B) (hX : ∀ b, X b → v.ownBlock ≠ some b) : OwnS Y e size v n xs B :=
  ⟨(h.self.keep hk (fun b hb hy => hX b hb hy)).1, h.2⟩

end Go.Kt
/- The contracts of the library functions that stage 3's Parse calls (strings.CutPrefix, HasPrefix, strconv's errors, stringslite.Index), laid over this translation. -/
namespace Go.Proofs
open Go.Shelf
def Tryz.laysC245_ren : Go.Shelf.Ren := ⟨fun | 245 => 136 | 279 => 153 | 280 => 154 | 281 => 155 | 282 => 156 | 316 => 164 | 171 => 166 | 205 => 165 | 243 => 170 | 246 => 171 | 283 => 172 | 284 => 173 | 285 => 174 | 286 => 175 | 129 => 147 | 317 => 176 | 318 => 177 | 319 => 178 | 320 => 179 | 337 => 180 | 338 => 181 | n => n, fun | 9 => 9 | 3 => 3 | 75 => 24 | 167 => 202 | 4 => 4 | 168 => 206 | 210 => 218 | 37 => 203 | 0 => 0 | 127 => 224 | 145 => 227 | 143 => 225 | 2 => 2 | 171 => 229 | 53 => 182 | 5 => 5 | 173 => 231 | 212 => 234 | 51 => 193 | 20 => 20 | 213 => 235 | 46 => 169 | 232 => 236 | 233 => 237 | 80 => 238 | n => n, fun | 15 => 5 | 16 => 6 | 17 => 7 | 18 => 8 | 19 => 9 | n => n⟩
theorem Tryz.laysC245 : Go.Proofs.LaysC.n245 Tryz.prog Tryz.laysC245_ren := {
  mixed := by kernel_rfl
  f129 := Tryz.func147.trans (congrArg some (by kernel_rfl))
  f171 := Tryz.func166.trans (congrArg some (by kernel_rfl))
  f205 := Tryz.func165.trans (congrArg some (by kernel_rfl))
  f243 := Tryz.func170.trans (congrArg some (by kernel_rfl))
  f245 := Tryz.func136.trans (congrArg some (by kernel_rfl))
  f246 := Tryz.func171.trans (congrArg some (by kernel_rfl))
  f279 := Tryz.func153.trans (congrArg some (by kernel_rfl))
  f280 := Tryz.func154.trans (congrArg some (by kernel_rfl))
  f281 := Tryz.func155.trans (congrArg some (by kernel_rfl))
  f282 := Tryz.func156.trans (congrArg some (by kernel_rfl))
  f283 := Tryz.func172.trans (congrArg some (by kernel_rfl))
  f284 := Tryz.func173.trans (congrArg some (by kernel_rfl))
  f285 := Tryz.func174.trans (congrArg some (by kernel_rfl))
  f286 := Tryz.func175.trans (congrArg some (by kernel_rfl))
  f316 := Tryz.func164.trans (congrArg some (by kernel_rfl))
  f317 := Tryz.func176.trans (congrArg some (by kernel_rfl))
  f318 := Tryz.func177.trans (congrArg some (by kernel_rfl))
  f319 := Tryz.func178.trans (congrArg some (by kernel_rfl))
  f320 := Tryz.func179.trans (congrArg some (by kernel_rfl))
  f337 := Tryz.func180.trans (congrArg some (by kernel_rfl))
  f338 := Tryz.func181.trans (congrArg some (by kernel_rfl))
  t0 := Tryz.underlying0
  a0 := Tryz.isAgg0
  z0 := Tryz.sizeOf0
  v0 := Tryz.zeroValue0
  t2 := Tryz.underlying2
  a2 := Tryz.isAgg2
  z2 := Tryz.sizeOf2
  v2 := Tryz.zeroValue2
  t3 := Tryz.underlying3
  a3 := Tryz.isAgg3
  z3 := Tryz.sizeOf3
  v3 := Tryz.zeroValue3
  t4 := Tryz.underlying4
  a4 := Tryz.isAgg4
  z4 := Tryz.sizeOf4
  v4 := Tryz.zeroValue4
  t5 := Tryz.underlying5
  a5 := Tryz.isAgg5
  z5 := Tryz.sizeOf5
  v5 := Tryz.zeroValue5
  t9 := Tryz.underlying9
  a9 := Tryz.isAgg9
  z9 := Tryz.sizeOf9
  v9 := Tryz.zeroValue9
  t20 := Tryz.underlying20
  a20 := Tryz.isAgg20
  z20 := Tryz.sizeOf20
  v20 := Tryz.zeroValue20
  t37 := Tryz.underlying203
  a37 := Tryz.isAgg203
  z37 := Tryz.sizeOf203
  v37 := Tryz.zeroValue203
  t46 := Tryz.underlying169
  a46 := Tryz.isAgg169
  z46 := Tryz.sizeOf169
  v46 := Tryz.zeroValue169
  t51 := Tryz.underlying193
  a51 := Tryz.isAgg193
  z51 := Tryz.sizeOf193
  v51 := Tryz.zeroValue193
  t53 := Tryz.underlying182
  a53 := Tryz.isAgg182
  z53 := Tryz.sizeOf182
  v53 := Tryz.zeroValue182
  t75 := Tryz.underlying24
  a75 := Tryz.isAgg24
  z75 := Tryz.sizeOf24
  v75 := Tryz.zeroValue24
  t127 := Tryz.underlying224
  a127 := Tryz.isAgg224
  z127 := Tryz.sizeOf224
  v127 := Tryz.zeroValue224
  t143 := Tryz.underlying225
  a143 := Tryz.isAgg225
  z143 := Tryz.sizeOf225
  v143 := Tryz.zeroValue225
  t145 := Tryz.underlying227
  a145 := Tryz.isAgg227
  z145 := Tryz.sizeOf227
  v145 := Tryz.zeroValue227
  t167 := Tryz.underlying202
  a167 := Tryz.isAgg202
  z167 := Tryz.sizeOf202
  v167 := Tryz.zeroValue202
  t168 := Tryz.underlying206
  a168 := Tryz.isAgg206
  z168 := Tryz.sizeOf206
  v168 := Tryz.zeroValue206
  t171 := Tryz.underlying229
  a171 := Tryz.isAgg229
  z171 := Tryz.sizeOf229
  v171 := Tryz.zeroValue229
  t173 := Tryz.underlying231
  a173 := Tryz.isAgg231
  z173 := Tryz.sizeOf231
  v173 := Tryz.zeroValue231
  t210 := Tryz.underlying218
  a210 := Tryz.isAgg218
  z210 := Tryz.sizeOf218
  v210 := Tryz.zeroValue218
  t212 := Tryz.underlying234
  a212 := Tryz.isAgg234
  z212 := Tryz.sizeOf234
  v212 := Tryz.zeroValue234
  t213 := Tryz.underlying235
  a213 := Tryz.isAgg235
  z213 := Tryz.sizeOf235
  t232 := Tryz.underlying236
  a232 := Tryz.isAgg236
  z232 := Tryz.sizeOf236
  v232 := Tryz.zeroValue236
  t233 := Tryz.underlying237
  a233 := Tryz.isAgg237
  z233 := Tryz.sizeOf237
  v233 := Tryz.zeroValue237
  g15 := by kernel_rfl
  g16 := by kernel_rfl
  g17 := by kernel_rfl
  g18 := by kernel_rfl
  g19 := by kernel_rfl
  t80 := Tryz.underlying238
  a80 := Tryz.isAgg238
  z80 := Tryz.sizeOf238
  v80 := Tryz.zeroValue238
  i0 := by kernel_rfl
  i2 := by kernel_rfl
  i3 := by kernel_rfl
  i4 := by kernel_rfl
  i5 := by kernel_rfl
  i9 := by kernel_rfl
  i20 := by kernel_rfl
  i37 := by kernel_rfl
  i46 := by kernel_rfl
  i51 := by kernel_rfl
  i53 := by kernel_rfl
  i75 := by kernel_rfl
  i80 := by kernel_rfl
  i127 := by kernel_rfl
  i143 := by kernel_rfl
  i145 := by kernel_rfl
  i167 := by kernel_rfl
  i168 := by kernel_rfl
  i171 := by kernel_rfl
  i173 := by kernel_rfl
  i210 := by kernel_rfl
  i212 := by kernel_rfl
  i232 := by kernel_rfl
  i233 := by kernel_rfl
  m15 := by kernel_rfl
  m16 := by kernel_rfl
  m17 := by kernel_rfl
  m18 := by kernel_rfl
  m19 := by kernel_rfl
  c0 := by kernel_rfl
  c2 := by kernel_rfl
  c3 := by kernel_rfl
  c4 := by kernel_rfl
  c5 := by kernel_rfl
  c9 := by kernel_rfl
  c20 := by kernel_rfl
  c37 := by kernel_rfl
  c46 := by kernel_rfl
  c51 := by kernel_rfl
  c53 := by kernel_rfl
  c75 := by kernel_rfl
  c80 := by kernel_rfl
  c127 := by kernel_rfl
  c143 := by kernel_rfl
  c145 := by kernel_rfl
  c167 := by kernel_rfl
  c168 := by kernel_rfl
  c171 := by kernel_rfl
  c173 := by kernel_rfl
  c210 := by kernel_rfl
  c212 := by kernel_rfl
  c213 := by kernel_rfl
  c232 := by kernel_rfl
  c233 := by kernel_rfl }
open Go.RowKit in
theorem Tryz.strconv_toError_syntax (fn s : ByteArray) (base bits : Int) (ev : Value) (w : World) (hlim : s.size ≤ 281474976710656) (hv : w.cell? ⟨5, 0, none⟩ = some ev) (hev : ev = .nilIface ∨ ∃ te pe, ev = .iface te pe) :
    Calls Tryz.prog 136 #[.string fn, .string s, .int .i64 base, .int .i64 bits, .iface 202 (.int .i64 2)] w fun e w' => ∃ N, e = .returned (.iface 206 (.pointer (some ⟨N, 0, none⟩))) ∧ w.heap.size ≤ N ∧ w'.heap[N]? = some (.cells #[.string fn, .string s, ev] 218 (0, 0)) ∧ Below w.heap.size w w' := Any.strconv_toError_syntax Tryz.laysC245 fn s base bits ev w hlim hv hev
def Tryz.lays321_ren : Go.Shelf.Ren := ⟨fun | 321 => 167 | n => n, fun | 5 => 5 | n => n, fun | n => n⟩
theorem Tryz.lays321 : Go.Proofs.Lays.n321 Tryz.prog Tryz.lays321_ren := {
  mixed := by kernel_rfl
  f321 := Tryz.func167.trans (congrArg some (by kernel_rfl))
  t5 := Tryz.underlying5
  a5 := Tryz.isAgg5
  z5 := Tryz.sizeOf5
  v5 := Tryz.zeroValue5 }
open Go.RowKit in
theorem Tryz.internal_strconv_lower (c : Int) (w : World) :
    Calls Tryz.prog 167 #[.int .u8 c] w fun e w' => e = .returned (.int .u8 (bits .or .u8 c 32)) ∧ w' = w := Any.internal_strconv_lower Tryz.lays321 c w
open Go.RowKit in
theorem Tryz.strconv_toError_range (fn s : ByteArray) (base bits : Int) (ev : Value) (w : World) (hlim : s.size ≤ 281474976710656) (hv : w.cell? ⟨6, 0, none⟩ = some ev) (hev : ev = .nilIface ∨ ∃ te pe, ev = .iface te pe) :
    Calls Tryz.prog 136 #[.string fn, .string s, .int .i64 base, .int .i64 bits, .iface 202 (.int .i64 1)] w fun e w' => ∃ N, e = .returned (.iface 206 (.pointer (some ⟨N, 0, none⟩))) ∧ w.heap.size ≤ N ∧ w'.heap[N]? = some (.cells #[.string fn, .string s, ev] 218 (0, 0)) ∧ Below w.heap.size w w' := Any.strconv_toError_range Tryz.laysC245 fn s base bits ev w hlim hv hev
def Tryz.lays219_ren : Go.Shelf.Ren := ⟨fun | 219 => 103 | 217 => 78 | 225 => 125 | 224 => 126 | 267 => 127 | 266 => 112 | 314 => 149 | n => n, fun | 9 => 9 | 3 => 3 | 4 => 4 | 5 => 5 | 46 => 169 | 146 => 199 | 51 => 193 | n => n, fun | 1 => 1 | n => n⟩
end Go.Proofs
/- strconv.ParseUint to the base 16. -/
namespace Go.Proofs.YthhepebkfokddaaGreatDoor
open Go Go.RowKit Go.Kt Go.Kt.Rg

theorem or_32 : ∀ c, c < 256 → bits .or .u8 ((c : Nat) : Int) 32 = ((c ||| 32 : Nat) : Int) := by decide +kernel
theorem or_ge : ∀ c, c < 256 → c ≤ c ||| 32 := by decide +kernel
theorem or_bd : ∀ c, c < 256 → c ||| 32 < 256 := by decide +kernel
theorem or_dig : ∀ c, c < 256 → 97 ≤ c ||| 32 → c ||| 32 ≤ 122 → 57 < c ∧ c ≠ 95 := by decide +kernel
def PuOut (T : TypeId) (K : Value → Prop) (o : Option Nat) (e : Ending) : Prop :=
  match o with
  | some n => e = .returned (.tuple #[.int .u64 (n : Nat), .nilIface])
  | none => ∃ (z : Int) (k : Value), e = .returned (.tuple #[.int .u64 z, .iface T k]) ∧ K k
theorem PuOut.yes {T : TypeId} {K : Value → Prop} {o : Option Nat} {n : Nat} (h : o = some n) : PuOut T K o (.returned (.tuple #[.int .u64 (n : Nat), .nilIface])) := by subst h; rfl
theorem PuOut.no {T : TypeId} {K : Value → Prop} {o : Option Nat} (z : Int) {k : Value} (h : o = none) (hk : K k) : PuOut T K o (.returned (.tuple #[.int .u64 z, .iface T k])) := by subst h; exact ⟨z, k, rfl, hk⟩
def PuErr (k : Value) : Prop := k = .int .i64 1 ∨ k = .int .i64 2
theorem puF_some {mx n d : Nat} {c : UInt8} {t : List UInt8} (h : digV c.toNat = some d) (h1 : d < 16) (h2 : n * 16 + d ≤ mx) : puF mx n (c :: t) = puF mx (n * 16 + d) t := by
  rw [puF, h]; simp only; rw [if_neg (by omega), if_neg (by omega)]
theorem puF_over {mx n d : Nat} {c : UInt8} {t : List UInt8} (h : digV c.toNat = some d) (h1 : d < 16) (h2 : mx < n * 16 + d) : puF mx n (c :: t) = none := by
  rw [puF, h]; simp only; rw [if_neg (by omega), if_pos h2]
theorem puF_big {mx n d : Nat} {c : UInt8} {t : List UInt8} (h : digV c.toNat = some d) (h1 : 16 ≤ d) : puF mx n (c :: t) = none := by
  rw [puF, h]; simp only; rw [if_pos h1]
theorem puF_bad {mx n : Nat} {c : UInt8} {t : List UInt8} (h : digV c.toNat = none) : puF mx n (c :: t) = none := by
  rw [puF, h]
theorem digV_dig {c : Nat} (h1 : 48 ≤ c) (h2 : c ≤ 57) : digV c = some (c - 48) := by unfold digV; rw [if_pos ⟨h1, h2⟩]
theorem digV_let {c : Nat} (h : 57 < c) (h1 : 97 ≤ c ||| 32) (h2 : c ||| 32 ≤ 122) : digV c = some ((c ||| 32) - 87) := by unfold digV; rw [if_neg (by omega), if_pos ⟨h1, h2⟩]
theorem digV_no {c : Nat} (h : ¬ (48 ≤ c ∧ c ≤ 57)) (h1 : ¬ (97 ≤ c ||| 32 ∧ c ||| 32 ≤ 122)) : digV c = none := by unfold digV; rw [if_neg h, if_neg h1]

end Go.Proofs.YthhepebkfokddaaGreatDoor
/- strconv.ParseUint to the base 16, of 24 bits. -/
namespace Go.Proofs.YthhepebkfokddaaGreatDoor
open Go Go.RowKit Go.Kt Go.Kt.Rg

set_option maxRecDepth 100000 in
set_option maxHeartbeats 8000000 in
theorem ipu24_any (s : ByteArray) (w : World) (hs : s.size ≤ 281474976710656) :
    Calls Tryz.prog 157 #[.string s, .int .i64 16, .int .i64 24] w fun e w' => PuOut 202 PuErr (puV 16777215 s.data.toList) e ∧ Below w.heap.size w w' := by
  obtain ⟨l, hl⟩ : ∃ l, s.data.toList = l := ⟨_, rfl⟩
  have hln : l.length = s.size := by rw [← hl]; exact (Lib.size_eq s).symm
  rw [hl]
  by_cases h0 : s.size = 0
  · have hn : l = [] := List.eq_nil_of_length_eq_zero (by omega)
    have hsn : s.toList = [] := by
      have : s.toList.length = 0 := by rw [ByteArray.toList_eq, hl, hn]; rfl
      exact List.eq_nil_of_length_eq_zero this
    have hsn2 : (!s.toList.isEmpty) = false := by rw [hsn]; rfl
    have HF : Hid (PuOut 202 PuErr (puV 16777215 l) (.returned (.tuple #[.int .u64 0, .iface 202 (.int .i64 2)])) ∧ Below w.heap.size w w) := Lib.hid ⟨.no 0 (by rw [hn]; rfl) (.inr rfl), Below.refl _ _⟩
    clear hn hl hln h0
    go_enter Tryz.func157, Tryz.ntmps157
    go_wp2
    go_ret2
    exact HF.out
  · have hemp : s.toList.isEmpty = false := by
      cases h : s.toList with
      | nil => rw [ByteArray.toList_eq, hl] at h; rw [h] at hln; exact absurd hln.symm h0
      | cons => rfl
    have hcv := Lib.run_convert_string_bytes (P := Tryz.prog) w 9 203 5 s (u := .string) Tryz.underlying9 Tryz.underlying203 Tryz.underlying5
    have hB : ∀ j, j < s.size → (Lib.bytesWorld w 5 s).cell? ⟨w.heap.size, j, none⟩ = some (.int .u8 (s.data.toList.getD j 0).toNat) := fun j hj => Lib.bytesWorld_cell w 5 s j hj
    have hBel : Below w.heap.size w (Lib.bytesWorld w 5 s) := Lib.bytesWorld_below w _ s
    obtain ⟨W1, hW1⟩ : ∃ W1, Lib.bytesWorld w 5 s = W1 := ⟨_, rfl⟩
    rw [hW1] at hcv hB hBel
    rw [hl] at hB
    have HB := Lib.hid hB
    have HBel := Lib.hid hBel
    obtain ⟨n, hn⟩ : ∃ n, s.size = n := ⟨_, rfl⟩
    rw [hn] at hs h0 hcv hln HB
    have HLN := Lib.hid hln
    have hV : Hid (puV 16777215 l = puF 16777215 0 l) := Lib.hid (by unfold puV; rw [if_neg]; intro e; rw [e] at hln; exact h0 hln.symm)
    clear hW1 hB hBel hl hln
    go_enter Tryz.func157, Tryz.ntmps157
    go_wp2
    go_loop [12, 13, 101] (fun vu vn vi => ∃ (k acc : Nat) (a : Int), vu = .bool false ∧ vn = .int .u64 a ∧ vi = .int .i64 k ∧ k ≤ n ∧ Hid (a = (acc : Int) ∧ acc ≤ 16777215 ∧ puF 16777215 acc (l.drop k) = puF 16777215 0 l)) (fun _ _ vi => n - (RowKit.intOf vi).toNat)
    case atStart => exact ⟨0, 0, 0, rfl, rfl, rfl, by omega, Lib.hid ⟨rfl, by omega, rfl⟩⟩
    case round =>
      obtain ⟨k, acc, a, rfl, rfl, rfl, hk, hh⟩ := hrel
      have a0 : 0 ≤ a := by have := hh.out.1; omega
      have a1 : a ≤ 16777215 := by have := hh.out; omega
      by_cases hkn : k < n
      · have hkn' : (k : Int) < n := by omega
        have hc := HB.out k hkn
        have hdrop : l.drop k = l[k]'(by rw [HLN.out]; exact hkn) :: l.drop (k + 1) := List.drop_eq_getElem_cons (by rw [HLN.out]; exact hkn)
        have hget : l.getD k 0 = l[k]'(by rw [HLN.out]; exact hkn) := by simp [List.getD, List.getElem?_eq_getElem (show k < l.length by rw [HLN.out]; exact hkn)]
        rw [hget] at hc
        generalize l[k]'(by rw [HLN.out]; exact hkn) = c at hc hdrop
        have HD := Lib.hid hdrop
        have hc256 : c.toNat < 256 := c.toNat_lt
        have q1 := or_32 c.toNat hc256
        have q2 := or_ge c.toNat hc256
        have q3 := or_bd c.toNat hc256
        have q4 := or_dig c.toNat hc256
        have e1 := @digV_dig c.toNat
        have e2 := @digV_let c.toNat
        have e3 := @digV_no c.toNat
        obtain ⟨L, hL⟩ : ∃ L, c.toNat ||| 32 = L := ⟨_, rfl⟩
        rw [hL] at q1 q2 q3 q4 e2 e3
        have FIN : ∀ d, digV c.toNat = some d → d < 16 → acc * 16 + d ≤ 16777215 → Hid (puF 16777215 (acc * 16 + d) (l.drop (k + 1)) = puF 16777215 0 l) := fun d h1 h2 h3 => Lib.hid (by rw [← hh.out.2.2, HD.out, puF_some h1 h2 h3])
        have OVR : ∀ d, digV c.toNat = some d → d < 16 → 16777215 < acc * 16 + d → Hid (puV 16777215 l = none) := fun d h1 h2 h3 => Lib.hid (by rw [hV.out, ← hh.out.2.2, HD.out, puF_over h1 h2 h3])
        have BIG : ∀ d, digV c.toNat = some d → 16 ≤ d → Hid (puV 16777215 l = none) := fun d h1 h2 => Lib.hid (by rw [hV.out, ← hh.out.2.2, HD.out, puF_big h1 h2])
        have BAD : digV c.toNat = none → Hid (puV 16777215 l = none) := fun h1 => Lib.hid (by rw [hV.out, ← hh.out.2.2, HD.out, puF_bad h1])
        have hacc := hh.out.1
        generalize c.toNat = cn at *
        clear hdrop hget hL
        by_cases hdig : 48 ≤ cn ∧ cn ≤ 57
        · obtain ⟨hd0, hd1⟩ := hdig
          have hdv := e1 hd0 hd1
          have i0 : (48 : Int) ≤ cn := by omega
          have i1 : (cn : Int) ≤ 57 := by omega
          by_cases hov : 16777215 < acc * 16 + (cn - 48)
          · have HF := OVR _ hdv (by omega) hov
            have iov : (16777215 : Int) < a * 16 + ((cn : Int) - 48) := by omega
            clear FIN OVR BIG BAD hdv e1 e2 e3 q1 q2 q3 q4 hacc hov hd0 hd1
            go_wp2
            go_ret2
            exact ⟨.no _ HF.out (.inl rfl), HBel.out⟩
          · have HF := FIN _ hdv (by omega) (by omega)
            have iov : a * 16 + ((cn : Int) - 48) ≤ 16777215 := by omega
            have HA : Hid (a * 16 + ((cn : Int) - 48) = ((acc * 16 + (cn - 48) : Nat) : Int) ∧ acc * 16 + (cn - 48) ≤ 16777215) := Lib.hid ⟨by omega, by omega⟩
            clear FIN OVR BIG BAD hdv e1 e2 e3 q1 q2 q3 q4 hacc hov hd0 hd1
            go_wp2
            go_round
            case rel => exact ⟨k + 1, acc * 16 + (cn - 48), a * 16 + ((cn : Int) - 48), rfl, rfl, by go_num, by omega, Lib.hid ⟨HA.out.1, HA.out.2, HF.out⟩⟩
            case measure => simp [RowKit.intOf]; omega
        · by_cases hlet : 97 ≤ L ∧ L ≤ 122
          · obtain ⟨hd0, hd1⟩ := hlet
            obtain ⟨g1, g2⟩ := q4 hd0 hd1
            have hdv := e2 g1 hd0 hd1
            have i0 : (97 : Int) ≤ L := by omega
            have i1 : (L : Int) ≤ 122 := by omega
            have i2 : (57 : Int) < cn := by omega
            have i3 : ((cn : Int) == 95) = false := by rw [beq_eq_false_iff_ne]; omega
            by_cases hbig : 102 < L
            · have HF := BIG _ hdv (by omega)
              have i4 : (102 : Int) < L := by omega
              clear FIN OVR BIG BAD hdv e1 e2 e3 q2 q3 q4 hacc hd0 hd1 g1 g2 hdig hbig
              go_wp2_with (go_at_call 167; refine (Tryz.internal_strconv_lower _ _).mono ?_; rintro e w' ⟨rfl, rfl⟩)
              go_ret2
              exact ⟨.no _ HF.out (.inr rfl), HBel.out⟩
            · have i4 : (L : Int) ≤ 102 := by omega
              by_cases hov : 16777215 < acc * 16 + (L - 87)
              · have HF := OVR _ hdv (by omega) hov
                have iov : (16777215 : Int) < a * 16 + ((L : Int) - 97 + 10) := by omega
                clear FIN OVR BIG BAD hdv e1 e2 e3 q2 q3 q4 hacc hov hd0 hd1 g1 g2 hdig hbig
                go_wp2_with (go_at_call 167; refine (Tryz.internal_strconv_lower _ _).mono ?_; rintro e w' ⟨rfl, rfl⟩)
                go_ret2
                exact ⟨.no _ HF.out (.inl rfl), HBel.out⟩
              · have HF := FIN _ hdv (by omega) (by omega)
                have iov : a * 16 + ((L : Int) - 97 + 10) ≤ 16777215 := by omega
                have HA : Hid (a * 16 + ((L : Int) - 97 + 10) = ((acc * 16 + (L - 87) : Nat) : Int) ∧ acc * 16 + (L - 87) ≤ 16777215) := Lib.hid ⟨by omega, by omega⟩
                clear FIN OVR BIG BAD hdv e1 e2 e3 q2 q3 q4 hacc hov hd0 hd1 g1 g2 hdig hbig
                go_wp2_with (go_at_call 167; refine (Tryz.internal_strconv_lower _ _).mono ?_; rintro e w' ⟨rfl, rfl⟩)
                go_round
                case rel => exact ⟨k + 1, acc * 16 + (L - 87), a * 16 + ((L : Int) - 97 + 10), rfl, rfl, by go_num, by omega, Lib.hid ⟨HA.out.1, HA.out.2, HF.out⟩⟩
                case measure => simp [RowKit.intOf]; omega
          · have HF := BAD (e3 hdig hlet)
            have u0 : (cn : Int) < 48 ∨ (57 : Int) < cn := by omega
            have u1 : (L : Int) < 97 ∨ (122 : Int) < L := by omega
            have hb0 : 0 ≤ (L : Int) := by omega
            have hb1 : (L : Int) < 256 := by omega
            clear FIN OVR BIG BAD e1 e2 e3 q2 q3 q4 hacc hdig hlet
            rcases u0 with u0 | u0
            all_goals rcases u1 with u1 | u1
            all_goals
              go_wp2_with (go_at_call 167; refine (Tryz.internal_strconv_lower _ _).mono ?_; rintro e w' ⟨rfl, rfl⟩)
            all_goals go_ret2
            all_goals exact ⟨.no _ HF.out (.inr rfl), HBel.out⟩
      · have hkn' : ¬ (k : Int) < n := by omega
        obtain rfl : k = n := by omega
        have HF : Hid (puV 16777215 l = some acc) := Lib.hid (by rw [hV.out, ← hh.out.2.2, List.drop_eq_nil_of_le (by rw [HLN.out]; exact Nat.le_refl _)]; rfl)
        have HA := hh.out.1
        subst HA
        go_wp2
        go_ret2
        exact ⟨.yes HF.out, HBel.out⟩
end Go.Proofs.YthhepebkfokddaaGreatDoor
