/- Parts of the proof of what the last text says. -/
import Derived.Test.YtcfhblbmpbfoaaaGreatDoorKx
import Derived.OrdersHeld
import Derived.WalkKit
import Derived.Test.YtcfhblbmpbfoaaaGreatDoorGv2
import Derived.Lib.AppendStr
import Derived.Maps.OwnSet
import Derived.LoopNIn
import Derived.Laws.ResultCell
import Derived.Laws.Rows
import Derived.OwnWalk
import Derived.Sort.Defs
import Derived.Sort.Lot0
namespace Go.Kt
open Go Go.RowKit
variable {P : Program}

def Slim {β : Type} (J : β → (Nat → Prop) → World → Prop) : Prop := ∀ s Y W, J s Y W → J s (fun b => Y b ∧ b < W.heap.size) W
def LowZ {β : Type} (Z : Nat → Prop) (B : Nat) (J : β → (Nat → Prop) → World → Prop) : Prop := ∀ s Y W W', Keep (fun b => (Z b ∨ B ≤ b) ∧ ¬ Y b) W W' → J s Y W → J s Y W'
def Iter5 {α : Type} (P : Program) (gf : Nat) (lb : Array Value) (encs : α → Array Value) (Ok Fin : List α → Prop) (Z Nd : Nat → Prop) (w0 : World) : Prop :=
  ∀ (l : Nat) (X : Nat → Prop) (J Jx : List α → (Nat → Prop) → World → Prop) (W : World),
    (∀ b, (Z b ∨ Nd b) → ¬ X b) → (∀ b, X b → b < W.heap.size) → (∀ b, (Z b ∨ Nd b) → W.heap[b]? = w0.heap[b]?) → w0.heap.size ≤ W.heap.size →
    LowZ Z W.heap.size J → LowZ Z W.heap.size Jx → Slim J →
    (∀ pre x Y W1, Ok (pre ++ [x]) → J pre Y W1 → W.heap.size ≤ W1.heap.size → (∀ b, Y b → W.heap.size ≤ b) → YieldAt Fence.wide 0 P l (encs x) W1 fun e W' =>
      ∃ Y', Keep (fun b => X b ∨ Y b) W1 W' ∧ (∀ b, Y' b → Y b ∨ W1.heap.size ≤ b) ∧ ((e = .returned (.bool true) ∧ J (pre ++ [x]) Y' W') ∨ (e = .returned (.bool false) ∧ Jx (pre ++ [x]) Y' W'))) →
    J [] (fun _ => False) W →
    Calls P gf (#[.func (.yield l) #[] #[]] ++ lb) W fun e W' => (∃ v, e = .returned v) ∧ Keep (fun b => X b ∨ Z b) W W' ∧ ((∃ L Y, Fin L ∧ (∀ b, Y b → W.heap.size ≤ b) ∧ J L Y W') ∨ ∃ pre Y, Ok pre ∧ (∀ b, Y b → W.heap.size ≤ b) ∧ Jx pre Y W')

def Round5 {α : Type} (P : Program) (ps : Array Tmp) (assign body : Code) (tmps : Array Value) (encs : α → Array Value) (Ok : List α → Prop) (X Z : Nat → Prop) (I : List α → (Nat → Prop) → World → Prop) (Ix : Code → List α → (Nat → Prop) → World → Prop) (w : World) (l : Nat) : Prop :=
  ∀ (pre : List α) (x : α) (Y : Nat → Prop) (W : World), Ok (pre ++ [x]) → I pre Y W → Keep (fun b => X b ∨ Z b) w W → (∀ b, Y b → w.heap.size ≤ b ∧ b ≠ l) → l < W.heap.size → (∃ r, W.heap[l]? = some (.loop r)) →
    assign.wpIn (Fence.wide.inRound l) 0 P (Exit.then (fun a₁ w₁ => Keep (fun _ => False) W w₁ ∧
        (∀ W2, Keep (fun b => b = l) w₁ W2 → Keep (fun b => X b ∨ Z b) w W2 → I pre Y W2 → (∃ r, W2.heap[l]? = some (.loop r)) → body.wpIn (Fence.wide.inRound l) 0 P (roundEnd X Y I Ix (pre ++ [x]) W2) a₁ W2)) (fun _ _ _ => False))
      { tmps := (ps.zip (encs x)).foldl (fun t (p, v) => t.setIfInBounds p v) tmps, defers := [] } W

theorem loop_core5 {α : Type} {F : Fence} {ps : Array Tmp} {assign body : Code} {Q : Exit → Act → World → Prop} {a a' : Act} {w W1 : World}
    {gf : Nat} {lb : Array Value} {encs : α → Array Value} {Ok Fin : List α → Prop} {Z Nd X : Nat → Prop} {w0 : World} (hit : Iter5 P gf lb encs Ok Fin Z Nd w0)
    (hps : ∀ x, (encs x).size = ps.size) (l : Nat) (rec : LoopState → Option Code → Loop) (fn : FuncId) (D : Nat)
    (hrec : ∀ st pe, rec st pe = { state := st, pending := pe, fn, tmps := a.tmps, params := ps, assign, body, defers := D })
    (hX : ∀ b, X b → b < w.heap.size) (hNd : ∀ b, (Z b ∨ Nd b) → ¬ X b ∧ b < w.heap.size) (hNdw : ∀ b, (Z b ∨ Nd b) → w.heap[b]? = w0.heap[b]?) (hw0 : w0.heap.size ≤ w.heap.size)
    (hl : w.heap.size ≤ l) (hL1 : W1.heap[l]? = some (.loop (rec .ready none))) (hbw : Below w.heap.size w W1)
    (I : List α → (Nat → Prop) → World → Prop) (Ix : Code → List α → (Nat → Prop) → World → Prop) (hI : LowZ Z w.heap.size I) (hSI : Slim I) (hIx : ∀ c, LowZ Z w.heap.size (Ix c)) (h0 : I [] (fun _ => False) w)
    (hround : Round5 P ps assign body a.tmps encs Ok X Z I Ix w l)
    (hdone : ∀ L Y W, Fin L → I L Y W → (∀ b, Y b → W1.heap.size ≤ b) → Keep (fun b => X b ∨ Z b) w W → Keep (fun b => (X b ∨ b = l) ∨ Z b) W1 W → Q .normal a' W)
    (hstop : ∀ c pre Y W, Ok pre → Ix c pre Y W → (∀ b, Y b → W1.heap.size ≤ b) → Keep (fun b => X b ∨ Z b) w W → Keep (fun b => (X b ∨ b = l) ∨ Z b) W1 W → c.wpIn F 0 P Q a' W) :
    Calls P gf (#[.func (.yield l) #[] #[]] ++ lb) W1 (rangePost F 0 P l Q a') := by
  have hlt1 : l < W1.heap.size := (Array.getElem?_eq_some_iff.1 hL1).1
  have hB1 : w.heap.size ≤ W1.heap.size := hbw.size
  have hkw : Keep (fun b => X b ∨ Z b) w W1 := .of_all hbw
  -- a step that touches nothing below W1's heap's end but what is not of Y
  have low1 : ∀ {Y : Nat → Prop} {A B : World}, Keep (fun b => (Z b ∨ W1.heap.size ≤ b) ∧ ¬ Y b) A B → Keep (fun b => (Z b ∨ w.heap.size ≤ b) ∧ ¬ Y b) A B := fun h => h.weaken fun _ _ hb => ⟨hb.1.imp id (fun h => Nat.le_trans hB1 h), hb.2⟩
  have lowX : ∀ {Y : Nat → Prop} {A B : World}, Keep (fun b => (Z b ∨ W1.heap.size ≤ b) ∧ ¬ Y b) A B → Keep (fun b => X b ∨ Z b) w A → Keep (fun b => X b ∨ Z b) w B := fun h k =>
    ⟨h.os.trans k.os, h.tape.trans k.tape, h.output.trans k.output, Nat.le_trans k.size h.size, fun b hb hx => (h.same b (Nat.lt_of_lt_of_le hb k.size) (fun hy => by rcases hy.1 with h | h; exact hx (.inr h); omega)).trans (k.same b hb hx)⟩
  have lowl : ∀ {Y : Nat → Prop} {A B : World} {o : Obj}, Keep (fun b => (Z b ∨ W1.heap.size ≤ b) ∧ ¬ Y b) A B → A.heap[l]? = some o → B.heap[l]? = some o := fun h ho => h.heap ho (fun hy => by rcases hy.1 with h | h; have := (hNd l (.inl h)).2; omega; omega)
  -- the law's own turn of its record
  have turn : ∀ {Y : Nat → Prop} (W : World) (o : Obj), (∀ b, Y b → W1.heap.size ≤ b) → Keep (fun b => (Z b ∨ w.heap.size ≤ b) ∧ ¬ Y b) W (W.putObj l o) := fun W o hY => (Keep.refl _ W).putObj (.inl ⟨.inr hl, fun hy => by have := hY l hy; omega⟩) o
  refine (hit l (fun b => X b ∨ b = l) (fun pre Y W => (∀ b, Y b → W1.heap.size ≤ b) ∧ I pre Y W ∧ Keep (fun b => X b ∨ Z b) w W ∧ W.heap[l]? = some (.loop (rec .ready none)))
    (fun pre Y W => (∀ b, Y b → W1.heap.size ≤ b) ∧ ∃ c, Ix c pre Y W ∧ Keep (fun b => X b ∨ Z b) w W ∧ W.heap[l]? = some (.loop (rec .done (some c)))) W1
    (fun b hb => by have := hNd b hb; rintro (h | h); exact this.1 h; omega)
    (fun b hb => by rcases hb with hb | hb; have := hX b hb; omega; omega)
    (fun b hb => (hbw.block b (hNd b hb).2).trans (hNdw b hb)) (by omega)
    (fun s Y A B hb ⟨hY, h1, h2, h3⟩ => ⟨hY, hI s Y A B (low1 hb) h1, lowX hb h2, lowl hb h3⟩)
    (fun s Y A B hb ⟨hY, c, h1, h2, h3⟩ => ⟨hY, c, hIx c s Y A B (low1 hb) h1, lowX hb h2, lowl hb h3⟩)
    (fun s Y A ⟨hY, h1, h2, h3⟩ => ⟨fun b hb => hY b hb.1, hSI s Y A h1, h2, h3⟩)
    ?_ ⟨fun _ h => h.elim, hI _ _ _ _ (.of_all hbw) h0, hkw, hL1⟩).mono ?_
  · rintro pre x Y W hpre ⟨hY, hi, hk, hl3⟩ hsz _
    have hlt : l < W.heap.size := (Array.getElem?_eq_some_iff.1 hl3).1
    have hYl : ∀ b, Y b → w.heap.size ≤ b ∧ b ≠ l := fun b hb => by have := hY b hb; omega
    have hy := run_yield (P := P) (args := encs x) hl3 (by rw [hrec]; exact hps x)
    rw [hrec] at hy
    refine ⟨fn, _, assign, body, hy, roundIn_of_wpIn trivial (wpIn_mono (hround pre x Y W hpre hi hk hYl hlt ⟨_, hl3⟩) ?_)⟩
    intro e a₁ w₁ h
    cases e with
    | normal =>
      obtain ⟨hk1, hb1⟩ := h
      have hl4 : w₁.heap[l]? = some (.loop (rec .ready none)) := hk1.heap hl3 (fun hx => hx)
      refine ⟨_, run_beginRound hl4 (by rw [hrec]), ?_⟩
      have hlt4 : l < w₁.heap.size := (Array.getElem?_eq_some_iff.1 hl4).1
      have hi1 : I pre Y w₁ := hI _ _ _ _ (hk1.weaken (fun _ _ h => h.elim)) hi
      have hi2 := hI _ _ _ _ (turn (Y := Y) w₁ (.loop { rec .ready none with state := .busy }) hY) hi1
      have hkw1 : Keep (fun b => X b ∨ Z b) w (w₁.putObj l (.loop { rec .ready none with state := .busy })) := (hk.trans (hk1.weaken fun _ _ h => h.elim)).putObj (.inr hl) _
      have hl5 : (w₁.putObj l (.loop { rec .ready none with state := .busy })).heap[l]? = some (.loop { rec .ready none with state := .busy }) := World.putObj_heap_same hlt4
      refine wpIn_mono (hb1 _ ((Keep.refl (fun b => b = l) w₁).putObj (.inl rfl) _) hkw1 hi2 ⟨_, hl5⟩) ?_
      have hX2 : Keep (fun b => (X b ∨ b = l) ∨ Y b) W (w₁.putObj l (.loop { rec .ready none with state := .busy })) := (hk1.weaken (fun _ _ h => h.elim)).putObj (.inl (.inl (.inr rfl))) _
      have hsz2 : W.heap.size ≤ (w₁.putObj l (.loop { rec .ready none with state := .busy })).heap.size := hX2.size
      have fin : ∀ (jump : Option Code) (W3 : World) (I' : List α → (Nat → Prop) → World → Prop), LowZ Z w.heap.size I' → Left X Y I' (pre ++ [x]) (w₁.putObj l (.loop { rec .ready none with state := .busy })) W3 →
          (Instr.endRound l jump).run P W3 = .ok (.bool jump.isNone) (W3.putObj l (.loop (rec (if jump.isNone then .ready else .done) jump))) ∧
          (W3.putObj l (.loop (rec (if jump.isNone then .ready else .done) jump))).heap[l]? = some (.loop (rec (if jump.isNone then .ready else .done) jump)) ∧
          ∃ Y', (∀ b, Y' b → W1.heap.size ≤ b) ∧ (∀ b, Y' b → Y b ∨ W.heap.size ≤ b) ∧ I' (pre ++ [x]) Y' (W3.putObj l (.loop (rec (if jump.isNone then .ready else .done) jump))) ∧
          Keep (fun b => X b ∨ Z b) w (W3.putObj l (.loop (rec (if jump.isNone then .ready else .done) jump))) ∧
          Keep (fun b => (X b ∨ b = l) ∨ Y b) W (W3.putObj l (.loop (rec (if jump.isNone then .ready else .done) jump))) := fun jump W3 I' hI' ⟨Y', hk3, hY', hi3⟩ => by
        have hl6 := hk3.heap hl5 (fun hx => by rcases hx with hx | hx; have := hX l hx; omega; have := hY l hx; omega)
        have hr := run_endRound (P := P) jump hl6
        have er : ({ ({ rec .ready none with state := .busy } : Loop) with state := if jump.isNone then .ready else .done, pending := jump } : Loop) = rec (if jump.isNone then .ready else .done) jump := by
          rw [hrec, hrec]
        rw [er] at hr
        have hY1 : ∀ b, Y' b → W1.heap.size ≤ b := fun b hb => by rcases hY' b hb with h | h; exact hY b h; omega
        refine ⟨hr, World.putObj_heap_same (Array.getElem?_eq_some_iff.1 hl6).1, Y', hY1, fun b hb => by rcases hY' b hb with h | h; exact .inl h; exact .inr (by omega), hI' _ _ _ _ (turn W3 _ hY1) hi3, ?_, ?_⟩
        · refine Keep.putObj ?_ (.inr hl) _
          exact ⟨hk3.os.trans hkw1.os, hk3.tape.trans hkw1.tape, hk3.output.trans hkw1.output, Nat.le_trans hkw1.size hk3.size, fun b hb hx => (hk3.same b (Nat.lt_of_lt_of_le hb hkw1.size) (fun h => by rcases h with h | h; exact hx (.inl h); have := hY b h; omega)).trans (hkw1.same b hb hx)⟩
        · exact (hX2.trans (hk3.weaken (fun _ _ h => by rcases h with h | h; exact .inl (.inl h); exact .inr h))).putObj (.inl (.inl (.inr rfl))) _
      rintro e a3 W3 hp
      cases e with
      | normal =>
        obtain ⟨hr, hl7, Y', q1, q2, q3, q4, q5⟩ := fin none W3 I hI hp
        exact ⟨_, _, hr, Y', q5, q2, .inl ⟨rfl, q1, q3, q4, hl7⟩⟩
      | ret =>
        obtain ⟨hr, hl7, Y', q1, q2, q3, q4, q5⟩ := fin (some .ret) W3 _ (hIx _) hp
        exact ⟨_, _, hr, Y', q5, q2, .inr ⟨rfl, q1, .ret, q3, q4, hl7⟩⟩
      | exit id =>
        obtain ⟨hr, hl7, Y', q1, q2, q3, q4, q5⟩ := fin (some (.exit id)) W3 _ (hIx _) hp
        exact ⟨_, _, hr, Y', q5, q2, .inr ⟨rfl, q1, .exit id, q3, q4, hl7⟩⟩
      | goto t =>
        obtain ⟨hr, hl7, Y', q1, q2, q3, q4, q5⟩ := fin (some (.goto t)) W3 _ (hIx _) hp
        exact ⟨_, _, hr, Y', q5, q2, .inr ⟨rfl, q1, .goto t, q3, q4, hl7⟩⟩
      | panic ch => exact hp.elim
      | outgrown => exact hp.elim
    | ret => exact h.elim
    | exit id => exact h.elim
    | goto t => exact h.elim
    | panic ch => exact h.elim
    | outgrown => exact h.elim
  · rintro e W2 ⟨⟨v, rfl⟩, hk2, (⟨L, Y, hFin, _, hY, hi, hk, hl2⟩ | ⟨pre, Y, hpre, _, hY, c, hi, hk, hl2⟩)⟩
    · have hr := run_endLoop (P := P) hl2 (by rw [hrec]; simp)
      have e1 : (rec .ready none).pending = none := by rw [hrec]
      rw [e1] at hr
      exact ⟨none, _, hr, hdone L Y _ hFin (hI _ _ _ _ (turn W2 _ hY) hi) hY (hk.putObj (.inr hl) _) (hk2.putObj (.inl (.inl (.inr rfl))) _)⟩
    · have hr := run_endLoop (P := P) hl2 (by rw [hrec]; simp)
      have e1 : (rec .done (some c)).pending = some c := by rw [hrec]
      rw [e1] at hr
      exact ⟨some c, _, hr, hstop c pre Y _ hpre (hIx c _ _ _ _ (turn W2 _ hY) hi) hY (hk.putObj (.inr hl) _) (hk2.putObj (.inl (.inl (.inr rfl))) _)⟩

theorem loop_out5 {α : Type} {g : Operand} {ps : Array Tmp} {assign body : Code} {Q : Exit → Act → World → Prop} {a : Act} {w : World}
    {gf : Nat} {lb : Array Value} (hg : a.eval g = .func (.func gf) #[] lb) (eg : ∀ args w, (callFunc gf args).run P w = .ok (.enter gf args) w)
    {encs : α → Array Value} {Ok Fin : List α → Prop} {Z Nd X : Nat → Prop} {w0 : World} (hit : Iter5 P gf lb encs Ok Fin Z Nd w0) (hps : ∀ x, (encs x).size = ps.size)
    (hX : ∀ b, X b → b < w.heap.size) (hNd : ∀ b, (Z b ∨ Nd b) → ¬ X b ∧ b < w.heap.size) (hNdw : ∀ b, (Z b ∨ Nd b) → w.heap[b]? = w0.heap[b]?) (hw0 : w0.heap.size ≤ w.heap.size)
    (I : List α → (Nat → Prop) → World → Prop) (Ix : Code → List α → (Nat → Prop) → World → Prop) (hI : LowZ Z w.heap.size I) (hSI : Slim I) (hIx : ∀ c, LowZ Z w.heap.size (Ix c)) (h0 : I [] (fun _ => False) w)
    (hround : ∀ l, w.heap.size ≤ l → Round5 P ps assign body a.tmps encs Ok X Z I Ix w l)
    (hdone : ∀ D L Y W, Fin L → w.heap.size ≤ D → W.heap[D]? = some (.deferred (some [])) → I L Y W → (∀ b, Y b → w.heap.size ≤ b ∧ b ≠ D) → Keep (fun b => X b ∨ Z b) w W → Q .normal { a with defers := { target := .collected D, args := #[] } :: a.defers } W)
    (hstop : ∀ D c pre Y W, w.heap.size ≤ D → W.heap[D]? = some (.deferred (some [])) → Ok pre → Ix c pre Y W → (∀ b, Y b → w.heap.size ≤ b ∧ b ≠ D) → Keep (fun b => X b ∨ Z b) w W → c.wpIn Fence.wide 0 P Q { a with defers := { target := .collected D, args := #[] } :: a.defers } W) :
    (Code.rangeFunc g ps assign body).wpIn Fence.wide 0 P Q a w := by
  refine wpIn_rangeFunc ?_
  intro fn _
  obtain ⟨rec, hrec⟩ : ∃ rec : LoopState → Option Code → Loop, rec = fun st pe => { state := st, pending := pe, fn, tmps := a.tmps, params := ps, assign, body, defers := w.heap.size } := ⟨_, rfl⟩
  obtain ⟨W1, hW1⟩ : ∃ W1, (w.alloc (.deferred (some []))).alloc (.loop (rec .ready none)) = W1 := ⟨_, rfl⟩
  have hL1 : W1.heap[w.heap.size + 1]? = some (.loop (rec .ready none)) := by
    rw [← hW1]; have := World.alloc_heap_new (w.alloc (.deferred (some []))) (.loop (rec .ready none)); rwa [World.size_alloc] at this
  have hD1 : W1.heap[w.heap.size]? = some (.deferred (some [])) := by
    rw [← hW1]; exact (Below.heap_alloc _ _ _ (by simp)).trans (World.alloc_heap_new w _)
  have hbw : Below w.heap.size w W1 := by
    rw [← hW1]; exact ((Below.refl _ w).alloc (Nat.le_refl _) _).alloc (by simp) _
  have hltD : w.heap.size < W1.heap.size := (Array.getElem?_eq_some_iff.1 hD1).1
  have hD : ∀ W, Keep (fun b => (X b ∨ b = w.heap.size + 1) ∨ Z b) W1 W → W.heap[w.heap.size]? = some (.deferred (some [])) := fun W hk =>
    hk.heap hD1 (fun h => by rcases h with (h | h) | h; have := hX _ h; omega; omega; have := (hNd _ (.inl h)).2; omega)
  refine ⟨w.heap.size + 1, [{ target := .collected w.heap.size, args := #[] }], W1, { target := .fn (.func gf) lb, args := #[.func (.yield (w.heap.size + 1)) #[] #[]] }, W1, gf,
    #[.func (.yield (w.heap.size + 1)) #[] #[]] ++ lb, W1, ?_, ?_, ?_, ?_, (fun h => by cases h), ?_⟩
  · rw [← hW1, hrec]; exact run_enterLoop_outer _ _ _ _ _
  · simp only [resolve, hg]
    simp [go_sem]
  · intro _ _; trivial
  · simp [invoke, go_sem, eg]
  · exact callsIn_wide.2 (loop_core5 hit hps (w.heap.size + 1) rec fn w.heap.size (by intro st pe; rw [hrec]) hX hNd hNdw hw0 (by omega) hL1 hbw I Ix hI hSI hIx h0
      (hround _ (by omega))
      (fun L Y W hF hi hY hk hk1 => hdone _ L Y W hF (Nat.le_refl _) (hD W hk1) hi (fun b hb => by have := hY b hb; omega) hk)
      (fun c pre Y W hp hi hY hk hk1 => hstop _ c pre Y W (Nat.le_refl _) (hD W hk1) hp hi (fun b hb => by have := hY b hb; omega) hk))
end Go.Kt
namespace Go.Kt
open Go Go.RowKit
variable {P : Program}

def Iter3 {α : Type} (P : Program) (gf : Nat) (lb : Array Value) (encs : α → Array Value) (L : List α) (Z Nd : Nat → Prop) (w0 : World) : Prop :=
  ∀ (l : Nat) (X : Nat → Prop) (J Jx : List α → (Nat → Prop) → World → Prop) (W : World),
    (∀ b, (Z b ∨ Nd b) → ¬ X b) → (∀ b, X b → b < W.heap.size) → (∀ b, (Z b ∨ Nd b) → W.heap[b]? = w0.heap[b]?) → w0.heap.size ≤ W.heap.size →
    LowZ Z W.heap.size J → LowZ Z W.heap.size Jx → Slim J →
    (∀ pre x Y W1, pre ++ [x] <+: L → J pre Y W1 → W.heap.size ≤ W1.heap.size → (∀ b, Y b → W.heap.size ≤ b) → YieldAt Fence.wide 0 P l (encs x) W1 fun e W' =>
      ∃ Y', Keep (fun b => X b ∨ Y b) W1 W' ∧ (∀ b, Y' b → Y b ∨ W1.heap.size ≤ b) ∧ ((e = .returned (.bool true) ∧ J (pre ++ [x]) Y' W') ∨ (e = .returned (.bool false) ∧ Jx (pre ++ [x]) Y' W'))) →
    J [] (fun _ => False) W →
    Calls P gf (#[.func (.yield l) #[] #[]] ++ lb) W fun e W' => (∃ v, e = .returned v) ∧ Keep (fun b => X b ∨ Z b) W W' ∧ ((∃ Y, (∀ b, Y b → W.heap.size ≤ b) ∧ J L Y W') ∨ ∃ pre Y, pre <+: L ∧ (∀ b, Y b → W.heap.size ≤ b) ∧ Jx pre Y W')

def Round3 {α : Type} (P : Program) (ps : Array Tmp) (assign body : Code) (tmps : Array Value) (encs : α → Array Value) (L : List α) (X Z : Nat → Prop) (I : List α → (Nat → Prop) → World → Prop) (Ix : Code → List α → (Nat → Prop) → World → Prop) (w : World) (l : Nat) : Prop :=
  ∀ (pre : List α) (x : α) (Y : Nat → Prop) (W : World), pre ++ [x] <+: L → I pre Y W → Keep (fun b => X b ∨ Z b) w W → (∀ b, Y b → w.heap.size ≤ b ∧ b ≠ l) → l < W.heap.size → (∃ r, W.heap[l]? = some (.loop r)) →
    assign.wpIn (Fence.wide.inRound l) 0 P (Exit.then (fun a₁ w₁ => Keep (fun _ => False) W w₁ ∧
        (∀ W2, Keep (fun b => b = l) w₁ W2 → Keep (fun b => X b ∨ Z b) w W2 → I pre Y W2 → (∃ r, W2.heap[l]? = some (.loop r)) → body.wpIn (Fence.wide.inRound l) 0 P (roundEnd X Y I Ix (pre ++ [x]) W2) a₁ W2)) (fun _ _ _ => False))
      { tmps := (ps.zip (encs x)).foldl (fun t (p, v) => t.setIfInBounds p v) tmps, defers := [] } W

theorem Iter3.five {α : Type} {gf : Nat} {lb : Array Value} {encs : α → Array Value} {L : List α} {Z Nd : Nat → Prop} {w0 : World} (h : Iter3 P gf lb encs L Z Nd w0) : Iter5 P gf lb encs (fun l => l <+: L) (fun l => l = L) Z Nd w0 := by
  intro l X J Jx W a b c d e f g hy j
  refine (h l X J Jx W a b c d e f g hy j).mono ?_
  rintro e W' ⟨h1, h2, ⟨Y, h3, h4⟩ | h3⟩
  · exact ⟨h1, h2, .inl ⟨L, Y, rfl, h3, h4⟩⟩
  · exact ⟨h1, h2, .inr h3⟩
theorem loop_out3 {α : Type} {g : Operand} {ps : Array Tmp} {assign body : Code} {Q : Exit → Act → World → Prop} {a : Act} {w : World}
    {gf : Nat} {lb : Array Value} (hg : a.eval g = .func (.func gf) #[] lb) (eg : ∀ args w, (callFunc gf args).run P w = .ok (.enter gf args) w)
    {encs : α → Array Value} {L : List α} {Z Nd X : Nat → Prop} {w0 : World} (hit : Iter3 P gf lb encs L Z Nd w0) (hps : ∀ x, (encs x).size = ps.size)
    (hX : ∀ b, X b → b < w.heap.size) (hNd : ∀ b, (Z b ∨ Nd b) → ¬ X b ∧ b < w.heap.size) (hNdw : ∀ b, (Z b ∨ Nd b) → w.heap[b]? = w0.heap[b]?) (hw0 : w0.heap.size ≤ w.heap.size)
    (I : List α → (Nat → Prop) → World → Prop) (Ix : Code → List α → (Nat → Prop) → World → Prop) (hI : LowZ Z w.heap.size I) (hSI : Slim I) (hIx : ∀ c, LowZ Z w.heap.size (Ix c)) (h0 : I [] (fun _ => False) w)
    (hround : ∀ l, w.heap.size ≤ l → Round3 P ps assign body a.tmps encs L X Z I Ix w l)
    (hdone : ∀ D Y W, w.heap.size ≤ D → W.heap[D]? = some (.deferred (some [])) → I L Y W → (∀ b, Y b → w.heap.size ≤ b ∧ b ≠ D) → Keep (fun b => X b ∨ Z b) w W → Q .normal { a with defers := { target := .collected D, args := #[] } :: a.defers } W)
    (hstop : ∀ D c pre Y W, w.heap.size ≤ D → W.heap[D]? = some (.deferred (some [])) → pre <+: L → Ix c pre Y W → (∀ b, Y b → w.heap.size ≤ b ∧ b ≠ D) → Keep (fun b => X b ∨ Z b) w W → c.wpIn Fence.wide 0 P Q { a with defers := { target := .collected D, args := #[] } :: a.defers } W) :
    (Code.rangeFunc g ps assign body).wpIn Fence.wide 0 P Q a w := by
  exact loop_out5 hg eg hit.five hps hX hNd hNdw hw0 I Ix hI hSI hIx h0 hround (fun D L' Y W h1 h2 h3 h4 h5 h6 => by subst h1; exact hdone D Y W h2 h3 h4 h5 h6) hstop
end Go.Kt
namespace Go.Kt
open Go Go.RowKit
variable {P : Program}

def Iter2 {α : Type} (P : Program) (gf : Nat) (lb : Array Value) (encs : α → Array Value) (L : List α) (Nd : Nat → Prop) (w0 : World) : Prop :=
  ∀ (l : Nat) (X : Nat → Prop) (J Jx : List α → (Nat → Prop) → World → Prop) (W : World),
    (∀ b, Nd b → ¬ X b) → (∀ b, X b → b < W.heap.size) → (∀ b, Nd b → W.heap[b]? = w0.heap[b]?) → w0.heap.size ≤ W.heap.size →
    Low W.heap.size J → Low W.heap.size Jx → Slim J →
    (∀ pre x Y W1, pre ++ [x] <+: L → J pre Y W1 → W.heap.size ≤ W1.heap.size → (∀ b, Y b → W.heap.size ≤ b) → YieldAt Fence.wide 0 P l (encs x) W1 fun e W' =>
      ∃ Y', Keep (fun b => X b ∨ Y b) W1 W' ∧ (∀ b, Y' b → Y b ∨ W1.heap.size ≤ b) ∧ ((e = .returned (.bool true) ∧ J (pre ++ [x]) Y' W') ∨ (e = .returned (.bool false) ∧ Jx (pre ++ [x]) Y' W'))) →
    J [] (fun _ => False) W →
    Calls P gf (#[.func (.yield l) #[] #[]] ++ lb) W fun e W' => (∃ v, e = .returned v) ∧ Keep X W W' ∧ ((∃ Y, (∀ b, Y b → W.heap.size ≤ b) ∧ J L Y W') ∨ ∃ pre Y, pre <+: L ∧ (∀ b, Y b → W.heap.size ≤ b) ∧ Jx pre Y W')

theorem Iter2.three {α : Type} {gf : Nat} {lb : Array Value} {encs : α → Array Value} {L : List α} {Nd : Nat → Prop} {w0 : World} (h : Iter2 P gf lb encs L Nd w0) : Iter3 P gf lb encs L (fun _ => False) Nd w0 := by
  intro l X J Jx W a b c d e f g hy j
  have lo : ∀ {K : List α → (Nat → Prop) → World → Prop}, LowZ (fun _ => False) W.heap.size K → Low W.heap.size K := fun h s Y A B hk => h s Y A B (hk.weaken fun b _ hb => ⟨.inr hb.1, hb.2⟩)
  refine (h l X J Jx W (fun b hb => a b (.inr hb)) b (fun b hb => c b (.inr hb)) d (lo e) (lo f) g hy j).mono ?_
  rintro e W' ⟨h1, h2, h3⟩
  exact ⟨h1, h2.weaken fun _ _ h => .inl h, h3⟩
theorem loop_out2 {α : Type} {g : Operand} {ps : Array Tmp} {assign body : Code} {Q : Exit → Act → World → Prop} {a : Act} {w : World}
    {gf : Nat} {lb : Array Value} (hg : a.eval g = .func (.func gf) #[] lb) (eg : ∀ args w, (callFunc gf args).run P w = .ok (.enter gf args) w)
    {encs : α → Array Value} {L : List α} {Nd X : Nat → Prop} {w0 : World} (hit : Iter2 P gf lb encs L Nd w0) (hps : ∀ x, (encs x).size = ps.size)
    (hX : ∀ b, X b → b < w.heap.size) (hNd : ∀ b, Nd b → ¬ X b ∧ b < w.heap.size) (hNdw : ∀ b, Nd b → w.heap[b]? = w0.heap[b]?) (hw0 : w0.heap.size ≤ w.heap.size)
    (I : List α → (Nat → Prop) → World → Prop) (Ix : Code → List α → (Nat → Prop) → World → Prop) (hI : Low w.heap.size I) (hSI : Slim I) (hIx : ∀ c, Low w.heap.size (Ix c)) (h0 : I [] (fun _ => False) w)
    (hround : ∀ l, w.heap.size ≤ l → Round P ps assign body a.tmps encs L X I Ix w l)
    (hdone : ∀ D Y W, w.heap.size ≤ D → W.heap[D]? = some (.deferred (some [])) → I L Y W → (∀ b, Y b → w.heap.size ≤ b ∧ b ≠ D) → Keep X w W → Q .normal { a with defers := { target := .collected D, args := #[] } :: a.defers } W)
    (hstop : ∀ D c pre Y W, w.heap.size ≤ D → W.heap[D]? = some (.deferred (some [])) → pre <+: L → Ix c pre Y W → (∀ b, Y b → w.heap.size ≤ b ∧ b ≠ D) → Keep X w W → c.wpIn Fence.wide 0 P Q { a with defers := { target := .collected D, args := #[] } :: a.defers } W) :
    (Code.rangeFunc g ps assign body).wpIn Fence.wide 0 P Q a w := by
  have lo : ∀ {K : List α → (Nat → Prop) → World → Prop}, Low w.heap.size K → LowZ (fun _ => False) w.heap.size K := fun h s Y A B hk => h s Y A B (hk.weaken fun b _ hb => ⟨hb.1.elim False.elim id, hb.2⟩)
  have kp : ∀ {A B : World}, Keep (fun b => X b ∨ False) A B → Keep X A B := fun h => h.weaken fun b _ h => h.elim id False.elim
  refine loop_out3 hg eg hit.three hps hX (fun b hb => hNd b (hb.elim False.elim id)) (fun b hb => hNdw b (hb.elim False.elim id)) hw0 I Ix (lo hI) hSI (fun c => lo (hIx c)) h0 (fun l hl => ?_)
    (fun D Y W h1 h2 h3 h4 h5 => hdone D Y W h1 h2 h3 h4 (kp h5)) (fun D c pre Y W h1 h2 h3 h4 h5 h6 => hstop D c pre Y W h1 h2 h3 h4 h5 (kp h6))
  intro pre x Y W h1 h2 h3 h4 h5 h6
  refine wpIn_mono (hround l hl pre x Y W h1 h2 (kp h3) h4 h5 h6) ?_
  intro e a1 w1 h
  cases e with
  | normal => exact ⟨h.1, fun W2 b1 b2 b3 b4 => h.2 W2 b1 (kp b2) b3 b4⟩
  | ret => exact h
  | exit id => exact h
  | goto t => exact h
  | panic ch => exact h
  | outgrown => exact h
end Go.Kt
namespace Go.Kt
open Go

section
variable {P : Program} {ops : Array Oper} {Q : Exit → Act → World → Prop} {md : Region.Mode}

def outside (ops : Array Oper) (k : Nat) : Bool := ops.all fun o => o.dst != some k
def apartB (ops : Array Oper) (n : Nat) : Bool :=
  (List.range ops.size).all fun i => match (ops.getD i default).dst with
    | none => true
    | some k => decide (k < n) && (List.range ops.size).all fun j => i == j || (ops.getD j default).dst != some k
def forwardB (md : Region.Mode) (ops : Array Oper) : Bool :=
  (List.range ops.size).all fun i => (ops.getD i default).after.all fun e => !Region.binds md e || decide (e.on < i)
def waitsB (md : Region.Mode) (o : Oper) (j : Nat) : Bool := o.after.any fun e => e.on == j && Region.binds md e
def slotB (ops : Array Oper) (j k : Nat) : Bool := match ops[j]? with | some o => o.dst == some k | none => false

structure Like (ops : Array Oper) (a0 a : Act) : Prop where
  defers : a.defers = a0.defers
  size : a.tmps.size = a0.tmps.size
  far : ∀ k, outside ops k = true → a.tmps.getD k undef = a0.tmps.getD k undef

def SlotStep (P : Program) (md : Region.Mode) (ops : Array Oper) (Q : Exit → Act → World → Prop) (S : World → Prop) (R : World → World → Prop) (p : Nat → Value → World → Prop) (a0 : Act) (i : Nat) (o : Oper) : Prop :=
  ∀ a w, S w → Like ops a0 a → (∀ j k, waitsB md o j = true → slotB ops j k = true → p j (a.tmps.getD k undef) w) →
    Region.wanted o (yielded ops a.tmps) = true ∧ o.wp P a w (fun a' w' => ∃ v, a' = a.put o.dst v ∧ S w' ∧ R w w' ∧ p i v w') Q
def SlotSteps (P : Program) (md : Region.Mode) (ops : Array Oper) (Q : Exit → Act → World → Prop) (S : World → Prop) (R : World → World → Prop) (p : Nat → Value → World → Prop) (a0 : Act) : Nat → List Oper → Prop
  | _, [] => True
  | i, o :: r => SlotStep P md ops Q S R p a0 i o ∧ SlotSteps P md ops Q S R p a0 (i + 1) r
theorem SlotSteps.get {S : World → Prop} {R : World → World → Prop} {p : Nat → Value → World → Prop} {a0 : Act} : ∀ (l : List Oper) (i : Nat), SlotSteps P md ops Q S R p a0 i l → ∀ j o, l[j]? = some o → SlotStep P md ops Q S R p a0 (i + j) o
  | [], _, _, j, o, h => by simp at h
  | x :: r, i, hs, 0, o, h => by simp at h; subst h; exact hs.1
  | x :: r, i, hs, j + 1, o, h => by
    have := SlotSteps.get r (i + 1) hs.2 j o (by simpa using h)
    rw [show i + (j + 1) = i + 1 + j by omega]; exact this

def unlisted (listed : Array Bool) (n : Nat) : Nat := ((List.range n).filter fun i => !listed.getD i true).length
theorem filter_set_lt (listed : Array Bool) (i : Nat) (h : listed.getD i true = false) : ∀ (l : List Nat), i ∈ l →
    (l.filter fun j => !(listed.setIfInBounds i true).getD j true).length < (l.filter fun j => !listed.getD j true).length := by
  have hi : i < listed.size := by
    rcases Nat.lt_or_ge i listed.size with h' | h'
    · exact h'
    · simp [Array.getD, Nat.not_lt.2 h'] at h
  have hle : ∀ l : List Nat, (l.filter fun j => !(listed.setIfInBounds i true).getD j true).length ≤ (l.filter fun j => !listed.getD j true).length := by
    intro l
    induction l with
    | nil => simp
    | cons x r ih =>
      by_cases hx : x = i
      · subst hx
        have h1 : (listed.setIfInBounds x true).getD x true = true := by simp [Array.getD, hi]
        simp only [List.filter_cons, h1, h, Bool.not_true, Bool.not_false, if_true, Bool.false_eq_true, if_false, List.length_cons]
        omega
      · have h1 : (listed.setIfInBounds i true).getD x true = listed.getD x true := by
          simp only [Array.getD_eq_getD_getElem?, Array.getElem?_setIfInBounds, if_neg (Ne.symm hx)]
        simp only [List.filter_cons, h1]
        split
        · simp only [List.length_cons]; omega
        · exact ih
  intro l
  induction l with
  | nil => intro hm; cases hm
  | cons x r ih =>
    intro hm
    by_cases hx : x = i
    · subst hx
      have h1 : (listed.setIfInBounds x true).getD x true = true := by simp [Array.getD, hi]
      have := hle r
      simp only [List.filter_cons, h1, h, Bool.not_true, Bool.not_false, if_true, Bool.false_eq_true, if_false, List.length_cons]
      omega
    · have h1 : (listed.setIfInBounds i true).getD x true = listed.getD x true := by
        simp only [Array.getD_eq_getD_getElem?, Array.getElem?_setIfInBounds, if_neg (Ne.symm hx)]
      have hm' : i ∈ r := by
        rcases List.mem_cons.1 hm with h | h
        · exact absurd h.symm hx
        · exact h
      have := ih hm'
      simp only [List.filter_cons, h1]
      split
      · simp only [List.length_cons]; omega
      · exact this

theorem wpAny_inv (I : Array Bool → Act → World → Prop)
    (step : ∀ listed a w i, I listed a w → i ∈ Region.ready md ops listed → wpOp P ops Q i (I (listed.setIfInBounds i true)) a w)
    (done : ∀ listed a w, I listed a w → Region.ready md ops listed = [] → Q .normal a w) :
    ∀ fuel listed a w, unlisted listed ops.size ≤ fuel → I listed a w → wpAny P md ops Q fuel listed a w := by
  intro fuel
  induction fuel with
  | zero =>
    intro listed a w hf hI
    have hr : Region.ready md ops listed = [] := by
      rcases List.eq_nil_or_concat (Region.ready md ops listed) with h | ⟨l, i, h⟩
      · exact h
      · have hi : i ∈ Region.ready md ops listed := by rw [h]; simp
        obtain ⟨h1, o, ho, _⟩ := mem_ready.1 hi
        have hm : i ∈ (List.range ops.size).filter fun i => !listed.getD i true := by
          rw [List.mem_filter]
          exact ⟨List.mem_range.2 (Array.getElem?_eq_some_iff.1 ho).1, by rw [h1]; rfl⟩
        have := List.length_pos_of_mem hm
        unfold unlisted at hf
        omega
    exact ⟨hr, done _ _ _ hI hr⟩
  | succ fuel ih =>
    intro listed a w hf hI
    refine ⟨done _ _ _ hI, fun i hi => ?_⟩
    obtain ⟨h1, o, ho, _⟩ := mem_ready.1 hi
    have hlt := filter_set_lt listed i h1 (List.range ops.size) (List.mem_range.2 (Array.getElem?_eq_some_iff.1 ho).1)
    refine wpOp_mono (fun a' w' h' => ih _ a' w' ?_ h') (step listed a w i hI hi)
    unfold unlisted at hf ⊢
    omega

end
end Go.Kt
namespace Go.Kt
open Go
section
variable {P : Program} {ops : Array Oper} {Q : Exit → Act → World → Prop}
theorem wp_value {o : Oper} {a : Act} {w w' : World} {v : Value} {K : Act → World → Prop} (h : (execOp a.eval o).run P w = .ok (.value v) w') (hK : K (a.put o.dst v) w') : o.wp P a w K Q := by
  unfold Oper.wp; rw [h]; exact hK
theorem wp_enter {o : Oper} {a : Act} {w w' : World} {f : Nat} {args : Array Value} {K : Act → World → Prop} (h : (execOp a.eval o).run P w = .ok (.enter f args) w')
    (hK : Calls P f args w' fun e w'' => ∃ v, e = .returned v ∧ K (a.put o.dst v) w'') : o.wp P a w K Q := by
  unfold Oper.wp; rw [h]
  refine Calls.mono hK fun e w'' he => ?_
  obtain ⟨v, rfl, hv⟩ := he
  exact hv
theorem wp_skipped {o : Oper} {a : Act} {w w' : World} {K : Act → World → Prop} (h : (execOp a.eval o).run P w = .ok .skip w') (hK : K (a.put o.dst undef) w') : o.wp P a w K Q := by
  unfold Oper.wp; rw [h]; exact hK
theorem run_val {m : Sem Value} {w w' : World} {v : Value} (h : m.run P w = .ok v w') : (m >>= fun x => pure (Next.value x)).run P w = .ok (.value v) w' := by
  simp [h]
end
end Go.Kt
namespace Go.Kt
open Go
section
variable {P : Program} {ops : Array Oper} {Q : Exit → Act → World → Prop} {o : Oper} {a : Act} {w w' : World}
theorem exec_load {t : TypeId} {x : Operand} {u v : Value} (ho : o.op = .load t x) (hx : a.eval x = u) (h : (Instr.loadAt t u).run P w = .ok v w') : (execOp a.eval o).run P w = .ok (.value v) w' := by
  unfold execOp; rw [ho]; simp only [hx]; exact run_val h
theorem exec_binop {op : BinOp} {t ty : TypeId} {x y : Operand} {u1 u2 v : Value} (ho : o.op = .binOp op t x y ty) (hx : a.eval x = u1) (hy : a.eval y = u2) (h : (do eqGuard op t x y u1 u2; binOp op t u1 u2 : Sem Value).run P w = .ok v w') : (execOp a.eval o).run P w = .ok (.value v) w' := by
  unfold execOp; rw [ho]; simp only [hx, hy]; exact run_val h
theorem exec_move {x : Operand} {u : Value} (ho : o.op = .move x) (hx : a.eval x = u) : (execOp a.eval o).run P w = .ok (.value u) w := by
  unfold execOp; rw [ho]; simp only [hx]; rfl
theorem exec_store {t : TypeId} {x y : Operand} {u1 u2 : Value} (ho : o.op = .store t x y) (hx : a.eval x = u1) (hy : a.eval y = u2) (h : (Instr.storeAt t u1 u2).run P w = .ok () w') : (execOp a.eval o).run P w = .ok .skip w' := by
  unfold execOp; rw [ho]; simp only [hx, hy]; simp [h]
theorem exec_call {f : FuncId} {args : Array Operand} {ats : Array TypeId} {vs : Array Value} {fn : Func} (ho : o.op = .call ⟨.value (.func f), args, ats⟩) (hx : args.map a.eval = vs) (hf : P.funcs[f]? = some fn) (hn : (fn.name == "runtime.NumGoroutine") = false) (hb : fn.body.isNone = false) : (execOp a.eval o).run P w = .ok (.enter f vs) w := by
  unfold execOp; rw [ho]; simp only [resolve, hx, Act.eval, Deferred.ofValue, invoke, callFunc]
  have h1 : ¬ fn.name = "runtime.NumGoroutine" := fun h => by rw [h] at hn; exact absurd hn (by decide)
  have h2 : ¬ fn.body = none := fun h => by rw [h] at hb; cases hb
  simp [hf, h1, h2]
end
end Go.Kt
namespace Go.Kt
open Go
section
variable {P : Program} {ops : Array Oper} {o : Oper} {a : Act} {w w' : World}
def dsts (ops : Array Oper) : List Nat := ops.toList.filterMap (·.dst)
theorem foldl_set_size (f : Nat → Value) : ∀ (ks : List Nat) (t : Array Value), (ks.foldl (fun t k => t.setIfInBounds k (f k)) t).size = t.size
  | [], _ => rfl
  | k :: ks, t => by rw [List.foldl_cons, foldl_set_size f ks]; simp
theorem foldl_set_get (f : Nat → Value) : ∀ (ks : List Nat) (t : Array Value) (i : Nat), i < t.size → (ks.foldl (fun t k => t.setIfInBounds k (f k)) t).getD i undef = if i ∈ ks then f i else t.getD i undef
  | [], t, i, _ => by simp
  | k :: ks, t, i, h => by
    rw [List.foldl_cons, foldl_set_get f ks _ i (by simpa using h)]
    by_cases h1 : i ∈ ks
    · simp [h1]
    · by_cases h2 : k = i
      · subst h2
        simp [h1, Array.getD_eq_getD_getElem?, h]
      · simp [h1, Ne.symm h2, Array.getD_eq_getD_getElem?, h2]
theorem Like.out {a0 : Act} (h : Like ops a0 a) (ks : List Nat) (hk : dsts ops = ks) : ∃ f : Nat → Value, a = ⟨ks.foldl (fun t k => t.setIfInBounds k (f k)) a0.tmps, a0.defers⟩ ∧ ∀ k, f k = a.tmps.getD k undef := by
  refine ⟨fun k => a.tmps.getD k undef, ?_, fun _ => rfl⟩
  obtain ⟨t, d⟩ := a
  obtain ⟨h1, h2, h3⟩ := h
  simp only at h1 h2 h3 ⊢
  subst h1
  congr 1
  refine Array.ext (by rw [foldl_set_size]; exact h2) fun i hi hi' => ?_
  have hlt : i < a0.tmps.size := by rw [← h2]; exact hi
  have e1 : t[i] = t.getD i undef := by simp [Array.getD_eq_getD_getElem?, hi]
  have e2 : ∀ (x : Array Value) (hx : i < x.size), x[i] = x.getD i undef := fun x hx => by simp [Array.getD_eq_getD_getElem?, hx]
  rw [e1, e2 _ hi', foldl_set_get _ _ _ _ hlt]
  by_cases hno : i ∈ ks
  · rw [if_pos hno]
  · rw [if_neg hno]
    refine h3 i ?_
    unfold outside
    rw [Array.all_eq_true_iff_forall_mem]
    intro x hx
    have : x.dst ≠ some i := fun e => hno (by
      rw [← hk]
      exact List.mem_filterMap.2 ⟨x, by simpa using hx, e⟩)
    simpa using this
end
end Go.Kt
namespace Go.Kt
open Go
section
variable {P : Program} {o : Oper} {a : Act} {w w' : World}
theorem exec_indexAddr {t : TypeId} {x y : Operand} {u1 u2 v : Value} (ho : o.op = .indexAddr t x y) (hx : a.eval x = u1) (hy : a.eval y = u2) (h : (Instr.indexAt t u1 u2).run P w = .ok v w') : (execOp a.eval o).run P w = .ok (.value v) w' := by
  unfold execOp; rw [ho]; simp only [hx, hy]; exact run_val h
theorem exec_fieldAddr {t : TypeId} {x : Operand} {f : Nat} {u v : Value} (ho : o.op = .fieldAddr t x f) (hx : a.eval x = u) (h : (Instr.fieldAt t u f).run P w = .ok v w') : (execOp a.eval o).run P w = .ok (.value v) w' := by
  unfold execOp; rw [ho]; simp only [hx]; exact run_val h
theorem exec_buildSlice {t : TypeId} {n : Nat} {parts : Array (Nat × Operand)} {ps : Array (Nat × Value)} {v : Value} (ho : o.op = .buildSlice t n parts) (hp : parts.map (fun p => (p.1, a.eval p.2)) = ps) (h : (Instr.buildSlice t n ps).run P w = .ok v w') : (execOp a.eval o).run P w = .ok (.value v) w' := by
  unfold execOp; rw [ho]; simp only []; subst hp; exact run_val h
theorem exec_build {t : TypeId} {parts : Array (Nat × Operand)} {ps : Array (Nat × Value)} {v : Value} (ho : o.op = .build t parts) (hp : parts.map (fun p => (p.1, a.eval p.2)) = ps) (h : (Instr.build t ps).run P w = .ok v w') : (execOp a.eval o).run P w = .ok (.value v) w' := by
  unfold execOp; rw [ho]; simp only []; subst hp; exact run_val h
theorem exec_nilCheck {x : Operand} {p : Addr} (ho : o.op = .nilCheck x) (hx : a.eval x = .pointer (some p)) : (execOp a.eval o).run P w = .ok (.value (.pointer (some p))) w := by
  unfold execOp; rw [ho]; simp only [hx]; rfl
end
end Go.Kt
namespace Go.Kt
open Go Go.RowKit Go.Lib
variable {P : Program}

end Go.Kt
namespace Go.Kt
open Go Go.RowKit

section
variable {P : Program} {o : Oper} {a : Act} {w w' : World}
theorem exec_slice {t : TypeId} {x : Operand} {lo hi mx : Option Operand} {u v : Value} {l h m : Option Value} (ho : o.op = .slice t x lo hi mx) (hx : a.eval x = u) (h1 : lo.map a.eval = l) (h2 : hi.map a.eval = h) (h3 : mx.map a.eval = m) (hr : (Instr.sliceAt t u l h m).run P w = .ok v w') : (execOp a.eval o).run P w = .ok (.value v) w' := by
  unfold execOp; rw [ho]; simp only [hx, h1, h2, h3]; exact run_val hr
end
end Go.Kt
namespace Go.Kt
open Go Go.RowKit Go.Maps

def rawR (v : Value) : Option (DataW Value × List MemPlace) := some (.held v, [])
def MapG (P : Program) (k : TypeId) (b n : Nat) (f : Lit → Option Value) (w : World) : Prop :=
  ∃ D : DataW Value, w.ownsMap P k rawR b n D ∧ (∀ kl, WideAt.IsKeyLit kl → Maps.has D kl = (f kl).isSome) ∧ ∀ kl v, WideAt.IsKeyLit kl → f kl = some v → ∀ z, D.atKey kl z = .held v

section
variable {P : Program} {k e t : TypeId} {b n : Nat} {f : Lit → Option Value} {w : World}
theorem MapG.lt (h : MapG P k b n f w) : b < w.heap.size := by
  obtain ⟨D, h1, _⟩ := h
  exact h1.lt
theorem MapG.of_heap {w' : World} (h : MapG P k b n f w) (hb : w'.heap[b]? = w.heap[b]?) : MapG P k b n f w' := by
  obtain ⟨D, ⟨es, clock, h1, h2⟩, h3⟩ := h
  exact ⟨D, ⟨es, clock, hb.trans h1, h2⟩, h3⟩
theorem MapG.keep {X : Nat → Prop} {w' : World} (h : MapG P k b n f w) (hk : Keep X w w') (hX : ¬ X b) : MapG P k b n f w' := h.of_heap (hk.same b h.lt hX)
theorem MapG.below {B : Nat} {w' : World} (h : MapG P k b n f w) (hk : Below B w w') (hb : b < B) : MapG P k b n f w' := h.of_heap (hk.block b hb)
theorem MapG.mono {m : Nat} (h : MapG P k b n f w) (hm : n ≤ m) : MapG P k b m f w := by
  obtain ⟨D, h1, h2⟩ := h
  exact ⟨D, h1.mono hm, h2⟩
theorem MapG.made (w : World) (P : Program) (k : TypeId) : MapG P k w.heap.size 0 (fun _ => none) (w.alloc (.map #[] 0)) :=
  ⟨.map [], World.ownsMap_made w P k rawR, fun _ _ => rfl, fun _ _ _ h => by cases h⟩
theorem MapG.look (h : MapG P k b n f w) (K : Keyed P k) (ht : P.underlying t = some (.map k e)) {z : Value} (hz : (zeroValue e).run P w = .ok z w) {key : Value} {kl : Lit} (hkey : keyOf P k key = some kl) :
    (Instr.lookup t (.map (some b)) key true).run P w = .ok (.tuple #[(f kl).getD z, .bool (f kl).isSome]) w := by
  obtain ⟨D, h1, h2, h3⟩ := h
  obtain ⟨v, ps, hr, hv⟩ := h1.look_ok K ht hz (zd := .held z) (zp := []) rfl hkey
  rw [hr, h2 kl (K.key hkey)]
  have hv' : DataW.held v = D.atKey kl (.held z) := by
    unfold rawR at hv
    exact congrArg Prod.fst (Option.some.inj hv)
  cases hf : f kl with
  | none =>
    have : Maps.has D kl = false := by rw [h2 kl (K.key hkey), hf]; rfl
    rw [atKey_of_not_has this] at hv'
    injection hv' with e1
    subst e1
    rfl
  | some u =>
    rw [h3 kl u (K.key hkey) hf] at hv'
    injection hv' with e1
    subst e1
    rfl
theorem MapG.look1 (h : MapG P k b n f w) (K : Keyed P k) (ht : P.underlying t = some (.map k e)) {z : Value} (hz : (zeroValue e).run P w = .ok z w) {key : Value} {kl : Lit} (hkey : keyOf P k key = some kl) :
    (Instr.lookup t (.map (some b)) key false).run P w = .ok ((f kl).getD z) w := by
  obtain ⟨D, h1, h2, h3⟩ := h
  obtain ⟨v, ps, hr, hv⟩ := h1.lookup K ht hz (zd := .held z) (zp := []) rfl hkey
  rw [hr]
  have hv' : DataW.held v = D.atKey kl (.held z) := by
    unfold rawR at hv
    exact congrArg Prod.fst (Option.some.inj hv)
  cases hf : f kl with
  | none =>
    have : Maps.has D kl = false := by rw [h2 kl (K.key hkey), hf]; rfl
    rw [atKey_of_not_has this] at hv'
    injection hv' with e1
    subst e1
    rfl
  | some u =>
    rw [h3 kl u (K.key hkey) hf] at hv'
    injection hv' with e1
    subst e1
    rfl
def putF (f : Lit → Option Value) (kl : Lit) (v : Value) : Lit → Option Value := fun l => if l.sameKey kl then some v else f l
theorem putF_same (f : Lit → Option Value) {kl : Lit} (v : Value) (h : WideAt.IsKeyLit kl) : putF f kl v kl = some v := if_pos (WideAt.sameKey_self h)
theorem putF_other {f : Lit → Option Value} {kl l : Lit} (v : Value) (h : l ≠ kl) : putF f kl v l = f l := if_neg (by rw [sameKey_ne h]; exact Bool.false_ne_true)
theorem MapG.put (h : MapG P k b n f w) (K : Keyed P k) (ht : P.underlying t = some (.map k e)) (hn : n < maxLen) {key val : Value} {kl : Lit} (hkey : keyOf P k key = some kl) :
    ∃ w', (Instr.mapUpdate t (.map (some b)) key val).run P w = .ok () w' ∧ MapG P k b (n + 1) (putF f kl val) w' ∧ Keep (fun x => x = b) w w' := by
  obtain ⟨D, h1, h2, h3⟩ := h
  have hm : IsMap D := h1.isMap
  obtain ⟨w', hr, h4, h5⟩ := h1.store K ht hn (val := val) (d := .held val) (ps := []) hkey rfl
  refine ⟨w', hr, ⟨D.put kl (.held val), h4, fun l hl => ?_, fun l v hl hf z => ?_⟩, ?_⟩
  · by_cases e1 : l = kl
    · subst e1; rw [has_put_same hm (K.key hkey), putF_same _ _ (K.key hkey)]; rfl
    · rw [has_put_other e1, putF_other _ e1, h2 l hl]
  · by_cases e1 : l = kl
    · subst e1
      rw [putF_same _ _ (K.key hkey)] at hf
      rw [atKey_put_same hm (K.key hkey), Option.some.inj hf]
    · rw [putF_other _ e1] at hf
      rw [atKey_put_other e1]
      exact h3 l v hl hf z
  · have hg := h5.grown
    exact ⟨hg.os, hg.tape, hg.output, hg.size, fun x hx hne => hg.block x hx (fun e1 => hne (by injection e1))⟩
end

theorem wpList_put {P : Program} (w : World) {ops : Array Oper} {rest : List Oper} {o : Oper} {a : Act} {Q : Exit → Act → World → Prop}
    (hg : o.guard = none) (m x v : Operand) (t : TypeId) (hop : o.op = Op.mapUpdate t m x v)
    (k e : TypeId) (K : Keyed P k) (ht : P.underlying t = some (.map k e)) (b n : Nat) (f : Lit → Option Value)
    (hm : a.eval m = .map (some b)) (hown : MapG P k b n f w) (hn : n < maxLen) (key val : Value) (kl : Lit) (hx : a.eval x = key) (hv : a.eval v = val) (hkey : keyOf P k key = some kl)
    (hK : ∀ w', MapG P k b (n + 1) (putF f kl val) w' → Keep (fun x => x = b) w w' → wpList P ops Q rest (a.put o.dst undef) w') :
    wpList P ops Q (o :: rest) a w := by
  refine wpList_plain hg fun K' hK' => ?_
  obtain ⟨w', hrun, r1, r2⟩ := hown.put K ht hn (val := val) hkey
  unfold Oper.wp
  simp [execOp, hop, hm, hx, hv, hrun, Result.andThen]
  exact hK' _ _ (hK w' r1 r2)
end Go.Kt
namespace Go.Kt
open Go Go.RowKit
variable {P : Program}

theorem alloc_at {A : World} {o : Obj} {k : Nat} (hk : k = A.heap.size) : (A.alloc o).heap[k]? = some o := by rw [hk]; exact World.alloc_heap_new A o
theorem alloc_old {A : World} {o x : Obj} {k : Nat} (h : A.heap[k]? = some x) : (A.alloc o).heap[k]? = some x := ((Keep.refl (fun _ => False) A).alloc o).heap h (fun h => h)
theorem set_at {A : World} {k : Nat} {v u : Value} {t : TypeId} {fr : Nat × Nat} (h : A.heap[k]? = some (.cells #[v] t fr)) : (A.setCell ⟨k, 0, none⟩ u).heap[k]? = some (.cells #[u] t fr) := by
  simp [World.setCell, Array.getElem?_modify, h]
theorem set_old {A : World} {j k : Nat} {o : Nat} {x : Obj} {u : Value} (h : A.heap[j]? = some x) (hne : j ≠ k) : (A.setCell ⟨k, o, none⟩ u).heap[j]? = some x :=
  ((Keep.refl (fun b => b = k) A).setCell (p := ⟨k, o, none⟩) rfl u).heap h hne
theorem cell_one {A : World} {k : Nat} {v : Value} {t : TypeId} {fr : Nat × Nat} (h : A.heap[k]? = some (.cells #[v] t fr)) : A.cell? ⟨k, 0, none⟩ = some v := by
  simp [World.cell?, h]
theorem frozen_one {A : World} {k : Nat} {v : Value} {t : TypeId} (h : A.heap[k]? = some (.cells #[v] t (0, 0))) : A.frozen? ⟨k, 0, none⟩ = false := by
  simp [World.frozen?, h]

end Go.Kt
namespace Go.Kt
open Go Go.RowKit

theorem own_from_base {B : Nat} {e : TypeId} {size n : Nat} {v : Value} {xs : List Value} {W : World} (h : W.ownsRow B e size v n xs) : OwnS (fun b => B ≤ b) e size v n xs W := by
  refine ⟨⟨h.1, ?_⟩, fun g hg => ?_⟩
  · rcases h.2 with h1 | ⟨g, cap, cur, rfl, _, rest⟩
    · exact .inl h1
    · exact .inr ⟨g, cap, cur, rfl, Nat.zero_le _, rest⟩
  · rcases h.2 with ⟨rfl, _⟩ | ⟨g', cap, cur, rfl, hb, _⟩
    · cases hg
    · cases hg; exact hb
theorem own_to_base {Y : Nat → Prop} {e : TypeId} {size n base : Nat} {v : Value} {xs : List Value} {W : World} (h : OwnS Y e size v n xs W) (hY : ∀ b, Y b → base ≤ b) : W.ownsRow base e size v n xs := by
  obtain ⟨⟨hl, h2⟩, hY'⟩ := h
  refine ⟨hl, ?_⟩
  rcases h2 with h2 | ⟨g, cap, cur, rfl, hb, hg, rest⟩
  · exact .inl h2
  · exact .inr ⟨g, cap, cur, rfl, hY g (hY' g rfl), hg, rest⟩
theorem append_no_more {w : World} {base : Nat} {P : Program} (t ty e : TypeId) (i : TypeInfo) (size : Nat) (ht : P.underlying t = some (.slice e)) (hi : P.info? e = some i)
    (v : Value) (n : Nat) (xs : List Value) (hown : w.ownsRow base e size v n xs) (c : Nat) :
    (Builtin.append_ #[t, t] ty #[v, .slice none 0 c]).run P w = .ok v w := by
  rcases hown.2 with ⟨rfl, rfl⟩ | ⟨g, cap, cur, rfl, _, _, hnc, _⟩
  · simp [Builtin.append_, run_underlying ht, sizeOf, typeInfo, hi, Builtin.lenOf, Builtin.firstCells]
  · simp [Builtin.append_, run_underlying ht, sizeOf, typeInfo, hi, Builtin.lenOf, Builtin.firstCells, hnc, storeCells]
theorem OwnS.atN {Y : Nat → Prop} {e : TypeId} {size n g cap : Nat} {xs : List Value} {W : World} (h : OwnS Y e size (.slice (some ⟨g, 0, none⟩) n cap) n xs W) {i : Nat} {u : Value} (hi : xs[i]? = some u) : W.cell? ⟨g, i, none⟩ = some u := by
  have := h.1.cells (g := g) rfl i u hi
  rwa [Addr.add_lit, Nat.zero_add] at this
end Go.Kt
namespace Go.Kt.Sg
open Go.Sort
variable {α : Type} (ky : α → Int)

def Flt (l r : List α) : Prop := ∀ c, r.filter (fun x => ky x = c) = l.filter (fun x => ky x = c)
def Rise (l : List α) : Prop := l.Pairwise fun x y => ky x ≤ ky y

variable {ky}
theorem Flt.refl (l : List α) : Flt ky l l := fun _ => rfl
theorem Flt.trans {l r s : List α} (h : Flt ky l r) (k : Flt ky r s) : Flt ky l s := fun c => (k c).trans (h c)
theorem Flt.symm {l r : List α} (h : Flt ky l r) : Flt ky r l := fun c => (h c).symm
theorem Flt.mem {l r : List α} (h : Flt ky l r) {x : α} (hx : x ∈ r) : x ∈ l := by
  have : x ∈ r.filter (fun y => ky y = ky x) := List.mem_filter.2 ⟨hx, by simp⟩
  rw [h] at this
  exact (List.mem_filter.1 this).1
theorem Flt.append {l r s t : List α} (h : Flt ky l r) (k : Flt ky s t) : Flt ky (l ++ s) (r ++ t) := fun c => by rw [List.filter_append, List.filter_append, h, k]
theorem Flt.cancel {x y l r : List α} (h : Flt ky (x ++ l ++ y) (x ++ r ++ y)) : Flt ky l r := fun c => by
  have := h c
  simp only [List.filter_append] at this
  exact List.append_cancel_left (List.append_cancel_right this)
theorem Flt.turn {l r : List α} (h : ∀ x ∈ l, ∀ y ∈ r, ky y < ky x) : Flt ky (l ++ r) (r ++ l) := fun c => by
  rw [List.filter_append, List.filter_append]
  rcases hr : r.filter (fun x => ky x = c) with _ | ⟨y, _⟩
  · simp
  · have hy : y ∈ r.filter (fun x => ky x = c) := by rw [hr]; exact List.mem_cons_self
    obtain ⟨hy1, hy2⟩ := List.mem_filter.1 hy
    have : l.filter (fun x => ky x = c) = [] := List.filter_eq_nil_iff.2 fun x hx => by
      have h1 := h x hx y hy1
      have h2 : ky y = c := by simpa using hy2
      simp; omega
    rw [this]; simp

theorem Rise.eq : ∀ {l r : List α}, Rise ky l → Rise ky r → Flt ky l r → r = l
  | [], [], _, _, _ => rfl
  | [], y :: r, _, _, h => absurd (h.mem (List.mem_cons_self)) List.not_mem_nil
  | x :: l, [], _, _, h => absurd (h.symm.mem (List.mem_cons_self)) List.not_mem_nil
  | x :: l, y :: r, hl, hr, h => by
    have hl' := List.pairwise_cons.1 hl
    have hr' := List.pairwise_cons.1 hr
    have e : ky x = ky y := by
      have h1 := h.mem (List.mem_cons_self (a := y))
      have h2 := h.symm.mem (List.mem_cons_self (a := x))
      have a1 : ky x ≤ ky y := by rcases List.mem_cons.1 h1 with rfl | m; exact Int.le_refl _; exact hl'.1 _ m
      have a2 : ky y ≤ ky x := by rcases List.mem_cons.1 h2 with rfl | m; exact Int.le_refl _; exact hr'.1 _ m
      omega
    have hc := h (ky x)
    rw [List.filter_cons_of_pos (by simpa using e.symm), List.filter_cons_of_pos (by simp)] at hc
    injection hc with e1 _
    subst e1
    have ht : Flt ky l r := fun c => by
      have := h c
      by_cases k : ky y = c
      · rw [List.filter_cons_of_pos (by simpa using k), List.filter_cons_of_pos (by simpa using k)] at this
        injection this
      · rw [List.filter_cons_of_neg (by simpa using k), List.filter_cons_of_neg (by simpa using k)] at this
        exact this
    rw [Rise.eq hl'.2 hr'.2 ht]

def put (ky : α → Int) (x : α) : List α → List α
  | [] => [x]
  | y :: l => if ky x < ky y then x :: y :: l else y :: put ky x l
def srt (ky : α → Int) (l : List α) : List α := l.foldl (fun r x => put ky x r) []

theorem put_flt (x : α) : ∀ l : List α, Rise ky l → Flt ky (l ++ [x]) (put ky x l)
  | [], _ => Flt.refl _
  | y :: l, hl => by
    have hl' := List.pairwise_cons.1 hl
    unfold put
    split
    · next h =>
      exact Flt.turn (l := y :: l) (r := [x]) fun a ha b hb => by
        rw [List.mem_singleton.1 hb]
        rcases List.mem_cons.1 ha with rfl | m
        · exact h
        · have := hl'.1 _ m; omega
    · exact Flt.append (Flt.refl [y]) (put_flt x l hl'.2)
theorem put_mem {x z : α} : ∀ {l : List α}, z ∈ put ky x l → z = x ∨ z ∈ l
  | [], h => .inl (List.mem_singleton.1 h)
  | y :: l, h => by
    unfold put at h
    split at h
    · exact List.mem_cons.1 h
    · rcases List.mem_cons.1 h with rfl | m
      · exact .inr List.mem_cons_self
      · exact (put_mem m).imp id (List.mem_cons_of_mem _)
theorem put_rise (x : α) : ∀ l : List α, Rise ky l → Rise ky (put ky x l)
  | [], _ => List.pairwise_singleton _ _
  | y :: l, hl => by
    have hl' := List.pairwise_cons.1 hl
    unfold put
    split
    · next h =>
      refine List.pairwise_cons.2 ⟨fun z hz => ?_, hl⟩
      rcases List.mem_cons.1 hz with rfl | m
      · omega
      · have := hl'.1 _ m; omega
    · next h =>
      refine List.pairwise_cons.2 ⟨fun z hz => ?_, put_rise x l hl'.2⟩
      rcases put_mem hz with rfl | m
      · omega
      · exact hl'.1 _ m
theorem fold_ok : ∀ (l r : List α), Rise ky r → Rise ky (l.foldl (fun r x => put ky x r) r) ∧ Flt ky (r ++ l) (l.foldl (fun r x => put ky x r) r)
  | [], r, h => ⟨h, by simpa using Flt.refl r⟩
  | x :: l, r, h => by
    have := fold_ok l (put ky x r) (put_rise x r h)
    refine ⟨this.1, Flt.trans ?_ this.2⟩
    have e : r ++ x :: l = r ++ [x] ++ l := by simp
    rw [e]
    exact Flt.append (put_flt x r h) (Flt.refl l)
theorem srt_rise (l : List α) : Rise ky (srt ky l) := (fold_ok l [] List.Pairwise.nil).1
theorem srt_flt (l : List α) : Flt ky l (srt ky l) := by
  have := (fold_ok (ky := ky) l [] List.Pairwise.nil).2
  rw [List.nil_append] at this
  exact this
theorem srt_eq {l r : List α} (h : Rise ky r) (k : Flt ky l r) : r = srt ky l := (Rise.eq (srt_rise l) h ((srt_flt l).symm.trans k))
theorem srt_len (l : List α) : (srt ky l).length = l.length := by
  have : ∀ (l r : List α), (l.foldl (fun r x => put ky x r) r).length = r.length + l.length := by
    intro l
    induction l with
    | nil => intro r; simp
    | cons x l ih =>
      intro r
      have : (put ky x r).length = r.length + 1 := by
        induction r with
        | nil => rfl
        | cons y r ih2 => unfold put; split <;> simp_all
      rw [List.foldl_cons, ih, this, List.length_cons]; omega
  have h := this l []
  rw [List.length_nil, Nat.zero_add] at h
  exact h

/-! ## a piece of a row -/
structure Mix (ky : α → Int) (a b : Nat) (d e : List α) : Prop where
  len : e.length = d.length
  lo : e.take a = d.take a
  hi : e.drop b = d.drop b
  flt : Flt ky d e
theorem Mix.refl (a b : Nat) (d : List α) : Mix ky a b d d := ⟨rfl, rfl, rfl, Flt.refl _⟩
theorem Mix.trans {a b : Nat} {d e f : List α} (h : Mix ky a b d e) (k : Mix ky a b e f) : Mix ky a b d f := ⟨k.len.trans h.len, k.lo.trans h.lo, k.hi.trans h.hi, h.flt.trans k.flt⟩
theorem Mix.wide {a b a' b' : Nat} {d e : List α} (h : Mix ky a b d e) (ha : a' ≤ a) (hb : b ≤ b') : Mix ky a' b' d e :=
  ⟨h.len, by have := congrArg (List.take a') h.lo; rwa [List.take_take, List.take_take, Nat.min_eq_left ha] at this,
    by have := congrArg (List.drop (b' - b)) h.hi; rwa [List.drop_drop, List.drop_drop, Nat.add_sub_cancel' hb] at this, h.flt⟩
def seg (d : List α) (a b : Nat) : List α := (d.take b).drop a
theorem seg_len (d : List α) (a b : Nat) (h : b ≤ d.length) : (seg d a b).length = b - a := by simp [seg, Nat.min_eq_left h]
theorem seg_get (d : List α) (a b i : Nat) (h : a + i < b) : (seg d a b)[i]? = d[a + i]? := by
  simp [seg, List.getElem?_drop, h]
theorem seg_split (d : List α) {a b : Nat} (h : a ≤ b) : d = d.take a ++ seg d a b ++ d.drop b := by
  have e1 : d.take a = (d.take b).take a := by rw [List.take_take, Nat.min_eq_left h]
  rw [e1, seg, List.take_append_drop, List.take_append_drop]
theorem seg_add (d : List α) {a m b : Nat} (h : a ≤ m) (k : m ≤ b) : seg d a b = seg d a m ++ seg d m b := by
  have e1 : d.take m = (d.take b).take m := by rw [List.take_take, Nat.min_eq_left k]
  show (d.take b).drop a = (d.take m).drop a ++ (d.take b).drop m
  rw [e1]
  generalize d.take b = D
  have : D.drop m = (D.drop a).drop (m - a) := by rw [List.drop_drop, Nat.add_sub_cancel' h]
  rw [List.drop_take, this, List.take_append_drop]
theorem Mix.seg {a b : Nat} {d e : List α} (h : Mix ky a b d e) (hab : a ≤ b) : Flt ky (seg d a b) (seg e a b) := by
  have := h.flt
  rw [seg_split d hab, seg_split e hab, h.lo, h.hi] at this
  exact this.cancel
theorem Mix.of {a b : Nat} {d : List α} {m : List α} (hab : a ≤ b) (hb : b ≤ d.length) (hl : m.length = b - a) (h : Flt ky (Sg.seg d a b) m) : Mix ky a b d (d.take a ++ m ++ d.drop b) := by
  have ha : (d.take a).length = a := by simp; omega
  refine ⟨by simp [hl]; omega, ?_, ?_, ?_⟩
  · rw [List.append_assoc, List.take_append_of_le_length (by omega), List.take_of_length_le (by omega)]
  · rw [List.drop_append_of_le_length (by simp [hl]; omega), List.drop_of_length_le (by simp [hl]; omega)]
    simp
  · conv => arg 2; rw [seg_split d hab]
    exact (Flt.append (Flt.append (Flt.refl _) h) (Flt.refl _))
theorem Mix.other {a b i j : Nat} {d e : List α} (h : Mix ky a b d e) (k : j ≤ a ∨ b ≤ i) : Sg.seg e i j = Sg.seg d i j := by
  unfold Sg.seg
  rcases k with k | k
  · have := congrArg (List.take j) h.lo
    rw [List.take_take, List.take_take, Nat.min_eq_left k] at this
    rw [this]
  · have := congrArg (List.drop (i - b)) h.hi
    rw [List.drop_drop, List.drop_drop, Nat.add_sub_cancel' k] at this
    rw [List.drop_take, List.drop_take, this]
/-! ## two pieces put together: where they are cut -/
theorem merged {a s m e b : Nat} {d d1 d2 d3 : List α} (hs : a ≤ s) (hsm : s ≤ m) (hme : m ≤ e) (heb : e ≤ b) (hb : b ≤ d.length)
    (hA : Rise ky (seg d a m)) (hB : Rise ky (seg d m b))
    (hlt : ∀ x ∈ seg d s m, ∀ y ∈ seg d m e, ky y < ky x) (hle : ∀ x ∈ seg d a s, ∀ y ∈ seg d e b, ky x ≤ ky y)
    (h1 : d1 = d.take s ++ (seg d m e ++ seg d s m) ++ d.drop e)
    (h2 : Mix ky a (s + (e - m)) d1 d2) (r2 : Rise ky (seg d2 a (s + (e - m)))) (h3 : Mix ky (s + (e - m)) b d2 d3) (r3 : Rise ky (seg d3 (s + (e - m)) b)) :
    Mix ky a b d d3 ∧ Rise ky (seg d3 a b) := by
  have c1 : Mix ky s e d d1 := by
    rw [h1]
    refine Mix.of (by omega) (by omega) (by rw [List.length_append, seg_len _ _ _ (by omega), seg_len _ _ _ (by omega)]; omega) ?_
    rw [seg_add d hsm hme]
    exact Flt.turn hlt
  have hM : Mix ky a b d d3 := (c1.wide hs heb).trans ((h2.wide (Nat.le_refl _) (by omega)).trans (h3.wide (by omega) (Nat.le_refl _)))
  refine ⟨hM, ?_⟩
  have l1 := c1.len
  -- the pieces of d1
  have ls : (d.take s).length = s := by simp; omega
  have lB := seg_len d m e (by omega)
  have lA := seg_len d s m (by omega)
  have p1 : seg d1 a s = seg d a s := c1.other (.inl (Nat.le_refl _))
  have p4 : seg d1 e b = seg d e b := c1.other (.inr (Nat.le_refl _))
  have p2 : seg d1 s (s + (e - m)) = seg d m e := by
    unfold seg
    rw [h1, List.append_assoc, List.append_assoc, List.take_append, ls, List.drop_append, List.drop_of_length_le (by simp; omega)]
    have : (List.take (s + (e - m)) (List.take s d)).length = s := by simp; omega
    have lB' : (List.drop m (List.take e d)).length = e - m := lB
    rw [this, Nat.sub_self, Nat.add_sub_cancel_left, List.drop_zero, List.nil_append, List.take_append_of_le_length (by omega), List.take_of_length_le (by omega)]
    rfl
  have p3 : seg d1 (s + (e - m)) e = seg d s m := by
    have q := seg_add d1 (a := s) (m := s + (e - m)) (b := e) (by omega) (by omega)
    have q2 : seg d1 s e = seg d m e ++ seg d s m := by
      show (d1.take e).drop s = _
      have : (d.take s ++ (seg d m e ++ seg d s m)).length = e := by rw [List.length_append, List.length_append, ls, lB, lA]; omega
      rw [h1, List.take_append_of_le_length (by omega), List.take_of_length_le (by omega), List.drop_append_of_le_length (by omega), List.drop_of_length_le (by omega), List.nil_append]
    rw [q2, p2] at q
    exact (List.append_cancel_left q).symm
  have hAs := seg_add d hs hsm
  have hBs := seg_add d hme heb
  rw [hAs] at hA
  rw [hBs] at hB
  have hA' := (List.pairwise_append.1 hA)
  have hB' := (List.pairwise_append.1 hB)
  -- each of the first half is at most each of the second
  have key : ∀ x ∈ seg d1 a (s + (e - m)), ∀ y ∈ seg d1 (s + (e - m)) b, ky x ≤ ky y := by
    intro x hx y hy
    rw [seg_add d1 hs (by omega), p1, p2] at hx
    rw [seg_add d1 (m := e) (by omega) heb, p3, p4] at hy
    rcases List.mem_append.1 hx with hx | hx <;> rcases List.mem_append.1 hy with hy | hy
    · exact hA'.2.2 x hx y hy
    · exact hle x hx y hy
    · exact Int.le_of_lt (hlt y hy x hx)
    · exact hB'.2.2 x hx y hy
  rw [seg_add d3 (m := s + (e - m)) (by omega) (by omega)]
  refine List.pairwise_append.2 ⟨?_, r3, ?_⟩
  · rw [h3.other (.inl (Nat.le_refl _))]; exact r2
  · intro x hx y hy
    rw [h3.other (.inl (Nat.le_refl _))] at hx
    have hx1 := (h2.seg (by omega)).mem hx
    have hy1 := (h3.seg (by omega)).mem hy
    rw [h2.other (.inr (Nat.le_refl _))] at hy1
    exact key x hx1 y hy1
end Go.Kt.Sg
namespace Go.Kt.Sg
open Go.Sort
variable {α : Type} [Inhabited α] {ky : α → Int}

structure SwI (a b n : Nat) (d d' : Array α) : Prop where
  size : d'.size = d.size
  get : ∀ t : Nat, d'[t]! = if a ≤ t ∧ t < a + n then d[t + (b - a)]! else if b ≤ t ∧ t < b + n then d[t - (b - a)]! else d[t]!
structure RotI (a m b : Nat) (d d' : Array α) : Prop where
  size : d'.size = d.size
  get : ∀ t : Nat, d'[t]! = if a ≤ t ∧ t < a + (b - m) then d[t + (m - a)]! else if a + (b - m) ≤ t ∧ t < b then d[t - (b - m)]! else d[t]!

theorem swp_at (d : Array α) {i j : Nat} (hi : i < d.size) (hj : j < d.size) (t : Nat) : (swp d i j)[t]! = if t = i then d[j]! else if t = j then d[i]! else d[t]! := by
  by_cases h1 : t = i
  · subst h1
    by_cases h2 : t = j
    · subst h2; rw [if_pos rfl, swp_right _ _ _ hj]
    · rw [if_pos rfl, swp_left _ _ _ hi h2]
  · rw [if_neg h1]
    by_cases h2 : t = j
    · subst h2; rw [if_pos rfl, swp_right _ _ _ hj]
    · rw [if_neg h2, swp_other _ _ _ _ h1 h2]

theorem SwI.none (a b : Nat) (d : Array α) : SwI a b 0 d d := ⟨rfl, fun t => by rw [if_neg (by omega), if_neg (by omega)]⟩
theorem SwI.more {a b n : Nat} {d d' : Array α} (h : SwI a b n d d') (hab : a + (n + 1) ≤ b) (hb : b + (n + 1) ≤ d.size) : SwI a b (n + 1) d (swp d' (a + n) (b + n)) := by
  have hs := h.size
  refine ⟨by rw [size_swp, hs], fun t => ?_⟩
  rw [swp_at _ (by omega) (by omega), h.get, h.get, h.get]
  repeat' split
  all_goals first | (exfalso; omega) | (congr 1 <;> omega)

theorem RotI.left {i j m : Nat} {d d1 d2 : Array α} (hi : i ≤ m) (hj : j < i) (h : SwI (m - i) m j d d1) (k : RotI (m - (i - j)) m (m + j) d1 d2) : RotI (m - i) m (m + j) d d2 := by
  refine ⟨k.size.trans h.size, fun t => ?_⟩
  rw [k.get, h.get, h.get, h.get]
  repeat' split
  all_goals first | (exfalso; omega) | (congr 1 <;> omega)
theorem RotI.right {i j m : Nat} {d d1 d2 : Array α} (hi : i ≤ m) (hj : i < j) (h : SwI (m - i) (m + j - i) i d d1) (k : RotI (m - i) m (m + (j - i)) d1 d2) : RotI (m - i) m (m + j) d d2 := by
  refine ⟨k.size.trans h.size, fun t => ?_⟩
  rw [k.get, h.get, h.get, h.get]
  repeat' split
  all_goals first | (exfalso; omega) | (congr 1 <;> omega)
theorem RotI.same {i m : Nat} {d d1 : Array α} (hi : i ≤ m) (h : SwI (m - i) m i d d1) : RotI (m - i) m (m + i) d d1 := by
  refine ⟨h.size, fun t => ?_⟩
  rw [h.get]
  repeat' split
  all_goals first | (exfalso; omega) | (congr 1 <;> omega)

theorem get_list (d : Array α) {t : Nat} (h : t < d.size) : d.toList[t]? = some d[t]! := by
  rw [getElem!_pos d t h, Array.getElem?_toList, Array.getElem?_eq_getElem h]
theorem RotI.list {a m b : Nat} {d d' : Array α} (h : RotI a m b d d') (ham : a ≤ m) (hmb : m ≤ b) (hb : b ≤ d.size) :
    d'.toList = d.toList.take a ++ (seg d.toList m b ++ seg d.toList a m) ++ d.toList.drop b := by
  have hl : d.toList.length = d.size := by simp
  have l1 := seg_len d.toList m b (by omega)
  have l2 := seg_len d.toList a m (by omega)
  have l0 : (d.toList.take a).length = a := by simp; omega
  refine List.ext_getElem? fun t => ?_
  by_cases ht : t < d.size
  · rw [get_list d' (by rw [h.size]; exact ht), h.get]
    by_cases h1 : t < a
    · rw [if_neg (by omega), if_neg (by omega), List.append_assoc, List.getElem?_append_left (by omega), List.getElem?_take, if_pos h1, get_list d ht]
    · rw [List.append_assoc, List.getElem?_append_right (by omega), l0]
      by_cases h2 : t < a + (b - m)
      · rw [if_pos (by omega), List.append_assoc, List.getElem?_append_left (by omega), seg_get _ _ _ _ (by omega), get_list d (by omega)]
        congr 2; omega
      · rw [if_neg (by omega), List.append_assoc, List.getElem?_append_right (by omega), l1]
        by_cases h3 : t < b
        · rw [if_pos (by omega), List.getElem?_append_left (by omega), seg_get _ _ _ _ (by omega), get_list d (by omega)]
          congr 2; omega
        · rw [if_neg (by omega), List.getElem?_append_right (by omega), l2, List.getElem?_drop, get_list d (by omega)]
          congr 2; omega
  · rw [List.getElem?_eq_none (by simp; have := h.size; omega), List.getElem?_eq_none]
    simp only [List.length_append, l0, l1, l2, List.length_drop, hl]
    omega

theorem swp_mix {d : Array α} {j a b : Nat} (haj : a ≤ j) (hjb : j + 2 ≤ b) (hb : b ≤ d.size) (h : ky d[j + 1]! < ky d[j]!) : Mix ky a b d.toList (swp d (j + 1) j).toList ∧ Mix ky a b d.toList (swp d j (j + 1)).toList := by
  have hl : d.toList.length = d.size := by simp
  have s1 : seg d.toList j (j + 1) = [d[j]!] := by
    refine List.ext_getElem? fun t => ?_
    by_cases ht : t = 0
    · subst ht; rw [seg_get _ _ _ _ (by omega), Nat.add_zero, get_list d (by omega)]; rfl
    · rw [List.getElem?_eq_none (by rw [seg_len _ _ _ (by omega)]; omega), List.getElem?_eq_none (by simp; omega)]
  have s2 : seg d.toList (j + 1) (j + 2) = [d[j + 1]!] := by
    refine List.ext_getElem? fun t => ?_
    by_cases ht : t = 0
    · subst ht; rw [seg_get _ _ _ _ (by omega), Nat.add_zero, get_list d (by omega)]; rfl
    · rw [List.getElem?_eq_none (by rw [seg_len _ _ _ (by omega)]; omega), List.getElem?_eq_none (by simp; omega)]
  have g : ∀ e : Array α, RotI j (j + 1) (j + 2) d e → Mix ky a b d.toList e.toList := fun e he => by
    have := he.list (by omega) (by omega) (by omega)
    rw [this]
    refine (Mix.of (a := j) (b := j + 2) (by omega) (by omega) (by rw [s1, s2]; simp) ?_).wide haj hjb
    rw [seg_add d.toList (a := j) (m := j + 1) (b := j + 2) (by omega) (by omega), s1, s2]
    exact Flt.turn fun x hx y hy => by rw [List.mem_singleton.1 hx, List.mem_singleton.1 hy]; exact h
  refine ⟨g _ ⟨size_swp _ _ _, fun t => ?_⟩, g _ ⟨size_swp _ _ _, fun t => ?_⟩⟩
  all_goals rw [swp_at _ (by omega) (by omega)]
  all_goals repeat' split
  all_goals first | (exfalso; omega) | (congr 1 <;> omega)

theorem rise_of {d : Array α} {a b : Nat} (hb : b ≤ d.size) (h : ∀ i j, a ≤ i → i < j → j < b → ky d[i]! ≤ ky d[j]!) : Rise ky (seg d.toList a b) := by
  have hl : d.toList.length = d.size := by simp
  refine List.pairwise_iff_getElem.2 fun i j hi hj hij => ?_
  have l := seg_len d.toList a b (by omega)
  have e1 := seg_get d.toList a b i (by omega)
  have e2 := seg_get d.toList a b j (by omega)
  rw [get_list d (by omega), List.getElem?_eq_getElem hi] at e1
  rw [get_list d (by omega), List.getElem?_eq_getElem hj] at e2
  injection e1 with e1; injection e2 with e2
  rw [e1, e2]
  exact h _ _ (by omega) (by omega) (by omega)
theorem of_rise {d : Array α} {a b : Nat} (hb : b ≤ d.size) (h : Rise ky (seg d.toList a b)) {i j : Nat} (hi : a ≤ i) (hij : i ≤ j) (hj : j < b) : ky d[i]! ≤ ky d[j]! := by
  have hl : d.toList.length = d.size := by simp
  rcases Nat.lt_or_eq_of_le hij with hij | rfl
  · have l := seg_len d.toList a b (by omega)
    have := List.pairwise_iff_getElem.1 h (i - a) (j - a) (by omega) (by omega) (by omega)
    have e1 := seg_get d.toList a b (i - a) (by omega)
    have e2 := seg_get d.toList a b (j - a) (by omega)
    rw [get_list d (by omega), List.getElem?_eq_getElem (by omega)] at e1
    rw [get_list d (by omega), List.getElem?_eq_getElem (by omega)] at e2
    injection e1 with e1; injection e2 with e2
    rw [e1, e2, show a + (i - a) = i by omega, show a + (j - a) = j by omega] at this
    exact this
  · exact Int.le_refl _
theorem seg_mem {d : Array α} {a b : Nat} (hb : b ≤ d.size) {x : α} (h : x ∈ seg d.toList a b) : ∃ t, a ≤ t ∧ t < b ∧ x = d[t]! := by
  have hl : d.toList.length = d.size := by simp
  obtain ⟨t, ht, rfl⟩ := List.mem_iff_getElem.1 h
  have l := seg_len d.toList a b (by omega)
  have e1 := seg_get d.toList a b t (by omega)
  rw [get_list d (by omega), List.getElem?_eq_getElem ht] at e1
  injection e1 with e1
  exact ⟨a + t, by omega, by omega, e1⟩
omit [Inhabited α] in
theorem Mix.size {a b : Nat} {d e : Array α} (h : Mix ky a b d.toList e.toList) : e.size = d.size := by simpa using h.len
end Go.Kt.Sg
namespace Go.Kt.Sg
abbrev Pt := Int × Int
abbrev ky2 : Pt → Int := Prod.snd
def ordL : List Pt → List Pt → List Pt
  | cur, [] => srt ky2 cur
  | cur, x :: l => if x.2 = 0 then srt ky2 cur ++ x :: ordL [] l else ordL (cur ++ [x]) l
theorem ordL_cut {x : Pt} (hx : x.2 = 0) (b : List Pt) : ∀ (a cur : List Pt), ordL cur (a ++ x :: b) = ordL cur a ++ ordL [] (x :: b)
  | [], cur => by
    have e1 : ordL cur (x :: b) = srt ky2 cur ++ x :: ordL [] b := by rw [ordL, if_pos hx]
    have e2 : ordL [] (x :: b) = x :: ordL [] b := by rw [ordL, if_pos hx]; rfl
    rw [List.nil_append, e1, e2, ordL]
  | y :: a, cur => by
    rw [List.cons_append, ordL, ordL]
    split
    · rw [ordL_cut hx b a []]; simp
    · exact ordL_cut hx b a _
theorem ordL_len : ∀ (a cur : List Pt), (ordL cur a).length = cur.length + a.length
  | [], cur => by rw [ordL, srt_len]; rfl
  | y :: a, cur => by
    rw [ordL]
    split
    · rw [List.length_append, List.length_cons, srt_len, ordL_len a []]; simp
    · rw [ordL_len a]; simp; omega
theorem srt_nil : srt ky2 ([] : List Pt) = [] := rfl
theorem ordL_mem {x : Pt} : ∀ (a cur : List Pt), x ∈ ordL cur a → x ∈ cur ∨ x ∈ a
  | [], cur, h => .inl ((srt_flt cur).mem h)
  | y :: a, cur, h => by
    rw [ordL] at h
    split at h
    · rcases List.mem_append.1 h with h | h
      · exact .inl ((srt_flt cur).mem h)
      · rcases List.mem_cons.1 h with rfl | h
        · exact .inr List.mem_cons_self
        · rcases ordL_mem a [] h with h | h
          · cases h
          · exact .inr (List.mem_cons_of_mem _ h)
    · rcases ordL_mem a _ h with h | h
      · rcases List.mem_append.1 h with h | h
        · exact .inl h
        · rw [List.mem_singleton.1 h]; exact .inr List.mem_cons_self
      · exact .inr (List.mem_cons_of_mem _ h)
def tailR : List Pt → List Pt → List Pt
  | cur, [] => cur
  | cur, x :: l => if x.2 = 0 then tailR [] l else tailR (cur ++ [x]) l
def doneR : List Pt → List Pt → List Pt
  | _, [] => []
  | cur, x :: l => if x.2 = 0 then srt ky2 cur ++ x :: doneR [] l else doneR (cur ++ [x]) l
theorem ordL_parts : ∀ (a cur : List Pt), ordL cur a = doneR cur a ++ srt ky2 (tailR cur a)
  | [], cur => rfl
  | y :: a, cur => by
    rw [ordL, doneR, tailR]
    split
    · rw [ordL_parts a []]; simp
    · exact ordL_parts a _
theorem doneR_snoc (x : Pt) : ∀ (a cur : List Pt), doneR cur (a ++ [x]) = if x.2 = 0 then doneR cur a ++ srt ky2 (tailR cur a) ++ [x] else doneR cur a
  | [], cur => by rw [List.nil_append, doneR, doneR, doneR, doneR, tailR]; split <;> simp
  | y :: a, cur => by
    rw [List.cons_append, doneR, doneR, tailR]
    split
    · rw [doneR_snoc x a []]; split <;> simp
    · exact doneR_snoc x a _
theorem tailR_snoc (x : Pt) : ∀ (a cur : List Pt), tailR cur (a ++ [x]) = if x.2 = 0 then [] else tailR cur a ++ [x]
  | [], cur => by rw [List.nil_append, tailR, tailR, tailR, tailR]
  | y :: a, cur => by
    rw [List.cons_append, tailR, tailR]
    split
    · exact tailR_snoc x a []
    · exact tailR_snoc x a _
theorem doneR_len : ∀ (a cur : List Pt), (doneR cur a).length + (tailR cur a).length = cur.length + a.length
  | [], cur => by rw [doneR, tailR]; simp
  | y :: a, cur => by
    rw [doneR, tailR]
    split
    · have := doneR_len a []
      simp only [List.length_append, List.length_cons, srt_len, List.length_nil] at this ⊢; omega
    · have := doneR_len a (cur ++ [y])
      simp only [List.length_append, List.length_cons, List.length_nil] at this ⊢; omega
end Go.Kt.Sg
namespace Go.Kt.Sg
structure Jn where
  out : List Int
  st : Option Nat
  last : Int
def jnStep (cm : Int → Int → Option Int) (s : Jn) (c : Pt) : Jn :=
  match s.st with
  | none => ⟨s.out ++ [c.1], if c.2 = 0 then some s.out.length else none, c.2⟩
  | some k =>
    if k + 1 < s.out.length ∧ s.last ≥ c.2 then ⟨s.out ++ [c.1], if c.2 = 0 then some s.out.length else some k, c.2⟩
    else match cm (s.out[k]?.getD 0) c.1 with
      | some r => ⟨s.out.set k r, some k, s.last⟩
      | none => ⟨s.out ++ [c.1], if c.2 = 0 then some s.out.length else some k, c.2⟩
def joinP (cm : Int → Int → Option Int) (l : List Pt) : List Int := (l.foldl (jnStep cm) ⟨[], none, 0⟩).out
end Go.Kt.Sg
