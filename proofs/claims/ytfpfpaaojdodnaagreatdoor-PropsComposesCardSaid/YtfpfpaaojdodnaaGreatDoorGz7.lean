/- Parts of the proof of what the last text says. -/
import Derived.Test.YtfpfpaaojdodnaaGreatDoorGz6
import Derived.Test.YtfpfpaaojdodnaaGreatDoorGz3
import Derived.Test.YtfpfpaaojdodnaaGreatDoorGz2
import Derived.BigRegionIn
import Derived.LoopIn
import Derived.Lib.PathFns
import Derived.Lib.IndexLaws
import Derived.BigFrameIn
import Derived.Test.YtfpfpaaojdodnaaGreatDoorGz5
/- What is the same of any program: an iterator that writes blocks of its own (Z: a captured variable) between rounds, and the loop over it: K8, with Z. -/
namespace Go.Kt
open Go Go.RowKit
variable {P : Program}

def LowZ {β : Type} (Z : Nat → Prop) (B : Nat) (J : β → (Nat → Prop) → World → Prop) : Prop := ∀ s Y W W', Keep (fun b => (Z b ∨ B ≤ b) ∧ ¬ Y b) W W' → J s Y W → J s Y W'
def Iter3 {α : Type} (P : Program) (gf : Nat) (lb : Array Value) (encs : α → Array Value) (L : List α) (Z Nd : Nat → Prop) (w0 : World) : Prop :=
  ∀ (l : Nat) (X : Nat → Prop) (J Jx : List α → (Nat → Prop) → World → Prop) (W : World),
    (∀ b, (Z b ∨ Nd b) → ¬ X b) → (∀ b, X b → b < W.heap.size) → (∀ b, (Z b ∨ Nd b) → W.heap[b]? = w0.heap[b]?) → w0.heap.size ≤ W.heap.size →
    LowZ Z W.heap.size J → LowZ Z W.heap.size Jx → Slim J →
    (∀ pre x Y W1, pre ++ [x] <+: L → J pre Y W1 → W.heap.size ≤ W1.heap.size → (∀ b, Y b → W.heap.size ≤ b) → YieldAt Fence.wide 0 P l (encs x) W1 fun e W' =>
      ∃ Y', Keep (fun b => X b ∨ Y b) W1 W' ∧ (∀ b, Y' b → Y b ∨ W1.heap.size ≤ b) ∧ ((e = .returned (.bool true) ∧ J (pre ++ [x]) Y' W') ∨ (e = .returned (.bool false) ∧ Jx (pre ++ [x]) Y' W'))) →
    J [] (fun _ => False) W →
    Calls P gf (#[.func (.yield l) #[] #[]] ++ lb) W fun e W' => (∃ v, e = .returned v) ∧ Keep (fun b => X b ∨ Z b) W W' ∧ ((∃ Y, (∀ b, Y b → W.heap.size ≤ b) ∧ J L Y W') ∨ ∃ pre Y, pre <+: L ∧ (∀ b, Y b → W.heap.size ≤ b) ∧ Jx pre Y W')

def Round3 {α : Type} (P : Program) (ps : Array Tmp) (assign body : Code) (tmps : Array Value) (encs : α → Array Value) (L : List α) (X Z : Nat → Prop) (I : List α → (Nat → Prop) → World → Prop) (Ix : Code → List α → (Nat → Prop) → World → Prop) (w : World) (l : Nat) : Prop :=
  ∀ (pre : List α) (x : α) (Y : Nat → Prop) (W : World), pre ++ [x] <+: L → I pre Y W → Keep (fun b => X b ∨ Z b) w W → (∀ b, Y b → w.heap.size ≤ b ∧ b ≠ l) → l < W.heap.size → (∃ r, W.heap[l]? = some (.loop r)) →
    assign.wpIn (Fence.wide.inRound l) 0 P (Exit.then (fun a₁ w₁ => Keep (fun _ => False) W w₁ ∧
        (∀ W2, Keep (fun b => b = l) w₁ W2 → Keep (fun b => X b ∨ Z b) w W2 → I pre Y W2 → (∃ r, W2.heap[l]? = some (.loop r)) → body.wpIn (Fence.wide.inRound l) 0 P (roundEnd X Y I Ix (pre ++ [x]) W2) a₁ W2)) (fun _ _ _ => False))
      { tmps := (ps.zip (encs x)).foldl (fun t (p, v) => t.setIfInBounds p v) tmps, defers := [] } W

theorem loop_core3 {α : Type} {F : Fence} {ps : Array Tmp} {assign body : Code} {Q : Exit → Act → World → Prop} {a a' : Act} {w W1 : World}
    {gf : Nat} {lb : Array Value} {encs : α → Array Value} {L : List α} {Z Nd X : Nat → Prop} {w0 : World} (hit : Iter3 P gf lb encs L Z Nd w0)
    (hps : ∀ x, (encs x).size = ps.size) (l : Nat) (rec : LoopState → Option Code → Loop) (fn : FuncId) (D : Nat)
    (hrec : ∀ st pe, rec st pe = { state := st, pending := pe, fn, tmps := a.tmps, params := ps, assign, body, defers := D })
    (hX : ∀ b, X b → b < w.heap.size) (hNd : ∀ b, (Z b ∨ Nd b) → ¬ X b ∧ b < w.heap.size) (hNdw : ∀ b, (Z b ∨ Nd b) → w.heap[b]? = w0.heap[b]?) (hw0 : w0.heap.size ≤ w.heap.size)
    (hl : w.heap.size ≤ l) (hL1 : W1.heap[l]? = some (.loop (rec .ready none))) (hbw : Below w.heap.size w W1)
    (I : List α → (Nat → Prop) → World → Prop) (Ix : Code → List α → (Nat → Prop) → World → Prop) (hI : LowZ Z w.heap.size I) (hSI : Slim I) (hIx : ∀ c, LowZ Z w.heap.size (Ix c)) (h0 : I [] (fun _ => False) w)
    (hround : Round3 P ps assign body a.tmps encs L X Z I Ix w l)
    (hdone : ∀ Y W, I L Y W → (∀ b, Y b → W1.heap.size ≤ b) → Keep (fun b => X b ∨ Z b) w W → Keep (fun b => (X b ∨ b = l) ∨ Z b) W1 W → Q .normal a' W)
    (hstop : ∀ c pre Y W, pre <+: L → Ix c pre Y W → (∀ b, Y b → W1.heap.size ≤ b) → Keep (fun b => X b ∨ Z b) w W → Keep (fun b => (X b ∨ b = l) ∨ Z b) W1 W → c.wpIn F 0 P Q a' W) :
    Calls P gf (#[.func (.yield l) #[] #[]] ++ lb) W1 (rangePost F 0 P l Q a') := by
  have hlt1 : l < W1.heap.size := (Array.getElem?_eq_some_iff.1 hL1).1
  have hB1 : w.heap.size ≤ W1.heap.size := hbw.size
  have hkw : Keep (fun b => X b ∨ Z b) w W1 := .of_all hbw
  -- a step that touches nothing below W1's heap's end but what is not of Y
  have low1 : ∀ {Y : Nat → Prop} {A B : World}, Keep (fun b => (Z b ∨ W1.heap.size ≤ b) ∧ ¬ Y b) A B → Keep (fun b => (Z b ∨ w.heap.size ≤ b) ∧ ¬ Y b) A B := fun h => h.weaken fun _ _ hb => ⟨hb.1.imp id (fun h => Nat.le_trans hB1 h), hb.2⟩
  have lowX : ∀ {Y : Nat → Prop} {A B : World}, Keep (fun b => (Z b ∨ W1.heap.size ≤ b) ∧ ¬ Y b) A B → Keep (fun b => X b ∨ Z b) w A → Keep (fun b => X b ∨ Z b) w B := fun h k =>
    ⟨h.os.trans k.os, h.tape.trans k.tape, h.output.trans k.output, Nat.le_trans k.size h.size, fun b hb hx => (h.same b (Nat.lt_of_lt_of_le hb k.size) (fun hy => by rcases hy.1 with h | h; exact hx (.inr h); omega)).trans (k.same b hb hx)⟩
  have lowl : ∀ {Y : Nat → Prop} {A B : World} {o : Obj}, Keep (fun b => (Z b ∨ W1.heap.size ≤ b) ∧ ¬ Y b) A B → A.heap[l]? = some o → B.heap[l]? = some o := fun h ho => h.heap ho (fun hy => by rcases hy.1 with h | h; have := (hNd l (.inl h)).2; omega; omega)
  -- the law's own turn of its record
  have turn : ∀ {Y : Nat → Prop} (W : World) (o : Obj), (∀ b, Y b → W1.heap.size ≤ b) → Keep (fun b => (Z b ∨ w.heap.size ≤ b) ∧ ¬ Y b) W (W.putObj l o) := fun W o hY => (Keep.refl _ W).putObj (.inl ⟨.inr hl, fun hy => by have := hY l hy; omega⟩) o
  refine (hit l (fun b => X b ∨ b = l) (fun pre Y W => (∀ b, Y b → W1.heap.size ≤ b) ∧ I pre Y W ∧ Keep (fun b => X b ∨ Z b) w W ∧ W.heap[l]? = some (.loop (rec .ready none)))
    (fun pre Y W => (∀ b, Y b → W1.heap.size ≤ b) ∧ ∃ c, Ix c pre Y W ∧ Keep (fun b => X b ∨ Z b) w W ∧ W.heap[l]? = some (.loop (rec .done (some c)))) W1
    (fun b hb => by have := hNd b hb; rintro (h | h); exact this.1 h; omega)
    (fun b hb => by rcases hb with hb | hb; have := hX b hb; omega; omega)
    (fun b hb => (hbw.block b (hNd b hb).2).trans (hNdw b hb)) (by omega)
    (fun s Y A B hb ⟨hY, h1, h2, h3⟩ => ⟨hY, hI s Y A B (low1 hb) h1, lowX hb h2, lowl hb h3⟩)
    (fun s Y A B hb ⟨hY, c, h1, h2, h3⟩ => ⟨hY, c, hIx c s Y A B (low1 hb) h1, lowX hb h2, lowl hb h3⟩)
    (fun s Y A ⟨hY, h1, h2, h3⟩ => ⟨fun b hb => hY b hb.1, hSI s Y A h1, h2, h3⟩)
    ?_ ⟨fun _ h => h.elim, hI _ _ _ _ (.of_all hbw) h0, hkw, hL1⟩).mono ?_
  · rintro pre x Y W hpre ⟨hY, hi, hk, hl3⟩ hsz _
    have hlt : l < W.heap.size := (Array.getElem?_eq_some_iff.1 hl3).1
    have hYl : ∀ b, Y b → w.heap.size ≤ b ∧ b ≠ l := fun b hb => by have := hY b hb; omega
    have hy := run_yield (P := P) (args := encs x) hl3 (by rw [hrec]; exact hps x)
    rw [hrec] at hy
    refine ⟨fn, _, assign, body, hy, roundIn_of_wpIn trivial (wpIn_mono (hround pre x Y W hpre hi hk hYl hlt ⟨_, hl3⟩) ?_)⟩
    intro e a₁ w₁ h
    cases e with
    | normal =>
      obtain ⟨hk1, hb1⟩ := h
      have hl4 : w₁.heap[l]? = some (.loop (rec .ready none)) := hk1.heap hl3 (fun hx => hx)
      refine ⟨_, run_beginRound hl4 (by rw [hrec]), ?_⟩
      have hlt4 : l < w₁.heap.size := (Array.getElem?_eq_some_iff.1 hl4).1
      have hi1 : I pre Y w₁ := hI _ _ _ _ (hk1.weaken (fun _ _ h => h.elim)) hi
      have hi2 := hI _ _ _ _ (turn (Y := Y) w₁ (.loop { rec .ready none with state := .busy }) hY) hi1
      have hkw1 : Keep (fun b => X b ∨ Z b) w (w₁.putObj l (.loop { rec .ready none with state := .busy })) := (hk.trans (hk1.weaken fun _ _ h => h.elim)).putObj (.inr hl) _
      have hl5 : (w₁.putObj l (.loop { rec .ready none with state := .busy })).heap[l]? = some (.loop { rec .ready none with state := .busy }) := World.putObj_heap_same hlt4
      refine wpIn_mono (hb1 _ ((Keep.refl (fun b => b = l) w₁).putObj (.inl rfl) _) hkw1 hi2 ⟨_, hl5⟩) ?_
      have hX2 : Keep (fun b => (X b ∨ b = l) ∨ Y b) W (w₁.putObj l (.loop { rec .ready none with state := .busy })) := (hk1.weaken (fun _ _ h => h.elim)).putObj (.inl (.inl (.inr rfl))) _
      have hsz2 : W.heap.size ≤ (w₁.putObj l (.loop { rec .ready none with state := .busy })).heap.size := hX2.size
      have fin : ∀ (jump : Option Code) (W3 : World) (I' : List α → (Nat → Prop) → World → Prop), LowZ Z w.heap.size I' → Left X Y I' (pre ++ [x]) (w₁.putObj l (.loop { rec .ready none with state := .busy })) W3 →
          (Instr.endRound l jump).run P W3 = .ok (.bool jump.isNone) (W3.putObj l (.loop (rec (if jump.isNone then .ready else .done) jump))) ∧
          (W3.putObj l (.loop (rec (if jump.isNone then .ready else .done) jump))).heap[l]? = some (.loop (rec (if jump.isNone then .ready else .done) jump)) ∧
          ∃ Y', (∀ b, Y' b → W1.heap.size ≤ b) ∧ (∀ b, Y' b → Y b ∨ W.heap.size ≤ b) ∧ I' (pre ++ [x]) Y' (W3.putObj l (.loop (rec (if jump.isNone then .ready else .done) jump))) ∧
          Keep (fun b => X b ∨ Z b) w (W3.putObj l (.loop (rec (if jump.isNone then .ready else .done) jump))) ∧
          Keep (fun b => (X b ∨ b = l) ∨ Y b) W (W3.putObj l (.loop (rec (if jump.isNone then .ready else .done) jump))) := fun jump W3 I' hI' ⟨Y', hk3, hY', hi3⟩ => by
        have hl6 := hk3.heap hl5 (fun hx => by rcases hx with hx | hx; have := hX l hx; omega; have := hY l hx; omega)
        have hr := run_endRound (P := P) jump hl6
        have er : ({ ({ rec .ready none with state := .busy } : Loop) with state := if jump.isNone then .ready else .done, pending := jump } : Loop) = rec (if jump.isNone then .ready else .done) jump := by
          rw [hrec, hrec]
        rw [er] at hr
        have hY1 : ∀ b, Y' b → W1.heap.size ≤ b := fun b hb => by rcases hY' b hb with h | h; exact hY b h; omega
        refine ⟨hr, World.putObj_heap_same (Array.getElem?_eq_some_iff.1 hl6).1, Y', hY1, fun b hb => by rcases hY' b hb with h | h; exact .inl h; exact .inr (by omega), hI' _ _ _ _ (turn W3 _ hY1) hi3, ?_, ?_⟩
        · refine Keep.putObj ?_ (.inr hl) _
          exact ⟨hk3.os.trans hkw1.os, hk3.tape.trans hkw1.tape, hk3.output.trans hkw1.output, Nat.le_trans hkw1.size hk3.size, fun b hb hx => (hk3.same b (Nat.lt_of_lt_of_le hb hkw1.size) (fun h => by rcases h with h | h; exact hx (.inl h); have := hY b h; omega)).trans (hkw1.same b hb hx)⟩
        · exact (hX2.trans (hk3.weaken (fun _ _ h => by rcases h with h | h; exact .inl (.inl h); exact .inr h))).putObj (.inl (.inl (.inr rfl))) _
      rintro e a3 W3 hp
      cases e with
      | normal =>
        obtain ⟨hr, hl7, Y', q1, q2, q3, q4, q5⟩ := fin none W3 I hI hp
        exact ⟨_, _, hr, Y', q5, q2, .inl ⟨rfl, q1, q3, q4, hl7⟩⟩
      | ret =>
        obtain ⟨hr, hl7, Y', q1, q2, q3, q4, q5⟩ := fin (some .ret) W3 _ (hIx _) hp
        exact ⟨_, _, hr, Y', q5, q2, .inr ⟨rfl, q1, .ret, q3, q4, hl7⟩⟩
      | exit id =>
        obtain ⟨hr, hl7, Y', q1, q2, q3, q4, q5⟩ := fin (some (.exit id)) W3 _ (hIx _) hp
        exact ⟨_, _, hr, Y', q5, q2, .inr ⟨rfl, q1, .exit id, q3, q4, hl7⟩⟩
      | goto t =>
        obtain ⟨hr, hl7, Y', q1, q2, q3, q4, q5⟩ := fin (some (.goto t)) W3 _ (hIx _) hp
        exact ⟨_, _, hr, Y', q5, q2, .inr ⟨rfl, q1, .goto t, q3, q4, hl7⟩⟩
      | panic ch => exact hp.elim
      | outgrown => exact hp.elim
    | ret => exact h.elim
    | exit id => exact h.elim
    | goto t => exact h.elim
    | panic ch => exact h.elim
    | outgrown => exact h.elim
  · rintro e W2 ⟨⟨v, rfl⟩, hk2, (⟨Y, _, hY, hi, hk, hl2⟩ | ⟨pre, Y, hpre, _, hY, c, hi, hk, hl2⟩)⟩
    · have hr := run_endLoop (P := P) hl2 (by rw [hrec]; simp)
      have e1 : (rec .ready none).pending = none := by rw [hrec]
      rw [e1] at hr
      exact ⟨none, _, hr, hdone Y _ (hI _ _ _ _ (turn W2 _ hY) hi) hY (hk.putObj (.inr hl) _) (hk2.putObj (.inl (.inl (.inr rfl))) _)⟩
    · have hr := run_endLoop (P := P) hl2 (by rw [hrec]; simp)
      have e1 : (rec .done (some c)).pending = some c := by rw [hrec]
      rw [e1] at hr
      exact ⟨some c, _, hr, hstop c pre Y _ hpre (hIx c _ _ _ _ (turn W2 _ hY) hi) hY (hk.putObj (.inr hl) _) (hk2.putObj (.inl (.inl (.inr rfl))) _)⟩

theorem loop_out3 {α : Type} {g : Operand} {ps : Array Tmp} {assign body : Code} {Q : Exit → Act → World → Prop} {a : Act} {w : World}
    {gf : Nat} {lb : Array Value} (hg : a.eval g = .func (.func gf) #[] lb) (eg : ∀ args w, (callFunc gf args).run P w = .ok (.enter gf args) w)
    {encs : α → Array Value} {L : List α} {Z Nd X : Nat → Prop} {w0 : World} (hit : Iter3 P gf lb encs L Z Nd w0) (hps : ∀ x, (encs x).size = ps.size)
    (hX : ∀ b, X b → b < w.heap.size) (hNd : ∀ b, (Z b ∨ Nd b) → ¬ X b ∧ b < w.heap.size) (hNdw : ∀ b, (Z b ∨ Nd b) → w.heap[b]? = w0.heap[b]?) (hw0 : w0.heap.size ≤ w.heap.size)
    (I : List α → (Nat → Prop) → World → Prop) (Ix : Code → List α → (Nat → Prop) → World → Prop) (hI : LowZ Z w.heap.size I) (hSI : Slim I) (hIx : ∀ c, LowZ Z w.heap.size (Ix c)) (h0 : I [] (fun _ => False) w)
    (hround : ∀ l, w.heap.size ≤ l → Round3 P ps assign body a.tmps encs L X Z I Ix w l)
    (hdone : ∀ D Y W, w.heap.size ≤ D → W.heap[D]? = some (.deferred (some [])) → I L Y W → (∀ b, Y b → w.heap.size ≤ b ∧ b ≠ D) → Keep (fun b => X b ∨ Z b) w W → Q .normal { a with defers := { target := .collected D, args := #[] } :: a.defers } W)
    (hstop : ∀ D c pre Y W, w.heap.size ≤ D → W.heap[D]? = some (.deferred (some [])) → pre <+: L → Ix c pre Y W → (∀ b, Y b → w.heap.size ≤ b ∧ b ≠ D) → Keep (fun b => X b ∨ Z b) w W → c.wpIn Fence.wide 0 P Q { a with defers := { target := .collected D, args := #[] } :: a.defers } W) :
    (Code.rangeFunc g ps assign body).wpIn Fence.wide 0 P Q a w := by
  refine wpIn_rangeFunc ?_
  intro fn _
  obtain ⟨rec, hrec⟩ : ∃ rec : LoopState → Option Code → Loop, rec = fun st pe => { state := st, pending := pe, fn, tmps := a.tmps, params := ps, assign, body, defers := w.heap.size } := ⟨_, rfl⟩
  obtain ⟨W1, hW1⟩ : ∃ W1, (w.alloc (.deferred (some []))).alloc (.loop (rec .ready none)) = W1 := ⟨_, rfl⟩
  have hL1 : W1.heap[w.heap.size + 1]? = some (.loop (rec .ready none)) := by
    rw [← hW1]; have := World.alloc_heap_new (w.alloc (.deferred (some []))) (.loop (rec .ready none)); rwa [World.size_alloc] at this
  have hD1 : W1.heap[w.heap.size]? = some (.deferred (some [])) := by
    rw [← hW1]; exact (Below.heap_alloc _ _ _ (by simp)).trans (World.alloc_heap_new w _)
  have hbw : Below w.heap.size w W1 := by
    rw [← hW1]; exact ((Below.refl _ w).alloc (Nat.le_refl _) _).alloc (by simp) _
  have hltD : w.heap.size < W1.heap.size := (Array.getElem?_eq_some_iff.1 hD1).1
  have hD : ∀ W, Keep (fun b => (X b ∨ b = w.heap.size + 1) ∨ Z b) W1 W → W.heap[w.heap.size]? = some (.deferred (some [])) := fun W hk =>
    hk.heap hD1 (fun h => by rcases h with (h | h) | h; have := hX _ h; omega; omega; have := (hNd _ (.inl h)).2; omega)
  refine ⟨w.heap.size + 1, [{ target := .collected w.heap.size, args := #[] }], W1, { target := .fn (.func gf) lb, args := #[.func (.yield (w.heap.size + 1)) #[] #[]] }, W1, gf,
    #[.func (.yield (w.heap.size + 1)) #[] #[]] ++ lb, W1, ?_, ?_, ?_, ?_, (fun h => by cases h), ?_⟩
  · rw [← hW1, hrec]; exact run_enterLoop_outer _ _ _ _ _
  · simp only [resolve, hg]
    simp [go_sem]
  · intro _ _; trivial
  · simp [invoke, go_sem, eg]
  · exact callsIn_wide.2 (loop_core3 hit hps (w.heap.size + 1) rec fn w.heap.size (by intro st pe; rw [hrec]) hX hNd hNdw hw0 (by omega) hL1 hbw I Ix hI hSI hIx h0
      (hround _ (by omega))
      (fun Y W hi hY hk hk1 => hdone _ Y W (Nat.le_refl _) (hD W hk1) hi (fun b hb => by have := hY b hb; omega) hk)
      (fun c pre Y W hp hi hY hk hk1 => hstop _ c pre Y W (Nat.le_refl _) (hD W hk1) hp hi (fun b hb => by have := hY b hb; omega) hk))
end Go.Kt
/- props: the iterator of a text's lines. -/
namespace Go.Proofs.YtfpfpaaojdodnaaGreatDoor
open Go Go.RowKit Go.Kt Go.Kt.Rg
attribute [local go_sem] Oper.semAt_some

def linesF : Nat → List UInt8 → List (List UInt8)
  | 0, _ => []
  | f + 1, l => if l = [] then [] else if 0 ≤ Lib.indexByte l 10 then l.take ((Lib.indexByte l 10).toNat + 1) :: linesF f (l.drop ((Lib.indexByte l 10).toNat + 1)) else [l]
def linesP (l : List UInt8) : List (List UInt8) := linesF (l.length + 1) l
theorem linesF_fuel : ∀ (f : Nat) (l : List UInt8), l.length < f → linesF f l = linesP l := by
  intro f
  induction f using Nat.strongRecOn with
  | _ f ih =>
    intro l hf
    cases f with
    | zero => omega
    | succ f =>
      by_cases h0 : l = []
      · subst h0; simp [linesP, linesF]
      have hl : 0 < l.length := List.length_pos_iff.2 h0
      unfold linesP
      rw [linesF, linesF, if_neg h0, if_neg h0]
      by_cases h1 : 0 ≤ Lib.indexByte l 10
      · rw [if_pos h1, if_pos h1]
        congr 1
        have hd : (l.drop ((Lib.indexByte l 10).toNat + 1)).length < l.length := by rw [List.length_drop]; omega
        rw [ih f (by omega) _ (by omega)]
        by_cases hfl : f = l.length
        · rw [← hfl, ih f (by omega) _ (by omega)]
        · rw [ih l.length (by omega) _ hd]
      · rw [if_neg h1, if_neg h1]
theorem linesP_nil : linesP [] = [] := rfl
theorem linesP_some {l : List UInt8} (h0 : l ≠ []) {i : Nat} (h : Lib.indexByte l 10 = (i : Int)) : linesP l = l.take (i + 1) :: linesP (l.drop (i + 1)) := by
  have hl : 0 < l.length := List.length_pos_iff.2 h0
  rw [linesP, linesF, if_neg h0, if_pos (by omega), h, Int.toNat_natCast, linesF_fuel _ _ (by rw [List.length_drop]; omega)]
theorem linesP_none {l : List UInt8} (h0 : l ≠ []) (h : Lib.indexByte l 10 = -1) : linesP l = [l] := by
  rw [linesP, linesF, if_neg h0, if_neg (by omega)]
def encL (x : List UInt8) : Array Value := #[.string ⟨x.toArray⟩]

theorem plines_call (s : ByteArray) (w : World) :
    Calls Tryz.prog 29 #[.string s] w fun e w' => e = .returned (.func (.func 72) #[] #[.pointer (some ⟨w.heap.size, 0, none⟩)]) ∧ w.alloc (.cells #[.string s] 9) = w' := by
  go_enter Tryz.func29, Tryz.ntmps29
  go_wp2
  go_ret
  exact ⟨rfl, rfl⟩
theorem enters_lines : ∀ args w, (callFunc 72 args).run Tryz.prog w = .ok (.enter 72 args) w := enters_of Tryz.func72 (by kernel_rfl) rfl

set_option maxRecDepth 100000 in
set_option maxHeartbeats 4000000 in
theorem plines_iter (s : List UInt8) (bs : Nat) (w0 : World) (hc : w0.heap[bs]? = some (.cells #[.string ⟨s.toArray⟩] 9 (0, 0))) (hs : s.length ≤ 1048576) :
    Iter3 Tryz.prog 72 #[.pointer (some ⟨bs, 0, none⟩)] encL (linesP s) (fun x => x = bs) (fun _ => False) w0 := by
  intro m X J Jx W hNd hX hsame hsz hJ hJx hSl hY h0
  have hbW : W.heap[bs]? = some (.cells #[.string ⟨s.toArray⟩] 9 (0, 0)) := (hsame bs (.inl rfl)).trans hc
  have hXb : Hid (¬ X bs ∧ bs < W.heap.size) := Lib.hid ⟨hNd bs (.inl rfl), (Array.getElem?_eq_some_iff.1 hbW).1⟩
  have HK := Lib.hid (And.intro hX (And.intro hJ (And.intro hJx (And.intro hSl hY))))
  obtain ⟨L, hL⟩ : ∃ L, linesP s = L := ⟨_, rfl⟩
  rw [hL] at HK ⊢
  have hfn : ∀ k, Fence.wide.fn k := fun _ => trivial
  have hdep : Fence.wide.depth = none := rfl
  clear hNd hsame hsz hc hX hJ hJx hSl hY
  refine (callsIn_wide (n := 0)).1 ?_
  refine callsIn_of_wp Tryz.func72 rfl trivial ?_ rfl
  simp only [Tryz.ntmps72, List.size_toArray, List.length_cons, List.length_nil, Nat.reduceAdd, Nat.reduceSub, Array.replicate_succ, Array.replicate_zero, List.push_toArray, List.append_toArray, List.nil_append, List.cons_append]
  gi_wp2_with fail
  gi_loopw [3] (fun _ wr => ∃ (rest : List UInt8) (pre : List (List UInt8)) (Y : Nat → Prop), rest.length ≤ 1048576 ∧ pre ++ linesP rest = L ∧ (∀ y, Y y → W.heap.size ≤ y) ∧ J pre Y wr ∧ Keep (fun b => X b ∨ b = bs) W wr ∧ wr.heap[bs]? = some (.cells #[.string ⟨rest.toArray⟩] 9 (0, 0)))
    (fun _ wr => match wr.cell? ⟨bs, 0, none⟩ with | some (.string t) => t.size | _ => 0)
  case atStart => exact ⟨s, [], _, hs, by simpa using hL, fun _ h => h.elim, h0, Keep.refl _ _, hbW⟩
  case round =>
    obtain ⟨rest, pre, Y, hrl, hpre, hYl, hJs, hkp, hcell⟩ := hrel
    obtain ⟨T, hT⟩ : ∃ T : ByteArray, (⟨rest.toArray⟩ : ByteArray) = T := ⟨_, rfl⟩
    have hsz : T.size = rest.length := by rw [← hT, bsize]
    rw [hT] at hcell
    have c0 : wr.cell? ⟨bs, 0, none⟩ = some (.string T) := by rw [Lib.cell_of_heap hcell]; rfl
    have f0 : wr.frozen? ⟨bs, 0, none⟩ = false := Lib.frozen_of_heap hcell _
    have HC := Lib.hid hcell
    have HT := Lib.hid hT
    have HL := Lib.hid hL
    have HI := Lib.hid (And.intro hpre (And.intro hYl (And.intro hJs hkp)))
    clear hcell hT hL hpre hYl hJs hkp
    by_cases h0r : rest = []
    · have z : ((T.size : Nat) : Int) ≤ 0 := by rw [hsz, h0r]; simp
      have e : pre = L := by have := HI.out.1; rw [h0r, linesP_nil, List.append_nil] at this; exact this
      rw [e] at HI
      clear hsz f0 h0r
      gi_wp2_with fail
      go_end0
      exact ⟨⟨_, rfl⟩, HI.out.2.2.2, .inl ⟨Y, HI.out.2.1, HI.out.2.2.1⟩⟩
    · have hpos : 0 < rest.length := List.length_pos_iff.2 h0r
      have z : (0 : Int) < ((T.size : Nat) : Int) := by omega
      have CI := Lib.hid (Tryz.strings_IndexByte T 10 wr)
      have hd : T.data.toList = rest := by rw [← HT.out]
      rw [hd] at CI
      obtain ⟨j, hj⟩ : ∃ j, Lib.indexByte rest 10 = j := ⟨_, rfl⟩
      have CI2 : Hid (Calls Tryz.prog 73 #[.string T, .int .u8 10] wr fun e w' => e = .returned (.int .i64 j) ∧ w' = wr) := Lib.hid (by rw [← hj]; exact CI.out)
      clear CI
      by_cases h1 : 0 ≤ j
      · obtain ⟨i, rfl⟩ := Int.eq_ofNat_of_zero_le h1
        have hil : i < rest.length := (List.getElem?_eq_some_iff.1 (Lib.indexByte_some hj).1).1
        have HLP := Lib.hid (linesP_some h0r hj)
        have q1 : IntKind.i64.wrap ((i : Int) + 1) = ((i + 1 : Nat) : Int) := by rw [IntWalk.i64_in _ (by omega)]; omega
        have q2 : ((i + 1 : Nat) : Int) ≤ ((T.size : Nat) : Int) := by omega
        have hex : T.extract 0 (i + 1) = ⟨(rest.take (i + 1)).toArray⟩ ∧ T.extract (i + 1) T.size = ⟨(rest.drop (i + 1)).toArray⟩ := ⟨by rw [Lib.extract_upto, hd], by rw [Lib.extract_from, hd]⟩
        have HE := Lib.hid hex
        have HSZ := Lib.hid hsz
        clear hsz h0r hd hj hex
        gi_wp2_with fail
        refine (callsIn_wide.2 CI2.out).mono ?_
        rintro e1 V1 ⟨rfl, rfl⟩
        gi_wp2_with fail
        gi_region
        rw [HE.out.1, HE.out.2]
        obtain ⟨x, hx⟩ : ∃ x, rest.take (i + 1) = x := ⟨_, rfl⟩
        obtain ⟨r2, hr2⟩ : ∃ r2, rest.drop (i + 1) = r2 := ⟨_, rfl⟩
        have hlp := HLP.out
        have hr2l : r2.length = rest.length - (i + 1) := by rw [← hr2, List.length_drop]
        rw [hx, hr2] at hlp ⊢
        obtain ⟨W4, hW4⟩ : ∃ W4, (V1.setCell ⟨bs, 0, none⟩ (.string ⟨r2.toArray⟩)).drew = W4 := ⟨_, rfl⟩
        have hK4 : Keep (fun b => b = bs) V1 W4 := by
          rw [← hW4]
          exact (Keep.setCell (X := fun b => b = bs) (Keep.refl _ V1) (p := ⟨bs, 0, none⟩) rfl _).drew
        have hc4 : W4.heap[bs]? = some (.cells #[.string ⟨r2.toArray⟩] 9 (0, 0)) := by
          rw [← hW4]
          have := heap_setCell_same V1 bs 0 _ _ (.string ⟨r2.toArray⟩) HC.out
          show (V1.setCell ⟨bs, 0, none⟩ (.string ⟨r2.toArray⟩)).heap[bs]? = _
          simpa using this
        rw [hW4]
        have hYb : ¬ Y bs := fun h => by have := HI.out.2.1 bs h; have := hXb.out.2; omega
        have hJ4 : J pre Y W4 := HK.out.2.1 _ _ _ _ (hK4.weaken (fun b _ hb => ⟨.inl hb, by rw [hb]; exact hYb⟩)) HI.out.2.2.1
        have hkW4 : Keep (fun b => X b ∨ b = bs) W W4 := HI.out.2.2.2.trans (hK4.weaken (fun b _ hb => .inr hb))
        have hpx : pre ++ [x] ++ linesP r2 = L := by rw [← HI.out.1, hlp, List.append_assoc]; rfl
        have hyy : YieldAt Fence.wide 0 Tryz.prog m #[.string ⟨x.toArray⟩] W4 _ := HK.out.2.2.2.2 pre x Y W4 ⟨linesP r2, hpx⟩ hJ4 hkW4.size HI.out.2.1
        obtain ⟨fn, tmps, assign, body, hy, hR⟩ := hyy
        have H4 := Lib.hid (And.intro hkW4 (And.intro hc4 (And.intro hpx hr2l)))
        clear hK4 hc4 hJ4 hkW4 hpx hW4 hx hr2 hr2l hlp
        gi_wp2_with fail
        refine hR.mono ?_
        rintro e3 V3 ⟨Y', hk4, hY', (⟨rfl, hJ3⟩ | ⟨rfl, hJx3⟩)⟩
        all_goals have hk3 := H4.out.1
        all_goals have hzk := hk3.size
        all_goals have hkW : Keep (fun b => X b ∨ b = bs) W V3 := ⟨hk4.os.trans hk3.os, hk4.tape.trans hk3.tape, hk4.output.trans hk3.output, Nat.le_trans hk3.size hk4.size, fun b hb hx => (hk4.same b (Nat.lt_of_lt_of_le hb hk3.size) (fun h => by rcases h with h | h; exact hx (.inl h); have := HI.out.2.1 b h; omega)).trans (hk3.same b hb hx)⟩
        all_goals have hYl2 : ∀ b, Y' b → W.heap.size ≤ b := fun b hb => by rcases hY' b hb with h | h; exact HI.out.2.1 b h; omega
        · have hq3 : V3.heap[bs]? = some (.cells #[.string ⟨r2.toArray⟩] 9 (0, 0)) := hk4.heap H4.out.2.1 (fun h => by
            rcases h with h | h
            · exact hXb.out.1 h
            · exact hYb h)
          have HF := Lib.hid (And.intro hYl2 (And.intro hJ3 (And.intro hkW hq3)))
          clear hk4 hk3 hYl2 hJ3 hkW hq3 hY' hYb
          gi_wp2_with fail
          go_roundw
          case rel => exact ⟨r2, pre ++ [x], Y', by have := H4.out.2.2.2; omega, H4.out.2.2.1, HF.out.1, HF.out.2.1, HF.out.2.2.1, HF.out.2.2.2⟩
          case measure =>
            have e1 : V3.cell? ⟨bs, 0, none⟩ = some (.string ⟨r2.toArray⟩) := by rw [Lib.cell_of_heap HF.out.2.2.2]; rfl
            rw [e1, c0]
            show (⟨r2.toArray⟩ : ByteArray).size < T.size
            rw [bsize, HSZ.out]
            have := H4.out.2.2.2
            omega
        · have HF := Lib.hid (And.intro hYl2 (And.intro hJx3 hkW))
          have HPX := Lib.hid (show pre ++ [x] <+: L from ⟨linesP r2, H4.out.2.2.1⟩)
          clear hk4 hk3 hYl2 hJx3 hkW hY' hYb
          gi_wp2_with fail
          refine bodyPost_ret (results_none rfl _ _ _) rfl ?_
          exact ⟨⟨_, rfl⟩, HF.out.2.2, .inr ⟨_, Y', HPX.out, HF.out.1, HF.out.2.1⟩⟩
      · have hjm : j = -1 := by have := Lib.indexByte_ge rest 10; omega
        have HLP := Lib.hid (linesP_none h0r (hj.trans hjm))
        subst hjm
        have HSZ := Lib.hid hsz
        obtain ⟨x, hx⟩ : ∃ x, rest = x := ⟨_, rfl⟩
        have HT2 : Hid (T = ⟨x.toArray⟩) := Lib.hid (by rw [← HT.out, hx])
        clear hsz h0r hd hj h1
        gi_wp2_with fail
        refine (callsIn_wide.2 CI2.out).mono ?_
        rintro e1 V1 ⟨rfl, rfl⟩
        have hlp := HLP.out
        rw [hx] at hlp
        have hT3 := HT2.out
        subst hT3
        obtain ⟨r2, hr2⟩ : ∃ r2 : List UInt8, r2 = [] := ⟨_, rfl⟩
        have hr20 : r2.length = 0 := by rw [hr2]; rfl
        have hlp2 : linesP rest = x :: linesP r2 := by rw [hr2, linesP_nil, hx]; exact hlp
        obtain ⟨W4, hW4⟩ : ∃ W4, V1.setCell ⟨bs, 0, none⟩ (.string ⟨#[]⟩) = W4 := ⟨_, rfl⟩
        have hK4 : Keep (fun b => b = bs) V1 W4 := by
          rw [← hW4]
          exact (Keep.setCell (X := fun b => b = bs) (Keep.refl _ V1) (p := ⟨bs, 0, none⟩) rfl _)
        have hc4 : W4.heap[bs]? = some (.cells #[.string ⟨r2.toArray⟩] 9 (0, 0)) := by
          rw [← hW4]
          have := heap_setCell_same V1 bs 0 _ _ (.string ⟨#[]⟩) HC.out
          rw [hr2]
          simpa using this
        have hlp := hlp2
        have hr2l : r2.length = rest.length - rest.length := by omega
        have hYb : ¬ Y bs := fun h => by have := HI.out.2.1 bs h; have := hXb.out.2; omega
        have hJ4 : J pre Y W4 := HK.out.2.1 _ _ _ _ (hK4.weaken (fun b _ hb => ⟨.inl hb, by rw [hb]; exact hYb⟩)) HI.out.2.2.1
        have hkW4 : Keep (fun b => X b ∨ b = bs) W W4 := HI.out.2.2.2.trans (hK4.weaken (fun b _ hb => .inr hb))
        have hpx : pre ++ [x] ++ linesP r2 = L := by rw [← HI.out.1, hlp, List.append_assoc]; rfl
        have hyy : YieldAt Fence.wide 0 Tryz.prog m #[.string ⟨x.toArray⟩] W4 _ := HK.out.2.2.2.2 pre x Y W4 ⟨linesP r2, hpx⟩ hJ4 hkW4.size HI.out.2.1
        obtain ⟨fn, tmps, assign, body, hy, hR⟩ := hyy
        have H4 := Lib.hid (And.intro hkW4 (And.intro hc4 (And.intro hpx hr2l)))
        clear hK4 hc4 hJ4 hkW4 hpx hr2 hr2l hlp hlp2 hx hr20
        gi_wp2_with fail
        refine hR.mono ?_
        rintro e3 V3 ⟨Y', hk4, hY', (⟨rfl, hJ3⟩ | ⟨rfl, hJx3⟩)⟩
        all_goals have hk3 := H4.out.1
        all_goals have hzk := hk3.size
        all_goals have hkW : Keep (fun b => X b ∨ b = bs) W V3 := ⟨hk4.os.trans hk3.os, hk4.tape.trans hk3.tape, hk4.output.trans hk3.output, Nat.le_trans hk3.size hk4.size, fun b hb hx => (hk4.same b (Nat.lt_of_lt_of_le hb hk3.size) (fun h => by rcases h with h | h; exact hx (.inl h); have := HI.out.2.1 b h; omega)).trans (hk3.same b hb hx)⟩
        all_goals have hYl2 : ∀ b, Y' b → W.heap.size ≤ b := fun b hb => by rcases hY' b hb with h | h; exact HI.out.2.1 b h; omega
        · have hq3 : V3.heap[bs]? = some (.cells #[.string ⟨r2.toArray⟩] 9 (0, 0)) := hk4.heap H4.out.2.1 (fun h => by
            rcases h with h | h
            · exact hXb.out.1 h
            · exact hYb h)
          have HF := Lib.hid (And.intro hYl2 (And.intro hJ3 (And.intro hkW hq3)))
          clear hk4 hk3 hYl2 hJ3 hkW hq3 hY' hYb
          gi_wp2_with fail
          go_roundw
          case rel => exact ⟨r2, pre ++ [x], Y', by have := H4.out.2.2.2; omega, H4.out.2.2.1, HF.out.1, HF.out.2.1, HF.out.2.2.1, HF.out.2.2.2⟩
          case measure =>
            have e1 : V3.cell? ⟨bs, 0, none⟩ = some (.string ⟨r2.toArray⟩) := by rw [Lib.cell_of_heap HF.out.2.2.2]; rfl
            rw [e1, c0]
            show (⟨r2.toArray⟩ : ByteArray).size < (⟨x.toArray⟩ : ByteArray).size
            have h9 := HSZ.out
            rw [h9, bsize]
            have := H4.out.2.2.2
            omega
        · have HF := Lib.hid (And.intro hYl2 (And.intro hJx3 hkW))
          have HPX := Lib.hid (show pre ++ [x] <+: L from ⟨linesP r2, H4.out.2.2.1⟩)
          clear hk4 hk3 hYl2 hJx3 hkW hY' hYb
          gi_wp2_with fail
          refine bodyPost_ret (results_none rfl _ _ _) rfl ?_
          exact ⟨⟨_, rfl⟩, HF.out.2.2, .inr ⟨_, Y', HPX.out, HF.out.1, HF.out.2.1⟩⟩
end Go.Proofs.YtfpfpaaojdodnaaGreatDoor
/- props: how many lines; an error at a line. -/
namespace Go.Proofs.YtfpfpaaojdodnaaGreatDoor
open Go Go.RowKit Go.Kt Go.Kt.Rg Go.Maps

def lnC (l : List UInt8) : Nat := l.count 10 + if l = [] ∨ Lib.hasSuffix l [10] = true then 0 else 1

set_option maxRecDepth 100000 in
theorem plineCount (s : ByteArray) (w : World) (hs : s.size ≤ 1048576) : Calls Tryz.prog 27 #[.string s] w fun e w' => e = .returned (.int .i64 (lnC s.data.toList : Nat)) ∧ w' = w := by
  have C1 := Lib.hid (Tryz.strings_Count_one s 10 w)
  have C2 := Lib.hid (Tryz.strings_HasSuffix s ⟨#[10]⟩ w (by omega))
  have hl : s.data.toList.length = s.size := (Lib.size_eq s).symm
  have hl2 : s.toList = s.data.toList := ByteArray.toList_eq s
  obtain ⟨l, hs2⟩ : ∃ l, s.data.toList = l := ⟨_, rfl⟩
  rw [hs2] at C1 C2 hl hl2 ⊢
  have C2' : Hid (Calls Tryz.prog 67 #[.string s, .string ⟨#[10]⟩] w fun e w' => e = .returned (.bool (Lib.hasSuffix l [10])) ∧ w' = w) := C2
  obtain ⟨n, hn⟩ : ∃ n, Lib.countByte l 10 = n := ⟨_, rfl⟩
  have hnl : n ≤ l.length := by rw [← hn]; exact List.count_le_length
  have hcn : l.count 10 = n := hn
  rw [hn] at C1
  have q1 : IntKind.i64.wrap ((n : Int) + 1) = ((n + 1 : Nat) : Int) := by rw [IntWalk.i64_in _ (by omega)]; omega
  obtain ⟨t, ht⟩ : ∃ t, Lib.hasSuffix l [10] = t := ⟨_, rfl⟩
  rw [ht] at C2'
  by_cases h0 : l = []
  · have HX : Hid (lnC l = n) := Lib.hid (by unfold lnC; rw [if_pos (.inl h0), hcn]; rfl)
    have e0 : s.toList.isEmpty = true := by rw [hl2, h0]; rfl
    clear hcn hn ht hs2 hnl q1 hl hl2 h0 C2 C2'
    go_enter Tryz.func27, Tryz.ntmps27
    go_wp2_with fail
    refine C1.out.mono ?_
    rintro e w1 ⟨rfl, rfl⟩
    go_wp2
    go_ret
    exact ⟨by rw [HX.out]; rfl, rfl⟩
  · have e0 : s.toList.isEmpty = false := by rw [hl2]; simpa using h0
    cases t with
    | true =>
      have HX : Hid (lnC l = n) := Lib.hid (by unfold lnC; rw [if_pos (.inr ht), hcn]; rfl)
      clear hcn hn ht hs2 hnl q1 hl hl2 h0 C2
      go_enter Tryz.func27, Tryz.ntmps27
      go_wp2_with fail
      refine C1.out.mono ?_
      rintro e w1 ⟨rfl, rfl⟩
      go_wp2_with fail
      refine C2'.out.mono ?_
      rintro e w1 ⟨rfl, rfl⟩
      go_wp2
      go_ret
      exact ⟨by rw [HX.out]; rfl, rfl⟩
    | false =>
      have HX : Hid (lnC l = n + 1) := Lib.hid (by unfold lnC; rw [if_neg (fun h => by rcases h with h | h; exact h0 h; rw [ht] at h; cases h), hcn])
      clear hcn hn ht hs2 hnl hl hl2 h0 C2
      go_enter Tryz.func27, Tryz.ntmps27
      go_wp2_with fail
      refine C1.out.mono ?_
      rintro e w1 ⟨rfl, rfl⟩
      go_wp2_with fail
      refine C2'.out.mono ?_
      rintro e w1 ⟨rfl, rfl⟩
      go_wp2
      go_ret
      exact ⟨by rw [HX.out]; rfl, rfl⟩

theorem pfaultR {B0 : Nat} {ρ : Nat → Nat} {R : RdB} {line n m : Nat} {S : RdS} {cv kv : Value} (w : World) (hR : RdW B0 ρ R line n m S cv kv w) (no : Nat) :
    Calls Tryz.prog 32 #[.pointer (some ⟨R.g, 0, none⟩), .int .i64 (no : Nat)] w fun e w' => e = .returned (.iface 150 (.agg #[.int .i64 (no : Nat), .int .i64 (line : Nat), .int .i64 0])) ∧ w' = w := by
  have c1 : w.cell? ⟨R.g, 1, none⟩ = some (.int .i64 (line : Nat)) := by rw [Lib.cell_of_heap hR.cell]; rfl
  clear hR
  go_enter Tryz.func32, Tryz.ntmps32
  go_wp2
  go_ret
  exact ⟨rfl, rfl⟩
end Go.Proofs.YtfpfpaaojdodnaaGreatDoor
/- What is the same of any program: an iterator that hands out some list of which is told what its beginnings are (Ok) and what it is whole (Fin): K24 so. -/
namespace Go.Kt
open Go Go.RowKit
variable {P : Program}

def Iter5 {α : Type} (P : Program) (gf : Nat) (lb : Array Value) (encs : α → Array Value) (Ok Fin : List α → Prop) (Z Nd : Nat → Prop) (w0 : World) : Prop :=
  ∀ (l : Nat) (X : Nat → Prop) (J Jx : List α → (Nat → Prop) → World → Prop) (W : World),
    (∀ b, (Z b ∨ Nd b) → ¬ X b) → (∀ b, X b → b < W.heap.size) → (∀ b, (Z b ∨ Nd b) → W.heap[b]? = w0.heap[b]?) → w0.heap.size ≤ W.heap.size →
    LowZ Z W.heap.size J → LowZ Z W.heap.size Jx → Slim J →
    (∀ pre x Y W1, Ok (pre ++ [x]) → J pre Y W1 → W.heap.size ≤ W1.heap.size → (∀ b, Y b → W.heap.size ≤ b) → YieldAt Fence.wide 0 P l (encs x) W1 fun e W' =>
      ∃ Y', Keep (fun b => X b ∨ Y b) W1 W' ∧ (∀ b, Y' b → Y b ∨ W1.heap.size ≤ b) ∧ ((e = .returned (.bool true) ∧ J (pre ++ [x]) Y' W') ∨ (e = .returned (.bool false) ∧ Jx (pre ++ [x]) Y' W'))) →
    J [] (fun _ => False) W →
    Calls P gf (#[.func (.yield l) #[] #[]] ++ lb) W fun e W' => (∃ v, e = .returned v) ∧ Keep (fun b => X b ∨ Z b) W W' ∧ ((∃ L Y, Fin L ∧ (∀ b, Y b → W.heap.size ≤ b) ∧ J L Y W') ∨ ∃ pre Y, Ok pre ∧ (∀ b, Y b → W.heap.size ≤ b) ∧ Jx pre Y W')

def Round5 {α : Type} (P : Program) (ps : Array Tmp) (assign body : Code) (tmps : Array Value) (encs : α → Array Value) (Ok : List α → Prop) (X Z : Nat → Prop) (I : List α → (Nat → Prop) → World → Prop) (Ix : Code → List α → (Nat → Prop) → World → Prop) (w : World) (l : Nat) : Prop :=
  ∀ (pre : List α) (x : α) (Y : Nat → Prop) (W : World), Ok (pre ++ [x]) → I pre Y W → Keep (fun b => X b ∨ Z b) w W → (∀ b, Y b → w.heap.size ≤ b ∧ b ≠ l) → l < W.heap.size → (∃ r, W.heap[l]? = some (.loop r)) →
    assign.wpIn (Fence.wide.inRound l) 0 P (Exit.then (fun a₁ w₁ => Keep (fun _ => False) W w₁ ∧
        (∀ W2, Keep (fun b => b = l) w₁ W2 → Keep (fun b => X b ∨ Z b) w W2 → I pre Y W2 → (∃ r, W2.heap[l]? = some (.loop r)) → body.wpIn (Fence.wide.inRound l) 0 P (roundEnd X Y I Ix (pre ++ [x]) W2) a₁ W2)) (fun _ _ _ => False))
      { tmps := (ps.zip (encs x)).foldl (fun t (p, v) => t.setIfInBounds p v) tmps, defers := [] } W

theorem loop_core5 {α : Type} {F : Fence} {ps : Array Tmp} {assign body : Code} {Q : Exit → Act → World → Prop} {a a' : Act} {w W1 : World}
    {gf : Nat} {lb : Array Value} {encs : α → Array Value} {Ok Fin : List α → Prop} {Z Nd X : Nat → Prop} {w0 : World} (hit : Iter5 P gf lb encs Ok Fin Z Nd w0)
    (hps : ∀ x, (encs x).size = ps.size) (l : Nat) (rec : LoopState → Option Code → Loop) (fn : FuncId) (D : Nat)
    (hrec : ∀ st pe, rec st pe = { state := st, pending := pe, fn, tmps := a.tmps, params := ps, assign, body, defers := D })
    (hX : ∀ b, X b → b < w.heap.size) (hNd : ∀ b, (Z b ∨ Nd b) → ¬ X b ∧ b < w.heap.size) (hNdw : ∀ b, (Z b ∨ Nd b) → w.heap[b]? = w0.heap[b]?) (hw0 : w0.heap.size ≤ w.heap.size)
    (hl : w.heap.size ≤ l) (hL1 : W1.heap[l]? = some (.loop (rec .ready none))) (hbw : Below w.heap.size w W1)
    (I : List α → (Nat → Prop) → World → Prop) (Ix : Code → List α → (Nat → Prop) → World → Prop) (hI : LowZ Z w.heap.size I) (hSI : Slim I) (hIx : ∀ c, LowZ Z w.heap.size (Ix c)) (h0 : I [] (fun _ => False) w)
    (hround : Round5 P ps assign body a.tmps encs Ok X Z I Ix w l)
    (hdone : ∀ L Y W, Fin L → I L Y W → (∀ b, Y b → W1.heap.size ≤ b) → Keep (fun b => X b ∨ Z b) w W → Keep (fun b => (X b ∨ b = l) ∨ Z b) W1 W → Q .normal a' W)
    (hstop : ∀ c pre Y W, Ok pre → Ix c pre Y W → (∀ b, Y b → W1.heap.size ≤ b) → Keep (fun b => X b ∨ Z b) w W → Keep (fun b => (X b ∨ b = l) ∨ Z b) W1 W → c.wpIn F 0 P Q a' W) :
    Calls P gf (#[.func (.yield l) #[] #[]] ++ lb) W1 (rangePost F 0 P l Q a') := by
  have hlt1 : l < W1.heap.size := (Array.getElem?_eq_some_iff.1 hL1).1
  have hB1 : w.heap.size ≤ W1.heap.size := hbw.size
  have hkw : Keep (fun b => X b ∨ Z b) w W1 := .of_all hbw
  -- a step that touches nothing below W1's heap's end but what is not of Y
  have low1 : ∀ {Y : Nat → Prop} {A B : World}, Keep (fun b => (Z b ∨ W1.heap.size ≤ b) ∧ ¬ Y b) A B → Keep (fun b => (Z b ∨ w.heap.size ≤ b) ∧ ¬ Y b) A B := fun h => h.weaken fun _ _ hb => ⟨hb.1.imp id (fun h => Nat.le_trans hB1 h), hb.2⟩
  have lowX : ∀ {Y : Nat → Prop} {A B : World}, Keep (fun b => (Z b ∨ W1.heap.size ≤ b) ∧ ¬ Y b) A B → Keep (fun b => X b ∨ Z b) w A → Keep (fun b => X b ∨ Z b) w B := fun h k =>
    ⟨h.os.trans k.os, h.tape.trans k.tape, h.output.trans k.output, Nat.le_trans k.size h.size, fun b hb hx => (h.same b (Nat.lt_of_lt_of_le hb k.size) (fun hy => by rcases hy.1 with h | h; exact hx (.inr h); omega)).trans (k.same b hb hx)⟩
  have lowl : ∀ {Y : Nat → Prop} {A B : World} {o : Obj}, Keep (fun b => (Z b ∨ W1.heap.size ≤ b) ∧ ¬ Y b) A B → A.heap[l]? = some o → B.heap[l]? = some o := fun h ho => h.heap ho (fun hy => by rcases hy.1 with h | h; have := (hNd l (.inl h)).2; omega; omega)
  -- the law's own turn of its record
  have turn : ∀ {Y : Nat → Prop} (W : World) (o : Obj), (∀ b, Y b → W1.heap.size ≤ b) → Keep (fun b => (Z b ∨ w.heap.size ≤ b) ∧ ¬ Y b) W (W.putObj l o) := fun W o hY => (Keep.refl _ W).putObj (.inl ⟨.inr hl, fun hy => by have := hY l hy; omega⟩) o
  refine (hit l (fun b => X b ∨ b = l) (fun pre Y W => (∀ b, Y b → W1.heap.size ≤ b) ∧ I pre Y W ∧ Keep (fun b => X b ∨ Z b) w W ∧ W.heap[l]? = some (.loop (rec .ready none)))
    (fun pre Y W => (∀ b, Y b → W1.heap.size ≤ b) ∧ ∃ c, Ix c pre Y W ∧ Keep (fun b => X b ∨ Z b) w W ∧ W.heap[l]? = some (.loop (rec .done (some c)))) W1
    (fun b hb => by have := hNd b hb; rintro (h | h); exact this.1 h; omega)
    (fun b hb => by rcases hb with hb | hb; have := hX b hb; omega; omega)
    (fun b hb => (hbw.block b (hNd b hb).2).trans (hNdw b hb)) (by omega)
    (fun s Y A B hb ⟨hY, h1, h2, h3⟩ => ⟨hY, hI s Y A B (low1 hb) h1, lowX hb h2, lowl hb h3⟩)
    (fun s Y A B hb ⟨hY, c, h1, h2, h3⟩ => ⟨hY, c, hIx c s Y A B (low1 hb) h1, lowX hb h2, lowl hb h3⟩)
    (fun s Y A ⟨hY, h1, h2, h3⟩ => ⟨fun b hb => hY b hb.1, hSI s Y A h1, h2, h3⟩)
    ?_ ⟨fun _ h => h.elim, hI _ _ _ _ (.of_all hbw) h0, hkw, hL1⟩).mono ?_
  · rintro pre x Y W hpre ⟨hY, hi, hk, hl3⟩ hsz _
    have hlt : l < W.heap.size := (Array.getElem?_eq_some_iff.1 hl3).1
    have hYl : ∀ b, Y b → w.heap.size ≤ b ∧ b ≠ l := fun b hb => by have := hY b hb; omega
    have hy := run_yield (P := P) (args := encs x) hl3 (by rw [hrec]; exact hps x)
    rw [hrec] at hy
    refine ⟨fn, _, assign, body, hy, roundIn_of_wpIn trivial (wpIn_mono (hround pre x Y W hpre hi hk hYl hlt ⟨_, hl3⟩) ?_)⟩
    intro e a₁ w₁ h
    cases e with
    | normal =>
      obtain ⟨hk1, hb1⟩ := h
      have hl4 : w₁.heap[l]? = some (.loop (rec .ready none)) := hk1.heap hl3 (fun hx => hx)
      refine ⟨_, run_beginRound hl4 (by rw [hrec]), ?_⟩
      have hlt4 : l < w₁.heap.size := (Array.getElem?_eq_some_iff.1 hl4).1
      have hi1 : I pre Y w₁ := hI _ _ _ _ (hk1.weaken (fun _ _ h => h.elim)) hi
      have hi2 := hI _ _ _ _ (turn (Y := Y) w₁ (.loop { rec .ready none with state := .busy }) hY) hi1
      have hkw1 : Keep (fun b => X b ∨ Z b) w (w₁.putObj l (.loop { rec .ready none with state := .busy })) := (hk.trans (hk1.weaken fun _ _ h => h.elim)).putObj (.inr hl) _
      have hl5 : (w₁.putObj l (.loop { rec .ready none with state := .busy })).heap[l]? = some (.loop { rec .ready none with state := .busy }) := World.putObj_heap_same hlt4
      refine wpIn_mono (hb1 _ ((Keep.refl (fun b => b = l) w₁).putObj (.inl rfl) _) hkw1 hi2 ⟨_, hl5⟩) ?_
      have hX2 : Keep (fun b => (X b ∨ b = l) ∨ Y b) W (w₁.putObj l (.loop { rec .ready none with state := .busy })) := (hk1.weaken (fun _ _ h => h.elim)).putObj (.inl (.inl (.inr rfl))) _
      have hsz2 : W.heap.size ≤ (w₁.putObj l (.loop { rec .ready none with state := .busy })).heap.size := hX2.size
      have fin : ∀ (jump : Option Code) (W3 : World) (I' : List α → (Nat → Prop) → World → Prop), LowZ Z w.heap.size I' → Left X Y I' (pre ++ [x]) (w₁.putObj l (.loop { rec .ready none with state := .busy })) W3 →
          (Instr.endRound l jump).run P W3 = .ok (.bool jump.isNone) (W3.putObj l (.loop (rec (if jump.isNone then .ready else .done) jump))) ∧
          (W3.putObj l (.loop (rec (if jump.isNone then .ready else .done) jump))).heap[l]? = some (.loop (rec (if jump.isNone then .ready else .done) jump)) ∧
          ∃ Y', (∀ b, Y' b → W1.heap.size ≤ b) ∧ (∀ b, Y' b → Y b ∨ W.heap.size ≤ b) ∧ I' (pre ++ [x]) Y' (W3.putObj l (.loop (rec (if jump.isNone then .ready else .done) jump))) ∧
          Keep (fun b => X b ∨ Z b) w (W3.putObj l (.loop (rec (if jump.isNone then .ready else .done) jump))) ∧
          Keep (fun b => (X b ∨ b = l) ∨ Y b) W (W3.putObj l (.loop (rec (if jump.isNone then .ready else .done) jump))) := fun jump W3 I' hI' ⟨Y', hk3, hY', hi3⟩ => by
        have hl6 := hk3.heap hl5 (fun hx => by rcases hx with hx | hx; have := hX l hx; omega; have := hY l hx; omega)
        have hr := run_endRound (P := P) jump hl6
        have er : ({ ({ rec .ready none with state := .busy } : Loop) with state := if jump.isNone then .ready else .done, pending := jump } : Loop) = rec (if jump.isNone then .ready else .done) jump := by
          rw [hrec, hrec]
        rw [er] at hr
        have hY1 : ∀ b, Y' b → W1.heap.size ≤ b := fun b hb => by rcases hY' b hb with h | h; exact hY b h; omega
        refine ⟨hr, World.putObj_heap_same (Array.getElem?_eq_some_iff.1 hl6).1, Y', hY1, fun b hb => by rcases hY' b hb with h | h; exact .inl h; exact .inr (by omega), hI' _ _ _ _ (turn W3 _ hY1) hi3, ?_, ?_⟩
        · refine Keep.putObj ?_ (.inr hl) _
          exact ⟨hk3.os.trans hkw1.os, hk3.tape.trans hkw1.tape, hk3.output.trans hkw1.output, Nat.le_trans hkw1.size hk3.size, fun b hb hx => (hk3.same b (Nat.lt_of_lt_of_le hb hkw1.size) (fun h => by rcases h with h | h; exact hx (.inl h); have := hY b h; omega)).trans (hkw1.same b hb hx)⟩
        · exact (hX2.trans (hk3.weaken (fun _ _ h => by rcases h with h | h; exact .inl (.inl h); exact .inr h))).putObj (.inl (.inl (.inr rfl))) _
      rintro e a3 W3 hp
      cases e with
      | normal =>
        obtain ⟨hr, hl7, Y', q1, q2, q3, q4, q5⟩ := fin none W3 I hI hp
        exact ⟨_, _, hr, Y', q5, q2, .inl ⟨rfl, q1, q3, q4, hl7⟩⟩
      | ret =>
        obtain ⟨hr, hl7, Y', q1, q2, q3, q4, q5⟩ := fin (some .ret) W3 _ (hIx _) hp
        exact ⟨_, _, hr, Y', q5, q2, .inr ⟨rfl, q1, .ret, q3, q4, hl7⟩⟩
      | exit id =>
        obtain ⟨hr, hl7, Y', q1, q2, q3, q4, q5⟩ := fin (some (.exit id)) W3 _ (hIx _) hp
        exact ⟨_, _, hr, Y', q5, q2, .inr ⟨rfl, q1, .exit id, q3, q4, hl7⟩⟩
      | goto t =>
        obtain ⟨hr, hl7, Y', q1, q2, q3, q4, q5⟩ := fin (some (.goto t)) W3 _ (hIx _) hp
        exact ⟨_, _, hr, Y', q5, q2, .inr ⟨rfl, q1, .goto t, q3, q4, hl7⟩⟩
      | panic ch => exact hp.elim
      | outgrown => exact hp.elim
    | ret => exact h.elim
    | exit id => exact h.elim
    | goto t => exact h.elim
    | panic ch => exact h.elim
    | outgrown => exact h.elim
  · rintro e W2 ⟨⟨v, rfl⟩, hk2, (⟨L, Y, hFin, _, hY, hi, hk, hl2⟩ | ⟨pre, Y, hpre, _, hY, c, hi, hk, hl2⟩)⟩
    · have hr := run_endLoop (P := P) hl2 (by rw [hrec]; simp)
      have e1 : (rec .ready none).pending = none := by rw [hrec]
      rw [e1] at hr
      exact ⟨none, _, hr, hdone L Y _ hFin (hI _ _ _ _ (turn W2 _ hY) hi) hY (hk.putObj (.inr hl) _) (hk2.putObj (.inl (.inl (.inr rfl))) _)⟩
    · have hr := run_endLoop (P := P) hl2 (by rw [hrec]; simp)
      have e1 : (rec .done (some c)).pending = some c := by rw [hrec]
      rw [e1] at hr
      exact ⟨some c, _, hr, hstop c pre Y _ hpre (hIx c _ _ _ _ (turn W2 _ hY) hi) hY (hk.putObj (.inr hl) _) (hk2.putObj (.inl (.inl (.inr rfl))) _)⟩

theorem loop_out5 {α : Type} {g : Operand} {ps : Array Tmp} {assign body : Code} {Q : Exit → Act → World → Prop} {a : Act} {w : World}
    {gf : Nat} {lb : Array Value} (hg : a.eval g = .func (.func gf) #[] lb) (eg : ∀ args w, (callFunc gf args).run P w = .ok (.enter gf args) w)
    {encs : α → Array Value} {Ok Fin : List α → Prop} {Z Nd X : Nat → Prop} {w0 : World} (hit : Iter5 P gf lb encs Ok Fin Z Nd w0) (hps : ∀ x, (encs x).size = ps.size)
    (hX : ∀ b, X b → b < w.heap.size) (hNd : ∀ b, (Z b ∨ Nd b) → ¬ X b ∧ b < w.heap.size) (hNdw : ∀ b, (Z b ∨ Nd b) → w.heap[b]? = w0.heap[b]?) (hw0 : w0.heap.size ≤ w.heap.size)
    (I : List α → (Nat → Prop) → World → Prop) (Ix : Code → List α → (Nat → Prop) → World → Prop) (hI : LowZ Z w.heap.size I) (hSI : Slim I) (hIx : ∀ c, LowZ Z w.heap.size (Ix c)) (h0 : I [] (fun _ => False) w)
    (hround : ∀ l, w.heap.size ≤ l → Round5 P ps assign body a.tmps encs Ok X Z I Ix w l)
    (hdone : ∀ D L Y W, Fin L → w.heap.size ≤ D → W.heap[D]? = some (.deferred (some [])) → I L Y W → (∀ b, Y b → w.heap.size ≤ b ∧ b ≠ D) → Keep (fun b => X b ∨ Z b) w W → Q .normal { a with defers := { target := .collected D, args := #[] } :: a.defers } W)
    (hstop : ∀ D c pre Y W, w.heap.size ≤ D → W.heap[D]? = some (.deferred (some [])) → Ok pre → Ix c pre Y W → (∀ b, Y b → w.heap.size ≤ b ∧ b ≠ D) → Keep (fun b => X b ∨ Z b) w W → c.wpIn Fence.wide 0 P Q { a with defers := { target := .collected D, args := #[] } :: a.defers } W) :
    (Code.rangeFunc g ps assign body).wpIn Fence.wide 0 P Q a w := by
  refine wpIn_rangeFunc ?_
  intro fn _
  obtain ⟨rec, hrec⟩ : ∃ rec : LoopState → Option Code → Loop, rec = fun st pe => { state := st, pending := pe, fn, tmps := a.tmps, params := ps, assign, body, defers := w.heap.size } := ⟨_, rfl⟩
  obtain ⟨W1, hW1⟩ : ∃ W1, (w.alloc (.deferred (some []))).alloc (.loop (rec .ready none)) = W1 := ⟨_, rfl⟩
  have hL1 : W1.heap[w.heap.size + 1]? = some (.loop (rec .ready none)) := by
    rw [← hW1]; have := World.alloc_heap_new (w.alloc (.deferred (some []))) (.loop (rec .ready none)); rwa [World.size_alloc] at this
  have hD1 : W1.heap[w.heap.size]? = some (.deferred (some [])) := by
    rw [← hW1]; exact (Below.heap_alloc _ _ _ (by simp)).trans (World.alloc_heap_new w _)
  have hbw : Below w.heap.size w W1 := by
    rw [← hW1]; exact ((Below.refl _ w).alloc (Nat.le_refl _) _).alloc (by simp) _
  have hltD : w.heap.size < W1.heap.size := (Array.getElem?_eq_some_iff.1 hD1).1
  have hD : ∀ W, Keep (fun b => (X b ∨ b = w.heap.size + 1) ∨ Z b) W1 W → W.heap[w.heap.size]? = some (.deferred (some [])) := fun W hk =>
    hk.heap hD1 (fun h => by rcases h with (h | h) | h; have := hX _ h; omega; omega; have := (hNd _ (.inl h)).2; omega)
  refine ⟨w.heap.size + 1, [{ target := .collected w.heap.size, args := #[] }], W1, { target := .fn (.func gf) lb, args := #[.func (.yield (w.heap.size + 1)) #[] #[]] }, W1, gf,
    #[.func (.yield (w.heap.size + 1)) #[] #[]] ++ lb, W1, ?_, ?_, ?_, ?_, (fun h => by cases h), ?_⟩
  · rw [← hW1, hrec]; exact run_enterLoop_outer _ _ _ _ _
  · simp only [resolve, hg]
    simp [go_sem]
  · intro _ _; trivial
  · simp [invoke, go_sem, eg]
  · exact callsIn_wide.2 (loop_core5 hit hps (w.heap.size + 1) rec fn w.heap.size (by intro st pe; rw [hrec]) hX hNd hNdw hw0 (by omega) hL1 hbw I Ix hI hSI hIx h0
      (hround _ (by omega))
      (fun L Y W hF hi hY hk hk1 => hdone _ L Y W hF (Nat.le_refl _) (hD W hk1) hi (fun b hb => by have := hY b hb; omega) hk)
      (fun c pre Y W hp hi hY hk hk1 => hstop _ c pre Y W (Nat.le_refl _) (hD W hk1) hp hi (fun b hb => by have := hY b hb; omega) hk))
end Go.Kt
