/- Parts of the proof of what the last text says. -/
import Derived.Test.YthhepebkfokddaaGreatDoorProg
import Derived.Test.YthhepebkfokddaaGreatDoorGx1
import Derived.Lib.Hide
import Derived.IntWalk
import Derived.BigQuiet
import Derived.Laws.IdiomCopy
import Derived.Lib.SliceRun
import Derived.OwnWalk
import Derived.Test.YthhepebkfokddaaGreatDoorGx2
import Derived.OrdersIn
import Derived.OwnWalkIn
namespace Go.Proofs.YthhepebkfokddaaGreatDoor
open Go Go.RowKit Go.Kt
def hanK (r : Int) : Int :=
 if 4352 ≤ r ∧ r ≤ 4370 then 1 else if 4449 ≤ r ∧ r ≤ 4469 then 2 else if 4520 ≤ r ∧ r ≤ 4546 then 3 else if r < 44032 ∨ 55203 < r then 0 else if (r - 44032) % 28 = 0 then 4 else 5
def oneS (a b : Int) : Bool :=
 if a = 1 then decide (b = 1) || decide (b = 2) || decide (b = 4) || decide (b = 5) else if a = 2 ∨ a = 4 then decide (b = 2) || decide (b = 3) else if a = 3 ∨ a = 5 then decide (b = 3) else false
structure CU where
 num : Int
 apart : Bool
 hangs : Bool
 holds : Bool
 han : Int
def cuV (u : CU) : Value := .agg #[.int .i32 u.num, .bool u.apart, .bool u.hangs, .bool u.holds, .int .i64 u.han]
def edgU (a b : CU) : Bool :=
 if a.num = 13 ∧ b.num = 10 then false else if a.apart || b.apart then true else if b.hangs || a.holds then false else !oneS a.han b.han
set_option maxRecDepth 100000 in
theorem chan (r : Int) (w : World) : Calls Tryz.prog 59 #[.int .i32 r] w fun e w' => e = .returned (.int .i64 (hanK r)) ∧ w' = w := by
 by_cases h1 : 4352 ≤ r ∧ r ≤ 4370
 ·have e1 := h1.1
  have e2 := h1.2
  rw [show hanK r = 1 by unfold hanK; rw [if_pos h1]]
  clear h1
  go_enter Tryz.func59, Tryz.ntmps59
  go_wp2
  go_ret
  exact ⟨rfl, rfl⟩
 by_cases h2 : 4449 ≤ r ∧ r ≤ 4469
 ·have e1 : 4352 ≤ r := by omega
  have e2 : ¬ r ≤ 4370 := by omega
  have e3 := h2.1
  have e4 := h2.2
  rw [show hanK r = 2 by unfold hanK; rw [if_neg h1, if_pos h2]]
  clear h1 h2
  go_enter Tryz.func59, Tryz.ntmps59
  go_wp2
  go_ret
  exact ⟨rfl, rfl⟩
 by_cases h3 : 4520 ≤ r ∧ r ≤ 4546
 ·have e1 : 4352 ≤ r := by omega
  have e2 : ¬ r ≤ 4370 := by omega
  have e3 : 4449 ≤ r := by omega
  have e4 : ¬ r ≤ 4469 := by omega
  have e5 := h3.1
  have e6 := h3.2
  rw [show hanK r = 3 by unfold hanK; rw [if_neg h1, if_neg h2, if_pos h3]]
  clear h1 h2 h3
  go_enter Tryz.func59, Tryz.ntmps59
  go_wp2
  go_ret
  exact ⟨rfl, rfl⟩
 have HN : Hid ((¬ (4352 ≤ r ∧ r ≤ 4370)) ∧ (¬ (4449 ≤ r ∧ r ≤ 4469)) ∧ ¬ (4520 ≤ r ∧ r ≤ 4546)) := Lib.hid ⟨h1, h2, h3⟩
 by_cases h4 : r < 44032
 ·rw [show hanK r = 0 by unfold hanK; rw [if_neg h1, if_neg h2, if_neg h3, if_pos (Or.inl h4)]]
  by_cases a1 : 4352 ≤ r
  ·have a2 : ¬ r ≤ 4370 := by omega
   by_cases b1 : 4449 ≤ r
   ·have b2 : ¬ r ≤ 4469 := by omega
    by_cases c1 : 4520 ≤ r
    ·have c2 : ¬ r ≤ 4546 := by omega
     clear h1 h2 h3 HN
     go_enter Tryz.func59, Tryz.ntmps59
     go_wp2
     go_ret
     exact ⟨rfl, rfl⟩
    ·clear h1 h2 h3 HN
     go_enter Tryz.func59, Tryz.ntmps59
     go_wp2
     go_ret
     exact ⟨rfl, rfl⟩
   ·have c1 : ¬ 4520 ≤ r := by omega
    clear h1 h2 h3 HN
    go_enter Tryz.func59, Tryz.ntmps59
    go_wp2
    go_ret
    exact ⟨rfl, rfl⟩
  ·have b1 : ¬ 4449 ≤ r := by omega
   have c1 : ¬ 4520 ≤ r := by omega
   clear h1 h2 h3 HN
   go_enter Tryz.func59, Tryz.ntmps59
   go_wp2
   go_ret
   exact ⟨rfl, rfl⟩
 have a1 : 4352 ≤ r := by omega
 have a2 : ¬ r ≤ 4370 := by omega
 have b1 : 4449 ≤ r := by omega
 have b2 : ¬ r ≤ 4469 := by omega
 have c1 : 4520 ≤ r := by omega
 have c2 : ¬ r ≤ 4546 := by omega
 by_cases h5 : 55203 < r
 ·rw [show hanK r = 0 by unfold hanK; rw [if_neg h1, if_neg h2, if_neg h3, if_pos (Or.inr h5)]]
  clear h1 h2 h3 HN
  go_enter Tryz.func59, Tryz.ntmps59
  go_wp2
  go_ret
  exact ⟨rfl, rfl⟩
 obtain ⟨m, rfl⟩ : ∃ m, r = 44032 + m := ⟨r - 44032, by omega⟩
 have q1 : IntKind.i32.wrap (44032 + m - 44032) = m := by rw [IntWalk.i32_in _ (by omega)]; omega
 have q2 : m.tmod 28 = m % 28 := Int.tmod_eq_emod_of_nonneg (by omega)
 have q3 : 44032 + m - 44032 = m := by omega
 obtain ⟨k, hk⟩ : ∃ k, m % 28 = k := ⟨_, rfl⟩
 have q4 : IntKind.i32.wrap k = k := IntWalk.i32_in _ (by omega)
 rw [show hanK (44032 + m) = if k = 0 then 4 else 5 by unfold hanK; rw [if_neg h1, if_neg h2, if_neg h3, if_neg (by omega), q3, hk]]
 by_cases hk0 : k = 0
 ·rw [if_pos hk0]
  clear h1 h2 h3 HN q3
  go_enter Tryz.func59, Tryz.ntmps59
  go_wp2
  go_ret
  exact ⟨rfl, rfl⟩
 ·rw [if_neg hk0]
  have hk1 : (k == 0) = false := by rw [beq_eq_false_iff_ne]; exact hk0
  clear h1 h2 h3 HN q3
  go_enter Tryz.func59, Tryz.ntmps59
  go_wp2
  go_ret
  exact ⟨rfl, rfl⟩
theorem hanK_in (r : Int) : 0 ≤ hanK r ∧ hanK r ≤ 5 := by
 unfold hanK
 repeat' split
 all_goals decide
set_option maxRecDepth 100000 in
theorem cone (a b : Int) (w : World) (ha : 0 ≤ a ∧ a ≤ 5) (hb : 0 ≤ b ∧ b ≤ 5) : Calls Tryz.prog 57 #[.int .i64 a, .int .i64 b] w fun e w' => e = .returned (.bool (oneS a b)) ∧ w' = w := by
 have ha' : a = 0 ∨ a = 1 ∨ a = 2 ∨ a = 3 ∨ a = 4 ∨ a = 5 := by omega
 have hb' : b = 0 ∨ b = 1 ∨ b = 2 ∨ b = 3 ∨ b = 4 ∨ b = 5 := by omega
 clear ha hb
 rcases ha' with rfl | rfl | rfl | rfl | rfl | rfl <;> rcases hb' with rfl | rfl | rfl | rfl | rfl | rfl <;>
  (go_enter Tryz.func57, Tryz.ntmps57
   go_wp2
   go_ret
   exact ⟨rfl, rfl⟩)
end Go.Proofs.YthhepebkfokddaaGreatDoor
namespace Go.Kt
open Go Go.RowKit
variable {P : Program}
def Slim {β : Type} (J : β → (Nat → Prop) → World → Prop) : Prop := ∀ s Y W, J s Y W → J s (fun b => Y b ∧ b < W.heap.size) W
def LowZ {β : Type} (Z : Nat → Prop) (B : Nat) (J : β → (Nat → Prop) → World → Prop) : Prop := ∀ s Y W W', Keep (fun b => (Z b ∨ B ≤ b) ∧ ¬ Y b) W W' → J s Y W → J s Y W'
def Iter5 {α : Type} (P : Program) (gf : Nat) (lb : Array Value) (encs : α → Array Value) (Ok Fin : List α → Prop) (Z Nd : Nat → Prop) (w0 : World) : Prop :=
 ∀ (l : Nat) (X : Nat → Prop) (J Jx : List α → (Nat → Prop) → World → Prop) (W : World),
  (∀ b, (Z b ∨ Nd b) → ¬ X b) → (∀ b, X b → b < W.heap.size) → (∀ b, (Z b ∨ Nd b) → W.heap[b]? = w0.heap[b]?) → w0.heap.size ≤ W.heap.size →
  LowZ Z W.heap.size J → LowZ Z W.heap.size Jx → Slim J →
  (∀ pre x Y W1, Ok (pre ++ [x]) → J pre Y W1 → W.heap.size ≤ W1.heap.size → (∀ b, Y b → W.heap.size ≤ b) → YieldAt Fence.wide 0 P l (encs x) W1 fun e W' =>
   ∃ Y', Keep (fun b => X b ∨ Y b) W1 W' ∧ (∀ b, Y' b → Y b ∨ W1.heap.size ≤ b) ∧ ((e = .returned (.bool true) ∧ J (pre ++ [x]) Y' W') ∨ (e = .returned (.bool false) ∧ Jx (pre ++ [x]) Y' W'))) →
  J [] (fun _ => False) W →
  Calls P gf (#[.func (.yield l) #[] #[]] ++ lb) W fun e W' => (∃ v, e = .returned v) ∧ Keep (fun b => X b ∨ Z b) W W' ∧ ((∃ L Y, Fin L ∧ (∀ b, Y b → W.heap.size ≤ b) ∧ J L Y W') ∨ ∃ pre Y, Ok pre ∧ (∀ b, Y b → W.heap.size ≤ b) ∧ Jx pre Y W')
def Round5 {α : Type} (P : Program) (ps : Array Tmp) (assign body : Code) (tmps : Array Value) (encs : α → Array Value) (Ok : List α → Prop) (X Z : Nat → Prop) (I : List α → (Nat → Prop) → World → Prop) (Ix : Code → List α → (Nat → Prop) → World → Prop) (w : World) (l : Nat) : Prop :=
 ∀ (pre : List α) (x : α) (Y : Nat → Prop) (W : World), Ok (pre ++ [x]) → I pre Y W → Keep (fun b => X b ∨ Z b) w W → (∀ b, Y b → w.heap.size ≤ b ∧ b ≠ l) → l < W.heap.size → (∃ r, W.heap[l]? = some (.loop r)) →
  assign.wpIn (Fence.wide.inRound l) 0 P (Exit.then (fun a₁ w₁ => Keep (fun _ => False) W w₁ ∧
   (∀ W2, Keep (fun b => b = l) w₁ W2 → Keep (fun b => X b ∨ Z b) w W2 → I pre Y W2 → (∃ r, W2.heap[l]? = some (.loop r)) → body.wpIn (Fence.wide.inRound l) 0 P (roundEnd X Y I Ix (pre ++ [x]) W2) a₁ W2)) (fun _ _ _ => False))
   { tmps := (ps.zip (encs x)).foldl (fun t (p, v) => t.setIfInBounds p v) tmps, defers := [] } W
theorem loop_core5 {α : Type} {F : Fence} {ps : Array Tmp} {assign body : Code} {Q : Exit → Act → World → Prop} {a a' : Act} {w W1 : World}
 {gf : Nat} {lb : Array Value} {encs : α → Array Value} {Ok Fin : List α → Prop} {Z Nd X : Nat → Prop} {w0 : World} (hit : Iter5 P gf lb encs Ok Fin Z Nd w0)
 (hps : ∀ x, (encs x).size = ps.size) (l : Nat) (rec : LoopState → Option Code → Loop) (fn : FuncId) (D : Nat)
 (hrec : ∀ st pe, rec st pe = { state := st, pending := pe, fn, tmps := a.tmps, params := ps, assign, body, defers := D })
 (hX : ∀ b, X b → b < w.heap.size) (hNd : ∀ b, (Z b ∨ Nd b) → ¬ X b ∧ b < w.heap.size) (hNdw : ∀ b, (Z b ∨ Nd b) → w.heap[b]? = w0.heap[b]?) (hw0 : w0.heap.size ≤ w.heap.size)
 (hl : w.heap.size ≤ l) (hL1 : W1.heap[l]? = some (.loop (rec .ready none))) (hbw : Below w.heap.size w W1)
 (I : List α → (Nat → Prop) → World → Prop) (Ix : Code → List α → (Nat → Prop) → World → Prop) (hI : LowZ Z w.heap.size I) (hSI : Slim I) (hIx : ∀ c, LowZ Z w.heap.size (Ix c)) (h0 : I [] (fun _ => False) w)
 (hround : Round5 P ps assign body a.tmps encs Ok X Z I Ix w l)
 (hdone : ∀ L Y W, Fin L → I L Y W → (∀ b, Y b → W1.heap.size ≤ b) → Keep (fun b => X b ∨ Z b) w W → Keep (fun b => (X b ∨ b = l) ∨ Z b) W1 W → Q .normal a' W)
 (hstop : ∀ c pre Y W, Ok pre → Ix c pre Y W → (∀ b, Y b → W1.heap.size ≤ b) → Keep (fun b => X b ∨ Z b) w W → Keep (fun b => (X b ∨ b = l) ∨ Z b) W1 W → c.wpIn F 0 P Q a' W) :
 Calls P gf (#[.func (.yield l) #[] #[]] ++ lb) W1 (rangePost F 0 P l Q a') := by
 have hlt1 : l < W1.heap.size := (Array.getElem?_eq_some_iff.1 hL1).1
 have hB1 : w.heap.size ≤ W1.heap.size := hbw.size
 have hkw : Keep (fun b => X b ∨ Z b) w W1 := .of_all hbw
 have low1 : ∀ {Y : Nat → Prop} {A B : World}, Keep (fun b => (Z b ∨ W1.heap.size ≤ b) ∧ ¬ Y b) A B → Keep (fun b => (Z b ∨ w.heap.size ≤ b) ∧ ¬ Y b) A B := fun h => h.weaken fun _ _ hb => ⟨hb.1.imp id (fun h => Nat.le_trans hB1 h), hb.2⟩
 have lowX : ∀ {Y : Nat → Prop} {A B : World}, Keep (fun b => (Z b ∨ W1.heap.size ≤ b) ∧ ¬ Y b) A B → Keep (fun b => X b ∨ Z b) w A → Keep (fun b => X b ∨ Z b) w B := fun h k =>
  ⟨h.os.trans k.os, h.tape.trans k.tape, h.output.trans k.output, Nat.le_trans k.size h.size, fun b hb hx => (h.same b (Nat.lt_of_lt_of_le hb k.size) (fun hy => by rcases hy.1 with h | h; exact hx (.inr h); omega)).trans (k.same b hb hx)⟩
 have lowl : ∀ {Y : Nat → Prop} {A B : World} {o : Obj}, Keep (fun b => (Z b ∨ W1.heap.size ≤ b) ∧ ¬ Y b) A B → A.heap[l]? = some o → B.heap[l]? = some o := fun h ho => h.heap ho (fun hy => by rcases hy.1 with h | h; have := (hNd l (.inl h)).2; omega; omega)
 have turn : ∀ {Y : Nat → Prop} (W : World) (o : Obj), (∀ b, Y b → W1.heap.size ≤ b) → Keep (fun b => (Z b ∨ w.heap.size ≤ b) ∧ ¬ Y b) W (W.putObj l o) := fun W o hY => (Keep.refl _ W).putObj (.inl ⟨.inr hl, fun hy => by have := hY l hy; omega⟩) o
 refine (hit l (fun b => X b ∨ b = l) (fun pre Y W => (∀ b, Y b → W1.heap.size ≤ b) ∧ I pre Y W ∧ Keep (fun b => X b ∨ Z b) w W ∧ W.heap[l]? = some (.loop (rec .ready none)))
  (fun pre Y W => (∀ b, Y b → W1.heap.size ≤ b) ∧ ∃ c, Ix c pre Y W ∧ Keep (fun b => X b ∨ Z b) w W ∧ W.heap[l]? = some (.loop (rec .done (some c)))) W1
  (fun b hb => by have := hNd b hb; rintro (h | h); exact this.1 h; omega)
  (fun b hb => by rcases hb with hb | hb; have := hX b hb; omega; omega)
  (fun b hb => (hbw.block b (hNd b hb).2).trans (hNdw b hb)) (by omega)
  (fun s Y A B hb ⟨hY, h1, h2, h3⟩ => ⟨hY, hI s Y A B (low1 hb) h1, lowX hb h2, lowl hb h3⟩)
  (fun s Y A B hb ⟨hY, c, h1, h2, h3⟩ => ⟨hY, c, hIx c s Y A B (low1 hb) h1, lowX hb h2, lowl hb h3⟩)
  (fun s Y A ⟨hY, h1, h2, h3⟩ => ⟨fun b hb => hY b hb.1, hSI s Y A h1, h2, h3⟩)
  ?_ ⟨fun _ h => h.elim, hI _ _ _ _ (.of_all hbw) h0, hkw, hL1⟩).mono ?_
 ·rintro pre x Y W hpre ⟨hY, hi, hk, hl3⟩ hsz _
  have hlt : l < W.heap.size := (Array.getElem?_eq_some_iff.1 hl3).1
  have hYl : ∀ b, Y b → w.heap.size ≤ b ∧ b ≠ l := fun b hb => by have := hY b hb; omega
  have hy := run_yield (P := P) (args := encs x) hl3 (by rw [hrec]; exact hps x)
  rw [hrec] at hy
  refine ⟨fn, _, assign, body, hy, roundIn_of_wpIn trivial (wpIn_mono (hround pre x Y W hpre hi hk hYl hlt ⟨_, hl3⟩) ?_)⟩
  intro e a₁ w₁ h
  cases e with
  | normal =>
    obtain ⟨hk1, hb1⟩ := h
    have hl4 : w₁.heap[l]? = some (.loop (rec .ready none)) := hk1.heap hl3 (fun hx => hx)
    refine ⟨_, run_beginRound hl4 (by rw [hrec]), ?_⟩
    have hlt4 : l < w₁.heap.size := (Array.getElem?_eq_some_iff.1 hl4).1
    have hi1 : I pre Y w₁ := hI _ _ _ _ (hk1.weaken (fun _ _ h => h.elim)) hi
    have hi2 := hI _ _ _ _ (turn (Y := Y) w₁ (.loop { rec .ready none with state := .busy }) hY) hi1
    have hkw1 : Keep (fun b => X b ∨ Z b) w (w₁.putObj l (.loop { rec .ready none with state := .busy })) := (hk.trans (hk1.weaken fun _ _ h => h.elim)).putObj (.inr hl) _
    have hl5 : (w₁.putObj l (.loop { rec .ready none with state := .busy })).heap[l]? = some (.loop { rec .ready none with state := .busy }) := World.putObj_heap_same hlt4
    refine wpIn_mono (hb1 _ ((Keep.refl (fun b => b = l) w₁).putObj (.inl rfl) _) hkw1 hi2 ⟨_, hl5⟩) ?_
    have hX2 : Keep (fun b => (X b ∨ b = l) ∨ Y b) W (w₁.putObj l (.loop { rec .ready none with state := .busy })) := (hk1.weaken (fun _ _ h => h.elim)).putObj (.inl (.inl (.inr rfl))) _
    have hsz2 : W.heap.size ≤ (w₁.putObj l (.loop { rec .ready none with state := .busy })).heap.size := hX2.size
    have fin : ∀ (jump : Option Code) (W3 : World) (I' : List α → (Nat → Prop) → World → Prop), LowZ Z w.heap.size I' → Left X Y I' (pre ++ [x]) (w₁.putObj l (.loop { rec .ready none with state := .busy })) W3 →
     (Instr.endRound l jump).run P W3 = .ok (.bool jump.isNone) (W3.putObj l (.loop (rec (if jump.isNone then .ready else .done) jump))) ∧
     (W3.putObj l (.loop (rec (if jump.isNone then .ready else .done) jump))).heap[l]? = some (.loop (rec (if jump.isNone then .ready else .done) jump)) ∧
     ∃ Y', (∀ b, Y' b → W1.heap.size ≤ b) ∧ (∀ b, Y' b → Y b ∨ W.heap.size ≤ b) ∧ I' (pre ++ [x]) Y' (W3.putObj l (.loop (rec (if jump.isNone then .ready else .done) jump))) ∧
     Keep (fun b => X b ∨ Z b) w (W3.putObj l (.loop (rec (if jump.isNone then .ready else .done) jump))) ∧
     Keep (fun b => (X b ∨ b = l) ∨ Y b) W (W3.putObj l (.loop (rec (if jump.isNone then .ready else .done) jump))) := fun jump W3 I' hI' ⟨Y', hk3, hY', hi3⟩ => by
     have hl6 := hk3.heap hl5 (fun hx => by rcases hx with hx | hx; have := hX l hx; omega; have := hY l hx; omega)
     have hr := run_endRound (P := P) jump hl6
     have er : ({ ({ rec .ready none with state := .busy } : Loop) with state := if jump.isNone then .ready else .done, pending := jump } : Loop) = rec (if jump.isNone then .ready else .done) jump := by
      rw [hrec, hrec]
     rw [er] at hr
     have hY1 : ∀ b, Y' b → W1.heap.size ≤ b := fun b hb => by rcases hY' b hb with h | h; exact hY b h; omega
     refine ⟨hr, World.putObj_heap_same (Array.getElem?_eq_some_iff.1 hl6).1, Y', hY1, fun b hb => by rcases hY' b hb with h | h; exact .inl h; exact .inr (by omega), hI' _ _ _ _ (turn W3 _ hY1) hi3, ?_, ?_⟩
     ·refine Keep.putObj ?_ (.inr hl) _
      exact ⟨hk3.os.trans hkw1.os, hk3.tape.trans hkw1.tape, hk3.output.trans hkw1.output, Nat.le_trans hkw1.size hk3.size, fun b hb hx => (hk3.same b (Nat.lt_of_lt_of_le hb hkw1.size) (fun h => by rcases h with h | h; exact hx (.inl h); have := hY b h; omega)).trans (hkw1.same b hb hx)⟩
     ·exact (hX2.trans (hk3.weaken (fun _ _ h => by rcases h with h | h; exact .inl (.inl h); exact .inr h))).putObj (.inl (.inl (.inr rfl))) _
    rintro e a3 W3 hp
    cases e with
    | normal =>
      obtain ⟨hr, hl7, Y', q1, q2, q3, q4, q5⟩ := fin none W3 I hI hp
      exact ⟨_, _, hr, Y', q5, q2, .inl ⟨rfl, q1, q3, q4, hl7⟩⟩
    | ret =>
      obtain ⟨hr, hl7, Y', q1, q2, q3, q4, q5⟩ := fin (some .ret) W3 _ (hIx _) hp
      exact ⟨_, _, hr, Y', q5, q2, .inr ⟨rfl, q1, .ret, q3, q4, hl7⟩⟩
    | exit id =>
      obtain ⟨hr, hl7, Y', q1, q2, q3, q4, q5⟩ := fin (some (.exit id)) W3 _ (hIx _) hp
      exact ⟨_, _, hr, Y', q5, q2, .inr ⟨rfl, q1, .exit id, q3, q4, hl7⟩⟩
    | goto t =>
      obtain ⟨hr, hl7, Y', q1, q2, q3, q4, q5⟩ := fin (some (.goto t)) W3 _ (hIx _) hp
      exact ⟨_, _, hr, Y', q5, q2, .inr ⟨rfl, q1, .goto t, q3, q4, hl7⟩⟩
    | panic ch => exact hp.elim
    | outgrown => exact hp.elim
  | ret => exact h.elim
  | exit id => exact h.elim
  | goto t => exact h.elim
  | panic ch => exact h.elim
  | outgrown => exact h.elim
 ·rintro e W2 ⟨⟨v, rfl⟩, hk2, (⟨L, Y, hFin, _, hY, hi, hk, hl2⟩ | ⟨pre, Y, hpre, _, hY, c, hi, hk, hl2⟩)⟩
  ·have hr := run_endLoop (P := P) hl2 (by rw [hrec]; simp)
   have e1 : (rec .ready none).pending = none := by rw [hrec]
   rw [e1] at hr
   exact ⟨none, _, hr, hdone L Y _ hFin (hI _ _ _ _ (turn W2 _ hY) hi) hY (hk.putObj (.inr hl) _) (hk2.putObj (.inl (.inl (.inr rfl))) _)⟩
  ·have hr := run_endLoop (P := P) hl2 (by rw [hrec]; simp)
   have e1 : (rec .done (some c)).pending = some c := by rw [hrec]
   rw [e1] at hr
   exact ⟨some c, _, hr, hstop c pre Y _ hpre (hIx c _ _ _ _ (turn W2 _ hY) hi) hY (hk.putObj (.inr hl) _) (hk2.putObj (.inl (.inl (.inr rfl))) _)⟩
theorem loop_out5 {α : Type} {g : Operand} {ps : Array Tmp} {assign body : Code} {Q : Exit → Act → World → Prop} {a : Act} {w : World}
 {gf : Nat} {lb : Array Value} (hg : a.eval g = .func (.func gf) #[] lb) (eg : ∀ args w, (callFunc gf args).run P w = .ok (.enter gf args) w)
 {encs : α → Array Value} {Ok Fin : List α → Prop} {Z Nd X : Nat → Prop} {w0 : World} (hit : Iter5 P gf lb encs Ok Fin Z Nd w0) (hps : ∀ x, (encs x).size = ps.size)
 (hX : ∀ b, X b → b < w.heap.size) (hNd : ∀ b, (Z b ∨ Nd b) → ¬ X b ∧ b < w.heap.size) (hNdw : ∀ b, (Z b ∨ Nd b) → w.heap[b]? = w0.heap[b]?) (hw0 : w0.heap.size ≤ w.heap.size)
 (I : List α → (Nat → Prop) → World → Prop) (Ix : Code → List α → (Nat → Prop) → World → Prop) (hI : LowZ Z w.heap.size I) (hSI : Slim I) (hIx : ∀ c, LowZ Z w.heap.size (Ix c)) (h0 : I [] (fun _ => False) w)
 (hround : ∀ l, w.heap.size ≤ l → Round5 P ps assign body a.tmps encs Ok X Z I Ix w l)
 (hdone : ∀ D L Y W, Fin L → w.heap.size ≤ D → W.heap[D]? = some (.deferred (some [])) → I L Y W → (∀ b, Y b → w.heap.size ≤ b ∧ b ≠ D) → Keep (fun b => X b ∨ Z b) w W → Q .normal { a with defers := { target := .collected D, args := #[] } :: a.defers } W)
 (hstop : ∀ D c pre Y W, w.heap.size ≤ D → W.heap[D]? = some (.deferred (some [])) → Ok pre → Ix c pre Y W → (∀ b, Y b → w.heap.size ≤ b ∧ b ≠ D) → Keep (fun b => X b ∨ Z b) w W → c.wpIn Fence.wide 0 P Q { a with defers := { target := .collected D, args := #[] } :: a.defers } W) :
 (Code.rangeFunc g ps assign body).wpIn Fence.wide 0 P Q a w := by
 refine wpIn_rangeFunc ?_
 intro fn _
 obtain ⟨rec, hrec⟩ : ∃ rec : LoopState → Option Code → Loop, rec = fun st pe => { state := st, pending := pe, fn, tmps := a.tmps, params := ps, assign, body, defers := w.heap.size } := ⟨_, rfl⟩
 obtain ⟨W1, hW1⟩ : ∃ W1, (w.alloc (.deferred (some []))).alloc (.loop (rec .ready none)) = W1 := ⟨_, rfl⟩
 have hL1 : W1.heap[w.heap.size + 1]? = some (.loop (rec .ready none)) := by
  rw [← hW1]; have := World.alloc_heap_new (w.alloc (.deferred (some []))) (.loop (rec .ready none)); rwa [World.size_alloc] at this
 have hD1 : W1.heap[w.heap.size]? = some (.deferred (some [])) := by
  rw [← hW1]; exact (Below.heap_alloc _ _ _ (by simp)).trans (World.alloc_heap_new w _)
 have hbw : Below w.heap.size w W1 := by
  rw [← hW1]; exact ((Below.refl _ w).alloc (Nat.le_refl _) _).alloc (by simp) _
 have hltD : w.heap.size < W1.heap.size := (Array.getElem?_eq_some_iff.1 hD1).1
 have hD : ∀ W, Keep (fun b => (X b ∨ b = w.heap.size + 1) ∨ Z b) W1 W → W.heap[w.heap.size]? = some (.deferred (some [])) := fun W hk =>
  hk.heap hD1 (fun h => by rcases h with (h | h) | h; have := hX _ h; omega; omega; have := (hNd _ (.inl h)).2; omega)
 refine ⟨w.heap.size + 1, [{ target := .collected w.heap.size, args := #[] }], W1, { target := .fn (.func gf) lb, args := #[.func (.yield (w.heap.size + 1)) #[] #[]] }, W1, gf,
  #[.func (.yield (w.heap.size + 1)) #[] #[]] ++ lb, W1, ?_, ?_, ?_, ?_, (fun h => by cases h), ?_⟩
 ·rw [← hW1, hrec]; exact run_enterLoop_outer _ _ _ _ _
 ·simp only [resolve, hg]
  simp [go_sem]
 ·intro _ _; trivial
 ·simp [invoke, go_sem, eg]
 ·exact callsIn_wide.2 (loop_core5 hit hps (w.heap.size + 1) rec fn w.heap.size (by intro st pe; rw [hrec]) hX hNd hNdw hw0 (by omega) hL1 hbw I Ix hI hSI hIx h0
  (hround _ (by omega))
  (fun L Y W hF hi hY hk hk1 => hdone _ L Y W hF (Nat.le_refl _) (hD W hk1) hi (fun b hb => by have := hY b hb; omega) hk)
  (fun c pre Y W hp hi hY hk hk1 => hstop _ c pre Y W (Nat.le_refl _) (hD W hk1) hp hi (fun b hb => by have := hY b hb; omega) hk))
end Go.Kt
namespace Go.Kt
open Go Go.RowKit
variable {P : Program}
def Iter3 {α : Type} (P : Program) (gf : Nat) (lb : Array Value) (encs : α → Array Value) (L : List α) (Z Nd : Nat → Prop) (w0 : World) : Prop :=
 ∀ (l : Nat) (X : Nat → Prop) (J Jx : List α → (Nat → Prop) → World → Prop) (W : World),
  (∀ b, (Z b ∨ Nd b) → ¬ X b) → (∀ b, X b → b < W.heap.size) → (∀ b, (Z b ∨ Nd b) → W.heap[b]? = w0.heap[b]?) → w0.heap.size ≤ W.heap.size →
  LowZ Z W.heap.size J → LowZ Z W.heap.size Jx → Slim J →
  (∀ pre x Y W1, pre ++ [x] <+: L → J pre Y W1 → W.heap.size ≤ W1.heap.size → (∀ b, Y b → W.heap.size ≤ b) → YieldAt Fence.wide 0 P l (encs x) W1 fun e W' =>
   ∃ Y', Keep (fun b => X b ∨ Y b) W1 W' ∧ (∀ b, Y' b → Y b ∨ W1.heap.size ≤ b) ∧ ((e = .returned (.bool true) ∧ J (pre ++ [x]) Y' W') ∨ (e = .returned (.bool false) ∧ Jx (pre ++ [x]) Y' W'))) →
  J [] (fun _ => False) W →
  Calls P gf (#[.func (.yield l) #[] #[]] ++ lb) W fun e W' => (∃ v, e = .returned v) ∧ Keep (fun b => X b ∨ Z b) W W' ∧ ((∃ Y, (∀ b, Y b → W.heap.size ≤ b) ∧ J L Y W') ∨ ∃ pre Y, pre <+: L ∧ (∀ b, Y b → W.heap.size ≤ b) ∧ Jx pre Y W')
def Round3 {α : Type} (P : Program) (ps : Array Tmp) (assign body : Code) (tmps : Array Value) (encs : α → Array Value) (L : List α) (X Z : Nat → Prop) (I : List α → (Nat → Prop) → World → Prop) (Ix : Code → List α → (Nat → Prop) → World → Prop) (w : World) (l : Nat) : Prop :=
 ∀ (pre : List α) (x : α) (Y : Nat → Prop) (W : World), pre ++ [x] <+: L → I pre Y W → Keep (fun b => X b ∨ Z b) w W → (∀ b, Y b → w.heap.size ≤ b ∧ b ≠ l) → l < W.heap.size → (∃ r, W.heap[l]? = some (.loop r)) →
  assign.wpIn (Fence.wide.inRound l) 0 P (Exit.then (fun a₁ w₁ => Keep (fun _ => False) W w₁ ∧
   (∀ W2, Keep (fun b => b = l) w₁ W2 → Keep (fun b => X b ∨ Z b) w W2 → I pre Y W2 → (∃ r, W2.heap[l]? = some (.loop r)) → body.wpIn (Fence.wide.inRound l) 0 P (roundEnd X Y I Ix (pre ++ [x]) W2) a₁ W2)) (fun _ _ _ => False))
   { tmps := (ps.zip (encs x)).foldl (fun t (p, v) => t.setIfInBounds p v) tmps, defers := [] } W
theorem Iter3.five {α : Type} {gf : Nat} {lb : Array Value} {encs : α → Array Value} {L : List α} {Z Nd : Nat → Prop} {w0 : World} (h : Iter3 P gf lb encs L Z Nd w0) : Iter5 P gf lb encs (fun l => l <+: L) (fun l => l = L) Z Nd w0 := by
 intro l X J Jx W a b c d e f g hy j
 refine (h l X J Jx W a b c d e f g hy j).mono ?_
 rintro e W' ⟨h1, h2, ⟨Y, h3, h4⟩ | h3⟩
 ·exact ⟨h1, h2, .inl ⟨L, Y, rfl, h3, h4⟩⟩
 ·exact ⟨h1, h2, .inr h3⟩
theorem loop_out3 {α : Type} {g : Operand} {ps : Array Tmp} {assign body : Code} {Q : Exit → Act → World → Prop} {a : Act} {w : World}
 {gf : Nat} {lb : Array Value} (hg : a.eval g = .func (.func gf) #[] lb) (eg : ∀ args w, (callFunc gf args).run P w = .ok (.enter gf args) w)
 {encs : α → Array Value} {L : List α} {Z Nd X : Nat → Prop} {w0 : World} (hit : Iter3 P gf lb encs L Z Nd w0) (hps : ∀ x, (encs x).size = ps.size)
 (hX : ∀ b, X b → b < w.heap.size) (hNd : ∀ b, (Z b ∨ Nd b) → ¬ X b ∧ b < w.heap.size) (hNdw : ∀ b, (Z b ∨ Nd b) → w.heap[b]? = w0.heap[b]?) (hw0 : w0.heap.size ≤ w.heap.size)
 (I : List α → (Nat → Prop) → World → Prop) (Ix : Code → List α → (Nat → Prop) → World → Prop) (hI : LowZ Z w.heap.size I) (hSI : Slim I) (hIx : ∀ c, LowZ Z w.heap.size (Ix c)) (h0 : I [] (fun _ => False) w)
 (hround : ∀ l, w.heap.size ≤ l → Round3 P ps assign body a.tmps encs L X Z I Ix w l)
 (hdone : ∀ D Y W, w.heap.size ≤ D → W.heap[D]? = some (.deferred (some [])) → I L Y W → (∀ b, Y b → w.heap.size ≤ b ∧ b ≠ D) → Keep (fun b => X b ∨ Z b) w W → Q .normal { a with defers := { target := .collected D, args := #[] } :: a.defers } W)
 (hstop : ∀ D c pre Y W, w.heap.size ≤ D → W.heap[D]? = some (.deferred (some [])) → pre <+: L → Ix c pre Y W → (∀ b, Y b → w.heap.size ≤ b ∧ b ≠ D) → Keep (fun b => X b ∨ Z b) w W → c.wpIn Fence.wide 0 P Q { a with defers := { target := .collected D, args := #[] } :: a.defers } W) :
 (Code.rangeFunc g ps assign body).wpIn Fence.wide 0 P Q a w := by
 exact loop_out5 hg eg hit.five hps hX hNd hNdw hw0 I Ix hI hSI hIx h0 hround (fun D L' Y W h1 h2 h3 h4 h5 h6 => by subst h1; exact hdone D Y W h2 h3 h4 h5 h6) hstop
end Go.Kt
namespace Go.Kt
open Go Go.RowKit
variable {P : Program}
def Iter2 {α : Type} (P : Program) (gf : Nat) (lb : Array Value) (encs : α → Array Value) (L : List α) (Nd : Nat → Prop) (w0 : World) : Prop :=
 ∀ (l : Nat) (X : Nat → Prop) (J Jx : List α → (Nat → Prop) → World → Prop) (W : World),
  (∀ b, Nd b → ¬ X b) → (∀ b, X b → b < W.heap.size) → (∀ b, Nd b → W.heap[b]? = w0.heap[b]?) → w0.heap.size ≤ W.heap.size →
  Low W.heap.size J → Low W.heap.size Jx → Slim J →
  (∀ pre x Y W1, pre ++ [x] <+: L → J pre Y W1 → W.heap.size ≤ W1.heap.size → (∀ b, Y b → W.heap.size ≤ b) → YieldAt Fence.wide 0 P l (encs x) W1 fun e W' =>
   ∃ Y', Keep (fun b => X b ∨ Y b) W1 W' ∧ (∀ b, Y' b → Y b ∨ W1.heap.size ≤ b) ∧ ((e = .returned (.bool true) ∧ J (pre ++ [x]) Y' W') ∨ (e = .returned (.bool false) ∧ Jx (pre ++ [x]) Y' W'))) →
  J [] (fun _ => False) W →
  Calls P gf (#[.func (.yield l) #[] #[]] ++ lb) W fun e W' => (∃ v, e = .returned v) ∧ Keep X W W' ∧ ((∃ Y, (∀ b, Y b → W.heap.size ≤ b) ∧ J L Y W') ∨ ∃ pre Y, pre <+: L ∧ (∀ b, Y b → W.heap.size ≤ b) ∧ Jx pre Y W')
theorem Iter2.three {α : Type} {gf : Nat} {lb : Array Value} {encs : α → Array Value} {L : List α} {Nd : Nat → Prop} {w0 : World} (h : Iter2 P gf lb encs L Nd w0) : Iter3 P gf lb encs L (fun _ => False) Nd w0 := by
 intro l X J Jx W a b c d e f g hy j
 have lo : ∀ {K : List α → (Nat → Prop) → World → Prop}, LowZ (fun _ => False) W.heap.size K → Low W.heap.size K := fun h s Y A B hk => h s Y A B (hk.weaken fun b _ hb => ⟨.inr hb.1, hb.2⟩)
 refine (h l X J Jx W (fun b hb => a b (.inr hb)) b (fun b hb => c b (.inr hb)) d (lo e) (lo f) g hy j).mono ?_
 rintro e W' ⟨h1, h2, h3⟩
 exact ⟨h1, h2.weaken fun _ _ h => .inl h, h3⟩
theorem loop_out2 {α : Type} {g : Operand} {ps : Array Tmp} {assign body : Code} {Q : Exit → Act → World → Prop} {a : Act} {w : World}
 {gf : Nat} {lb : Array Value} (hg : a.eval g = .func (.func gf) #[] lb) (eg : ∀ args w, (callFunc gf args).run P w = .ok (.enter gf args) w)
 {encs : α → Array Value} {L : List α} {Nd X : Nat → Prop} {w0 : World} (hit : Iter2 P gf lb encs L Nd w0) (hps : ∀ x, (encs x).size = ps.size)
 (hX : ∀ b, X b → b < w.heap.size) (hNd : ∀ b, Nd b → ¬ X b ∧ b < w.heap.size) (hNdw : ∀ b, Nd b → w.heap[b]? = w0.heap[b]?) (hw0 : w0.heap.size ≤ w.heap.size)
 (I : List α → (Nat → Prop) → World → Prop) (Ix : Code → List α → (Nat → Prop) → World → Prop) (hI : Low w.heap.size I) (hSI : Slim I) (hIx : ∀ c, Low w.heap.size (Ix c)) (h0 : I [] (fun _ => False) w)
 (hround : ∀ l, w.heap.size ≤ l → Round P ps assign body a.tmps encs L X I Ix w l)
 (hdone : ∀ D Y W, w.heap.size ≤ D → W.heap[D]? = some (.deferred (some [])) → I L Y W → (∀ b, Y b → w.heap.size ≤ b ∧ b ≠ D) → Keep X w W → Q .normal { a with defers := { target := .collected D, args := #[] } :: a.defers } W)
 (hstop : ∀ D c pre Y W, w.heap.size ≤ D → W.heap[D]? = some (.deferred (some [])) → pre <+: L → Ix c pre Y W → (∀ b, Y b → w.heap.size ≤ b ∧ b ≠ D) → Keep X w W → c.wpIn Fence.wide 0 P Q { a with defers := { target := .collected D, args := #[] } :: a.defers } W) :
 (Code.rangeFunc g ps assign body).wpIn Fence.wide 0 P Q a w := by
 have lo : ∀ {K : List α → (Nat → Prop) → World → Prop}, Low w.heap.size K → LowZ (fun _ => False) w.heap.size K := fun h s Y A B hk => h s Y A B (hk.weaken fun b _ hb => ⟨hb.1.elim False.elim id, hb.2⟩)
 have kp : ∀ {A B : World}, Keep (fun b => X b ∨ False) A B → Keep X A B := fun h => h.weaken fun b _ h => h.elim id False.elim
 refine loop_out3 hg eg hit.three hps hX (fun b hb => hNd b (hb.elim False.elim id)) (fun b hb => hNdw b (hb.elim False.elim id)) hw0 I Ix (lo hI) hSI (fun c => lo (hIx c)) h0 (fun l hl => ?_)
  (fun D Y W h1 h2 h3 h4 h5 => hdone D Y W h1 h2 h3 h4 (kp h5)) (fun D c pre Y W h1 h2 h3 h4 h5 h6 => hstop D c pre Y W h1 h2 h3 h4 h5 (kp h6))
 intro pre x Y W h1 h2 h3 h4 h5 h6
 refine wpIn_mono (hround l hl pre x Y W h1 h2 (kp h3) h4 h5 h6) ?_
 intro e a1 w1 h
 cases e with
 | normal => exact ⟨h.1, fun W2 b1 b2 b3 b4 => h.2 W2 b1 (kp b2) b3 b4⟩
 | ret => exact h
 | exit id => exact h
 | goto t => exact h
 | panic ch => exact h
 | outgrown => exact h
end Go.Kt
namespace Go.Proofs.YthhepebkfokddaaGreatDoor
open Go Go.RowKit Go.Kt Go.Kt.Os Go.Sort
theorem oNaN2 (x : Int) (w : World) : Calls Tryz.prog 119 #[.int .i32 x] w fun e w' => e = .returned (.bool false) ∧ w' = w := by
 go_enter Tryz.func119, Tryz.ntmps119
 go_wp2
 go_ret
 exact ⟨by simp, rfl⟩
set_option maxRecDepth 100000 in
set_option maxHeartbeats 2000000 in
theorem oSearch (blk off cap n : Nat) (G : Nat → Int) (x : Int) (w : World) (hc : ∀ t, t < n → w.cell? ⟨blk, off + t, none⟩ = some (.int .i32 (G t))) (hs : ∀ i j, i ≤ j → j < n → G i ≤ G j) (hsz : n < 4611686018427387904) :
 Calls Tryz.prog 89 #[.slice (some ⟨blk, off, none⟩) n cap, .int .i32 x] w fun e w' =>
  ∃ (p : Nat) (f : Value), e = .returned (.tuple #[.int .i64 p, f]) ∧ p ≤ n ∧ (∀ t, t < p → G t < x) ∧ (∀ t, p ≤ t → t < n → x ≤ G t) ∧ Below w.heap.size w w' := by
 have HS := Lib.hid hs
 clear hs
 go_enter Tryz.func89, Tryz.ntmps89
 go_wp2
 go_loopw [7, 8] (fun vi vj wr => ∃ (i j q : Nat), vi = .int .i64 i ∧ vj = .int .i64 j ∧ i ≤ j ∧ j ≤ n ∧ Hid ((∀ t, t < i → G t < x) ∧ (∀ t, j ≤ t → t < n → x ≤ G t)) ∧ wr = w.drewN q) (fun vi vj _ => (RowKit.intOf vj).toNat - (RowKit.intOf vi).toNat)
 case atStart => exact ⟨0, n, 0, rfl, rfl, by omega, Nat.le_refl _, Lib.hid ⟨fun t h => absurd h (by omega), fun t h1 h2 => absurd h2 (by omega)⟩, rfl⟩
 case round =>
  obtain ⟨i, j, q, rfl, rfl, hij, hjn, hh, hw⟩ := hrel
  have hcw : ∀ t, t < n → wr.cell? ⟨blk, off + t, none⟩ = some (.int .i32 (G t)) := fun t ht => by rw [hw]; exact hc t ht
  have HW := Lib.hid hw
  clear hw
  by_cases hlt : i < j
  ·have hltz : (i : Int) < (j : Int) := by omega
   obtain ⟨h, hh2⟩ : ∃ h, h = (i + j) / 2 := ⟨_, rfl⟩
   have hhz : ((i : Int) + (j : Int)) / 2 = (h : Int) := by omega
   have hm1 : i ≤ h := by omega
   have hm2 : h < j := by omega
   have HZ := Lib.hid hhz
   have HH := Lib.hid hh2
   clear hh2 hhz
   go_wp2_with fail
   rw [HZ.out, ← HH.out]
   refine (oLess _ _ _).mono ?_
   rintro e w2 ⟨rfl, rfl⟩
   cases hl : ltInt (G h) x
   ·go_wp2
    go_roundw
    case rel => exact ⟨i, h, q, rfl, rfl, hm1, by omega, Lib.hid ⟨hh.out.1, fun t h1 h2 => by
     have e1 := HS.out h t h1 h2
     have e2 : x ≤ G h := by simpa [ltInt] using hl
     omega⟩, HW.out⟩
    case measure => simp [RowKit.intOf]; omega
   ·go_wp2
    go_roundw
    case rel => exact ⟨h + 1, j, q, by go_num, rfl, by omega, hjn, Lib.hid ⟨fun t h1 => by
     have e1 := HS.out t h (by omega) (by omega)
     have e2 : G h < x := by simpa [ltInt] using hl
     omega, hh.out.2⟩, HW.out⟩
    case measure => simp [RowKit.intOf]; omega
  ·have e : i = j := by omega
   subst e
   have hltz : ¬ (i : Int) < (i : Int) := by omega
   by_cases hin : i < n
   ·have hinz : (i : Int) < (n : Int) := by omega
    cases hq : (G i == x)
    ·go_wp2_with (go_at_call 119; refine (oNaN2 _ _).mono ?_; rintro e w2 ⟨rfl, rfl⟩)
     go_ret2
     first | exact ⟨i, ⟨_, rfl⟩, hjn, hh.out.1, hh.out.2, by rw [HW.out]; exact below_drewN (Below.refl _ _) _⟩ | exact ⟨i, rfl, hjn, hh.out.1, hh.out.2, by rw [HW.out]; exact below_drewN (Below.refl _ _) _⟩ | exact ⟨i, _, rfl, hjn, hh.out.1, hh.out.2, by rw [HW.out]; exact below_drewN (Below.refl _ _) _⟩
    ·go_wp2_with (go_at_call 119; refine (oNaN2 _ _).mono ?_; rintro e w2 ⟨rfl, rfl⟩)
     go_ret2
     first | exact ⟨i, ⟨_, rfl⟩, hjn, hh.out.1, hh.out.2, by rw [HW.out]; exact below_drewN (Below.refl _ _) _⟩ | exact ⟨i, rfl, hjn, hh.out.1, hh.out.2, by rw [HW.out]; exact below_drewN (Below.refl _ _) _⟩ | exact ⟨i, _, rfl, hjn, hh.out.1, hh.out.2, by rw [HW.out]; exact below_drewN (Below.refl _ _) _⟩
   ·have hinz : (n : Int) ≤ (i : Int) := by omega
    go_wp2
    go_ret2
    first | exact ⟨i, ⟨_, rfl⟩, hjn, hh.out.1, hh.out.2, by rw [HW.out]; exact below_drewN (Below.refl _ _) _⟩ | exact ⟨i, rfl, hjn, hh.out.1, hh.out.2, by rw [HW.out]; exact below_drewN (Below.refl _ _) _⟩ | exact ⟨i, _, rfl, hjn, hh.out.1, hh.out.2, by rw [HW.out]; exact below_drewN (Below.refl _ _) _⟩
end Go.Proofs.YthhepebkfokddaaGreatDoor
namespace Go.Proofs.YthhepebkfokddaaGreatDoor
open Go Go.RowKit Go.Kt Go.Kt.Os Go.Sort
structure Cpt (n : Nat) (G : Nat → Int) (i p : Nat) (H : Nat → Int) : Prop where
 i1 : 1 ≤ i
 ip : i + 1 ≤ p
 pn : p ≤ n
 rise : ∀ j k, j < k → k < i → H j < H k
 last : H (i - 1) = G (p - 1)
 same : ∀ t, p ≤ t + 1 → t < n → H t = G t
 mem : ∀ x, (∃ t, t < i ∧ H t = x) ↔ ∃ t, t < p ∧ G t = x
theorem Cpt.start {n : Nat} {G : Nat → Int} {i : Nat} (h1 : 1 ≤ i) (hn : i < n) (hr : ∀ j k, j < k → k < i → G j < G k) (he : G i = G (i - 1)) : Cpt n G i (i + 1) G where
 i1 := h1
 ip := Nat.le_refl _
 pn := hn
 rise := hr
 last := he.symm
 same := fun _ _ _ => rfl
 mem := fun x => ⟨fun ⟨t, ht, e⟩ => ⟨t, by omega, e⟩, fun ⟨t, ht, e⟩ => by
  rcases Nat.lt_or_ge t i with h | h
  ·exact ⟨t, h, e⟩
  ·exact ⟨i - 1, by omega, by rw [← he, ← e]; congr 1; omega⟩⟩
theorem Cpt.skip {n : Nat} {G H : Nat → Int} {i p : Nat} (h : Cpt n G i p H) (hp : p < n) (he : G p = G (p - 1)) : Cpt n G i (p + 1) H where
 i1 := h.i1
 ip := by have := h.ip; omega
 pn := hp
 rise := h.rise
 last := h.last.trans he.symm
 same := fun t h1 h2 => h.same t (by omega) h2
 mem := fun x => (h.mem x).trans ⟨fun ⟨t, ht, e⟩ => ⟨t, by omega, e⟩, fun ⟨t, ht, e⟩ => by
  have := h.ip
  rcases Nat.lt_or_ge t p with k | k
  ·exact ⟨t, k, e⟩
  ·exact ⟨p - 1, by omega, by rw [← he, ← e]; congr 1; omega⟩⟩
theorem Cpt.take {n : Nat} {G H : Nat → Int} {i p : Nat} (h : Cpt n G i p H) (hs : ∀ i j, i ≤ j → j < n → G i ≤ G j) (hp : p < n) (hne : G p ≠ G (p - 1)) : Cpt n G (i + 1) (p + 1) (fun t => if t = i then G p else H t) where
 i1 := by omega
 ip := by have := h.ip; omega
 pn := hp
 rise := fun j k hjk hk => by
  have hlt : ∀ j, j < i → H j < G p := fun j hj => by
   have e1 : H j ≤ H (i - 1) := by
    rcases Nat.lt_or_ge j (i - 1) with k | k
    ·exact Int.le_of_lt (h.rise j (i - 1) k (by have := h.i1; omega))
    ·have : j = i - 1 := by omega
     subst this; exact Int.le_refl _
   have e2 := hs (p - 1) p (by omega) hp
   have e3 := h.last
   omega
  have hj : j ≠ i := by omega
  simp only [if_neg hj]
  by_cases hki : k = i
  ·simp only [if_pos hki]
   exact hlt j (by omega)
  ·simp only [if_neg hki]
   exact h.rise j k hjk (by omega)
 last := by simp
 same := fun t h1 h2 => by
  have := h.ip
  simp only [if_neg (show t ≠ i by omega)]
  exact h.same t (by omega) h2
 mem := fun x => by
  constructor
  ·rintro ⟨t, ht, e⟩
   by_cases hti : t = i
   ·simp only [if_pos hti] at e
    exact ⟨p, by omega, e⟩
   ·simp only [if_neg hti] at e
    obtain ⟨u, hu, e2⟩ := (h.mem x).1 ⟨t, by omega, e⟩
    exact ⟨u, by omega, e2⟩
  ·rintro ⟨t, ht, e⟩
   rcases Nat.lt_or_ge t p with k | k
   ·obtain ⟨u, hu, e2⟩ := (h.mem x).2 ⟨t, k, e⟩
    exact ⟨u, by omega, by simp only [if_neg (show u ≠ i by omega)]; exact e2⟩
   ·exact ⟨i, by omega, by simp only [if_true]; rw [← e]; congr 1; omega⟩
def RW (blk off n : Nat) (G : Nat → Int) (W : World) : Prop := ∀ t, t < n → W.cell? ⟨blk, off + t, none⟩ = some (.int .i32 (G t)) ∧ W.frozen? ⟨blk, off + t, none⟩ = false
theorem RW.set {blk off n : Nat} {G : Nat → Int} {W : World} (h : RW blk off n G W) {i : Nat} (hi : i < n) (x : Int) : RW blk off n (fun t => if t = i then x else G t) (W.setCell ⟨blk, off + i, none⟩ (.int .i32 x)) := fun t ht => by
 refine ⟨?_, (World.frozen?_setCell _ _ _ _).trans (h t ht).2⟩
 by_cases e : t = i
 ·subst e
  simp only [if_true]
  exact World.cell?_setCell_same _ _ _ (h t ht).1
 ·simp only [if_neg e]
  exact (World.cell?_setCell_other _ _ _ _ (fun k => by injection k with _ k; omega)).trans (h t ht).1
theorem keep_drewN {X : Nat → Prop} {A B : World} (h : Keep X A B) (q : Nat) : Keep X A (B.drewN q) := h.trans ⟨rfl, rfl, rfl, Nat.le_refl _, fun _ _ _ => rfl⟩
theorem keep_setCells {X : Nat → Prop} {A : World} (b : Nat) (hb : X b) : ∀ (vs : List Value) (o : Nat) (B : World), Keep X A B → Keep X A (B.setCells b o vs)
 | [], _, _, h => h
 | v :: r, o, _, h => keep_setCells b hb r (o + 1) _ (h.setCell (p := ⟨b, o, none⟩) hb v)
def CptOut (blk off cap n : Nat) (G : Nat → Int) (w : World) (e : Ending) (w' : World) : Prop :=
 ∃ (m : Nat) (H : Nat → Int), e = .returned (.slice (some ⟨blk, off, none⟩) m cap) ∧ 1 ≤ m ∧ m ≤ n ∧ (∀ j k, j < k → k < m → H j < H k) ∧ (∀ x, (∃ t, t < m ∧ H t = x) ↔ ∃ t, t < n ∧ G t = x) ∧ (∀ t, t < m → w'.cell? ⟨blk, off + t, none⟩ = some (.int .i32 (H t))) ∧ Keep (fun b => b = blk) w w'
set_option maxRecDepth 100000 in
set_option maxHeartbeats 2000000 in
theorem oCompact (blk off cap n : Nat) (G : Nat → Int) (w : World) (hR : RW blk off n G w) (hs : ∀ i j, i ≤ j → j < n → G i ≤ G j) (hn : 1 ≤ n) (hcap : n ≤ cap) (hsz : cap < 9223372036854775808) :
 Calls Tryz.prog 116 #[.slice (some ⟨blk, off, none⟩) n cap] w fun e w' => CptOut blk off cap n G w e w' := by
 have HR := Lib.hid hR
 have HS := Lib.hid hs
 clear hR hs
 by_cases h2 : n < 2
 ·have h2z : (n : Int) < 2 := by omega
  go_enter Tryz.func116, Tryz.ntmps116
  go_wp2
  go_ret
  exact (show CptOut _ _ _ _ _ _ _ _ from ⟨n, G, rfl, hn, Nat.le_refl _, fun j k h1 h3 => absurd h3 (by omega), fun x => Iff.rfl, fun t ht => (HR.out t ht).1, Keep.refl _ _⟩)
 ·have h2z : (2 : Int) ≤ (n : Int) := by omega
  go_enter Tryz.func116, Tryz.ntmps116
  go_wp2
  go_loopw [3] (fun vi wr => ∃ (i q : Nat), vi = .int .i64 i ∧ 1 ≤ i ∧ i ≤ n ∧ Hid ((∀ j k, j < k → k < i → G j < G k)) ∧ wr = w.drewN q) (fun vi _ => n - (RowKit.intOf vi).toNat)
  case atStart => exact ⟨1, 0, rfl, Nat.le_refl _, hn, Lib.hid (fun j k h1 h3 => absurd h3 (by omega)), rfl⟩
  case round =>
   obtain ⟨i, q, rfl, hi1, hin, hh, hw⟩ := hrel
   have hcw : ∀ t, t < n → wr.cell? ⟨blk, off + t, none⟩ = some (.int .i32 (G t)) := fun t ht => by rw [hw]; exact (HR.out t ht).1
   have HW := Lib.hid hw
   clear hw
   by_cases hlt : i < n
   ·have hltz : (i : Int) < (n : Int) := by omega
    by_cases he : G i = G (i - 1)
    ·have heb : (G i == G (i - 1)) = true := beq_iff_eq.2 he
     have HC := Lib.hid (Cpt.start hi1 hlt hh.out he)
     have HRW : Hid (RW blk off n G wr) := Lib.hid (fun t ht => by rw [HW.out]; exact HR.out t ht)
     have HK : Hid (Keep (fun b => b = blk) w wr) := Lib.hid (by rw [HW.out]; exact ⟨rfl, rfl, rfl, Nat.le_refl _, fun _ _ _ => rfl⟩)
     clear HW he
     go_wp2_with fail
     go_big_quiet (fail)
     replace HRW : Hid (RW blk off n G (wr.drewN nq)) := HRW
     replace HK : Hid (Keep (fun b => b = blk) w (wr.drewN nq)) := Lib.hid (HK.out.trans ⟨rfl, rfl, rfl, Nat.le_refl _, fun _ _ _ => rfl⟩)
     clear hcw heb
     generalize wr.drewN nq = w1 at HRW HK ⊢
     clear nq
     have hiz : ¬ (n : Int) < (i : Int) := by omega
     go_wp2_with fail
     go_loopw [3, 5] (fun vi vp wr => ∃ (k s : Nat) (H : Nat → Int), vi = .int .i64 k ∧ vp = .int .i64 s ∧ k ≤ n ∧ 1 ≤ s ∧ s + i ≤ n ∧ k + 1 ≤ i + s ∧ Hid (Cpt n G k (i + s) H ∧ RW blk off n H wr ∧ Keep (fun b => b = blk) w wr)) (fun _ vp _ => n - (RowKit.intOf vp).toNat)
     case atStart => exact ⟨i, 1, G, rfl, rfl, by omega, by omega, by omega, by omega, Lib.hid ⟨HC.out, HRW.out, HK.out⟩⟩
     case round =>
      clear HC HRW HK
      obtain ⟨k, s, H, rfl, rfl, hk, hs1, hs2, hk2, hg⟩ := hrel
      by_cases hsn : s < n - i
      ·have hsnz : (s : Int) < ((n - i : Nat) : Int) := by omega
       have hcw : ∀ t, t < n - i → wr.cell? ⟨blk, off + i + t, none⟩ = some (.int .i32 (H (i + t))) := fun t ht => by
        have := (hg.out.2.1 (i + t) (by omega)).1
        rwa [show off + (i + t) = off + i + t by omega] at this
       have hc0 := (hg.out.2.1 k (by omega)).1
       have hf0 := (hg.out.2.1 k (by omega)).2
       have eP : H (i + s) = G (i + s) := hg.out.1.same _ (by omega) (by omega)
       have eQ : H (i + (s - 1)) = G (i + s - 1) := (hg.out.1.same _ (by omega) (by omega)).trans (by congr 1; omega)
       by_cases hne : H (i + s) = H (i + (s - 1))
       ·have hneb : (H (i + s) != H (i + (s - 1))) = false := by simp [hne]
        have HC2 := Lib.hid (hg.out.1.skip (by omega) (by rw [← eP, ← eQ]; exact hne))
        clear eP eQ hne
        go_wp2_with fail
        go_big_quiet (fail)
        go_wp2
        go_roundw
        case rel => exact ⟨k, s + 1, H, rfl, by go_num, by omega, by omega, by omega, by omega, Lib.hid ⟨HC2.out, hg.out.2.1, hg.out.2.2.trans ⟨rfl, rfl, rfl, Nat.le_refl _, fun _ _ _ => rfl⟩⟩⟩
        case measure => simp [RowKit.intOf]; omega
       ·have hneb : (H (i + s) != H (i + (s - 1))) = true := by simp [hne]
        have HC2 := Lib.hid (hg.out.1.take HS.out (by omega) (by rw [← eP, ← eQ]; exact hne))
        have HR2 := Lib.hid (RW.set (W := wr) hg.out.2.1 (i := k) (by omega) (G (i + s)))
        have EP := Lib.hid eP
        clear eP eQ hne
        go_wp2_with fail
        go_big_quiet (fail)
        go_wp2_with fail
        replace HR2 : Hid (RW blk off n (fun t => if t = k then G (i + s) else H t) ((wr.drewN nq).setCell ⟨blk, off + k, none⟩ (.int .i32 (H (i + s))))) := Lib.hid (by rw [EP.out]; exact HR2.out)
        have HK2 : Hid (Keep (fun b => b = blk) w ((wr.drewN nq).setCell ⟨blk, off + k, none⟩ (.int .i32 (H (i + s))))) := Lib.hid (Keep.setCell (X := fun b => b = blk) (keep_drewN hg.out.2.2 nq) (p := ⟨blk, off + k, none⟩) rfl _)
        go_wp2
        go_roundw
        case rel => exact ⟨k + 1, s + 1, _, by go_num, by go_num, by omega, by omega, by omega, by omega, Lib.hid ⟨HC2.out, HR2.out, HK2.out⟩⟩
        case measure => simp [RowKit.intOf]; omega
      ·have hsnz : ((n - i : Nat) : Int) ≤ (s : Int) := by omega
       have es : i + s = n := by omega
       have hkn : k < n := by omega
       have hcl : ∀ ty, (Builtin.clear_ #[62] ty #[.slice (some ⟨blk, off + k, none⟩) (n - k) (cap - k)]).run Tryz.prog wr = .ok (.tuple #[]) (wr.setCells blk (off + k) (List.replicate (n - k) (.int .i32 0))) :=
        fun ty => Lib.run_clear_slice wr _ _ ty _ Tryz.underlying62 Tryz.zeroValue21 rfl rfl blk (off + k) _ _ (by omega) (fun j hj => by rw [show off + k + j = off + (k + j) by omega, (hg.out.2.1 (k + j) (by omega)).1]; rfl) (fun j hj => by rw [show off + k + j = off + (k + j) by omega]; exact (hg.out.2.1 (k + j) (by omega)).2)
       have hkz : ¬ (n : Int) < (k : Int) := by omega
       have hkc : ¬ (cap : Int) < (k : Int) := by omega
       have ES := Lib.hid es
       clear es
       go_wp2
       go_ret
       refine (show CptOut _ _ _ _ _ _ _ _ from ⟨k, H, rfl, hg.out.1.i1, by omega, hg.out.1.rise, by rw [← ES.out]; exact hg.out.1.mem, fun t ht => ?_, keep_setCells (X := fun b => b = blk) blk rfl _ _ _ hg.out.2.2⟩)
       rw [World.cell?_setCells_out blk _ _ _ _ (fun _ _ => Or.inl (by show off + t < off + k; omega))]
       exact (hg.out.2.1 t (by omega)).1
    ·have heb : (G i == G (i - 1)) = false := beq_eq_false_iff_ne.2 he
     go_wp2_with fail
     go_big_quiet (fail)
     go_wp2
     go_roundw
     case rel => exact ⟨i + 1, q + nq, by go_num, by omega, by omega, Lib.hid (fun j k h1 h3 => by
      rcases Nat.lt_or_ge k i with e | e
      ·exact hh.out j k h1 e
      ·have ek : k = i := by omega
       subst ek
       have e1 := HS.out (k - 1) k (by omega) hlt
       have e2 := HS.out j (k - 1) (by omega) (by omega)
       omega), by rw [HW.out, World.drewN_drewN]⟩
     case measure => simp [RowKit.intOf]; omega
   ·have hltz : ¬ (i : Int) < (n : Int) := by omega
    have e : i = n := by omega
    subst e
    go_wp2
    go_ret
    exact (show CptOut _ _ _ _ _ _ _ _ from ⟨i, G, rfl, hn, Nat.le_refl _, hh.out, fun x => Iff.rfl, hcw, by rw [HW.out]; exact ⟨rfl, rfl, rfl, Nat.le_refl _, fun _ _ _ => rfl⟩⟩)
end Go.Proofs.YthhepebkfokddaaGreatDoor
namespace Go.Kt
open Go Go.RowKit
theorem own_from_base {B : Nat} {e : TypeId} {size n : Nat} {v : Value} {xs : List Value} {W : World} (h : W.ownsRow B e size v n xs) : OwnS (fun b => B ≤ b) e size v n xs W := by
 refine ⟨⟨h.1, ?_⟩, fun g hg => ?_⟩
 ·rcases h.2 with h1 | ⟨g, cap, cur, rfl, _, rest⟩
  ·exact .inl h1
  ·exact .inr ⟨g, cap, cur, rfl, Nat.zero_le _, rest⟩
 ·rcases h.2 with ⟨rfl, _⟩ | ⟨g', cap, cur, rfl, hb, _⟩
  ·cases hg
  ·cases hg; exact hb
theorem own_to_base {Y : Nat → Prop} {e : TypeId} {size n base : Nat} {v : Value} {xs : List Value} {W : World} (h : OwnS Y e size v n xs W) (hY : ∀ b, Y b → base ≤ b) : W.ownsRow base e size v n xs := by
 obtain ⟨⟨hl, h2⟩, hY'⟩ := h
 refine ⟨hl, ?_⟩
 rcases h2 with h2 | ⟨g, cap, cur, rfl, hb, hg, rest⟩
 ·exact .inl h2
 ·exact .inr ⟨g, cap, cur, rfl, hY g (hY' g rfl), hg, rest⟩
theorem append_no_more {w : World} {base : Nat} {P : Program} (t ty e : TypeId) (i : TypeInfo) (size : Nat) (ht : P.underlying t = some (.slice e)) (hi : P.info? e = some i)
 (v : Value) (n : Nat) (xs : List Value) (hown : w.ownsRow base e size v n xs) (c : Nat) :
 (Builtin.append_ #[t, t] ty #[v, .slice none 0 c]).run P w = .ok v w := by
 rcases hown.2 with ⟨rfl, rfl⟩ | ⟨g, cap, cur, rfl, _, _, hnc, _⟩
 ·simp [Builtin.append_, run_underlying ht, sizeOf, typeInfo, hi, Builtin.lenOf, Builtin.firstCells]
 ·simp [Builtin.append_, run_underlying ht, sizeOf, typeInfo, hi, Builtin.lenOf, Builtin.firstCells, hnc, storeCells]
theorem OwnS.atN {Y : Nat → Prop} {e : TypeId} {size n g cap : Nat} {xs : List Value} {W : World} (h : OwnS Y e size (.slice (some ⟨g, 0, none⟩) n cap) n xs W) {i : Nat} {u : Value} (hi : xs[i]? = some u) : W.cell? ⟨g, i, none⟩ = some u := by
 have := h.1.cells (g := g) rfl i u hi
 rwa [Addr.add_lit, Nat.zero_add] at this
end Go.Kt
namespace Go.Kt
open Go

section
variable {F : Fence} {n : Nat} {P : Program} {ops : Array Oper} {Q : Exit → Act → World → Prop} {md : Region.Mode}
theorem wpIn_value {o : Oper} {a : Act} {w w' : World} {v : Value} {K : Act → World → Prop} (hc : ∀ c, o.op ≠ .call c ∧ o.op ≠ .defer c) (h : (execOp a.eval o).run P w = .ok (.value v) w') (hK : K (a.put o.dst v) w') : o.wpIn F n P a w K Q := by
  unfold Oper.wpIn
  refine ⟨fun f hf => ?_, ?_⟩
  · unfold Oper.about at hf
    split at hf
    · rename_i c e; exact absurd e (hc c).1
    · cases hf
  · rw [Oper.semAt_plain F _ _ (fun c => (hc c).2), h]
    exact hK
theorem wpAnyIn_inv (I : Array Bool → Act → World → Prop)
    (step : ∀ listed a w i, I listed a w → i ∈ Region.ready md ops listed → wpOpIn F n P ops Q i (I (listed.setIfInBounds i true)) a w)
    (done : ∀ listed a w, I listed a w → Region.ready md ops listed = [] → Q .normal a w) :
    ∀ fuel listed a w, unlisted listed ops.size ≤ fuel → I listed a w → wpAnyIn F n P md ops Q fuel listed a w := by
  intro fuel
  induction fuel with
  | zero =>
    intro listed a w hf hI
    have hr : Region.ready md ops listed = [] := by
      rcases List.eq_nil_or_concat (Region.ready md ops listed) with h | ⟨l, i, h⟩
      · exact h
      · have hi : i ∈ Region.ready md ops listed := by rw [h]; simp
        obtain ⟨h1, o, ho, _⟩ := mem_ready.1 hi
        have hm : i ∈ (List.range ops.size).filter fun i => !listed.getD i true := by
          rw [List.mem_filter]
          exact ⟨List.mem_range.2 (Array.getElem?_eq_some_iff.1 ho).1, by rw [h1]; rfl⟩
        have := List.length_pos_of_mem hm
        unfold unlisted at hf
        omega
    exact ⟨hr, done _ _ _ hI hr⟩
  | succ fuel ih =>
    intro listed a w hf hI
    refine ⟨done _ _ _ hI, fun i hi => ?_⟩
    obtain ⟨h1, o, ho, _⟩ := mem_ready.1 hi
    have hlt := filter_set_lt listed i h1 (List.range ops.size) (List.mem_range.2 (Array.getElem?_eq_some_iff.1 ho).1)
    refine wpOpIn_mono (fun a' w' h' => ih _ a' w' ?_ h') (step listed a w i hI hi)
    unfold unlisted at hf ⊢
    omega

def DInStep (F : Fence) (n : Nat) (P : Program) (md : Region.Mode) (ops : Array Oper) (Q : Exit → Act → World → Prop) (S : (Nat → Bool) → World → Prop) (p : Nat → Value → World → Prop) (a0 : Act) (i : Nat) (o : Oper) : Prop :=
  ∀ (D : Nat → Bool) a w, D i = false → (∀ j, awaits md ops j i = true → D j = false) → (∀ j, waitsB md o j = true → D j = true) → S D w → Like ops a0 a → (∀ j k, waitsB md o j = true → slotB ops j k = true → p j (a.tmps.getD k undef) w) →
    Region.wanted o (yielded ops a.tmps) = true ∧ o.wpIn F n P a w (fun a' w' => ∃ v, a' = a.put o.dst v ∧ S (fun j => D j || j == i) w' ∧ (∀ j u, D j = true → p j u w → p j u w') ∧ p i v w') Q
def DInSteps (F : Fence) (n : Nat) (P : Program) (md : Region.Mode) (ops : Array Oper) (Q : Exit → Act → World → Prop) (S : (Nat → Bool) → World → Prop) (p : Nat → Value → World → Prop) (a0 : Act) : Nat → List Oper → Prop
  | _, [] => True
  | i, o :: r => DInStep F n P md ops Q S p a0 i o ∧ DInSteps F n P md ops Q S p a0 (i + 1) r
theorem DInSteps.get {S : (Nat → Bool) → World → Prop} {p : Nat → Value → World → Prop} {a0 : Act} : ∀ (l : List Oper) (i : Nat), DInSteps F n P md ops Q S p a0 i l → ∀ j o, l[j]? = some o → DInStep F n P md ops Q S p a0 (i + j) o
  | [], _, _, j, o, h => by simp at h
  | x :: r, i, hs, 0, o, h => by simp at h; subst h; exact hs.1
  | x :: r, i, hs, j + 1, o, h => by
    have := DInSteps.get r (i + 1) hs.2 j o (by simpa using h)
    rw [show i + (j + 1) = i + 1 + j by omega]; exact this
theorem DInSteps.cons {S : (Nat → Bool) → World → Prop} {p : Nat → Value → World → Prop} {a0 : Act} {i : Nat} {o : Oper} {r : List Oper} (h : DInStep F n P md ops Q S p a0 i o) (hr : DInSteps F n P md ops Q S p a0 (i + 1) r) : DInSteps F n P md ops Q S p a0 i (o :: r) := ⟨h, hr⟩
theorem DInSteps.nil {S : (Nat → Bool) → World → Prop} {p : Nat → Value → World → Prop} {a0 : Act} {i : Nat} : DInSteps F n P md ops Q S p a0 i [] := trivial

theorem wpIn_region_done {id : Nat} {a0 : Act} {w0 : World} (S : (Nat → Bool) → World → Prop) (p : Nat → Value → World → Prop) (hm : P.follows .mixedOrders = true) (hap : apartB ops a0.tmps.size = true) (hfw : forwardB .any ops = true)
    (hS : S (fun _ => false) w0.drew) (hs : DInSteps F n P .any ops Q S p a0 0 ops.toList)
    (hd : ∀ D a w, (∀ j, j < ops.size → D j = true) → S D w → Like ops a0 a → (∀ j k, slotB ops j k = true → p j (a.tmps.getD k undef) w) → (∀ j, j < ops.size → ∃ v, p j v w) → Q .normal a w) : (Code.region id ops true).wpIn F n P Q a0 w0 := by
  have hdst : ∀ (i : Nat) (o : Oper) (k : Nat), ops[i]? = some o → o.dst = some k → k < a0.tmps.size ∧ ∀ (j : Nat) (oj : Oper), ops[j]? = some oj → oj.dst = some k → i = j := by
    intro i o k ho hk
    have hi := (Array.getElem?_eq_some_iff.1 ho).1
    have h1 := List.all_eq_true.1 hap i (List.mem_range.2 hi)
    have h2 : ops.getD i default = o := by simp [Array.getD_eq_getD_getElem?, ho]
    rw [h2, hk] at h1
    simp only [Bool.and_eq_true, decide_eq_true_eq] at h1
    refine ⟨h1.1, fun j oj hj hjk => ?_⟩
    have hj' := (Array.getElem?_eq_some_iff.1 hj).1
    have h3 := List.all_eq_true.1 h1.2 j (List.mem_range.2 hj')
    have h4 : ops.getD j default = oj := by simp [Array.getD_eq_getD_getElem?, hj]
    rw [h4, hjk] at h3
    simpa using h3
  refine wpIn_region_any hm ?_
  refine wpAnyIn_inv (fun listed a w => listed.size = ops.size ∧ S (fun j => listed.getD j false) w ∧ (∀ j k, listed.getD j false = true → awaits .any ops j k = true → listed.getD k false = true) ∧ Like ops a0 a ∧ (∀ j, listed.getD j false = true → ∃ v, p j v w) ∧ ∀ j k, listed.getD j false = true → slotB ops j k = true → p j (a.tmps.getD k undef) w) ?_ ?_ _ _ _ _ ?_ ⟨by simp, by rw [show (fun j => (Array.replicate ops.size false).getD j false) = fun _ => false from funext fun j => by simp only [Array.getD_eq_getD_getElem?, Array.getElem?_replicate]; split <;> rfl]; exact hS, ?_, ⟨rfl, rfl, fun _ _ => rfl⟩, ?_, ?_⟩
  · rintro listed a w i ⟨hz, hSw, hC, hL, hE, hP⟩ hi
    obtain ⟨hjun, o, ho, hall⟩ := mem_ready.1 hi
    have hilt := (Array.getElem?_eq_some_iff.1 ho).1
    have hin : listed.getD i false = false := by
      have hi2 : i < listed.size := by omega
      simpa [Array.getD_eq_getD_getElem?, hi2] using hjun
    have hw8 : ∀ j, waitsB .any o j = true → listed.getD j false = true := fun j hj => by
      unfold waitsB at hj
      obtain ⟨e, he, h2⟩ := Array.any_eq_true'.1 hj
      simp only [Bool.and_eq_true, beq_iff_eq] at h2
      have := hall e he h2.2
      rw [h2.1] at this
      exact this
    have hst := DInSteps.get ops.toList 0 hs i o (by simpa using ho)
    rw [Nat.zero_add] at hst
    obtain ⟨hw, hx⟩ := hst (fun j => listed.getD j false) a w hin (fun j hj => by
      cases hl : listed.getD j false with
      | false => rfl
      | true => have := hC j i hl hj; rw [hin] at this; cases this) hw8 hSw hL (fun j k hj hk => hP j k (hw8 j hj) hk)
    unfold wpOpIn
    simp only [ho, hw, if_true]
    refine Oper.wpIn_mono ?_ hx
    rintro a' w' ⟨v, rfl, hS', hR', hpv⟩
    refine ⟨by simpa using hz, by rw [set_done listed i (by omega)]; exact hS', ?_, ⟨?_, ?_, fun k hk => ?_⟩, fun j hj => ?_, fun j k hj hk => ?_⟩
    · intro j k hj hk
      have hd1 := congrFun (set_done listed i (by omega))
      rw [hd1] at hj ⊢
      rw [Bool.or_eq_true] at hj ⊢
      left
      rcases hj with hj | hj
      · exact hC j k hj hk
      · have : j = i := by simpa using hj
        subst this
        unfold awaits at hk
        rw [ho] at hk
        exact hw8 k hk
    · cases h : o.dst <;> exact hL.defers
    · cases h : o.dst
      · exact hL.size
      · simp only [Act.put, Array.size_setIfInBounds]; exact hL.size
    · cases h : o.dst with
      | none => exact hL.far k hk
      | some d =>
        have hne : d ≠ k := fun e => by
          subst e
          unfold outside at hk
          have := Array.all_eq_true.1 hk i hilt
          rw [(Array.getElem?_eq_some_iff.1 ho).2, h] at this
          simp at this
        simp only [Act.put, Array.getD_eq_getD_getElem?, Array.getElem?_setIfInBounds, if_neg hne]
        have := hL.far k hk
        simpa only [Array.getD_eq_getD_getElem?] using this
    · by_cases hji : j = i
      · subst hji; exact ⟨v, hpv⟩
      · have hjl : listed.getD j false = true := by
          simp only [Array.getD_eq_getD_getElem?, Array.getElem?_setIfInBounds, if_neg (Ne.symm hji)] at hj ⊢
          exact hj
        obtain ⟨u, hu⟩ := hE j hjl
        exact ⟨u, hR' j _ hjl hu⟩
    · obtain ⟨oj, hoj, hjk⟩ : ∃ oj, ops[j]? = some oj ∧ oj.dst = some k := by
        unfold slotB at hk
        cases h : ops[j]? with
        | none => rw [h] at hk; cases hk
        | some oj => rw [h] at hk; exact ⟨oj, rfl, by simpa using hk⟩
      by_cases hji : j = i
      · subst hji
        rw [hoj] at ho
        cases ho
        have hkz := (hdst j _ k hoj hjk).1
        rw [hjk]
        have : (a.put (some k) v).tmps.getD k undef = v := by
          have : k < a.tmps.size := by rw [hL.size]; exact hkz
          simp [Act.put, Array.getD_eq_getD_getElem?, this]
        rw [this]
        exact hpv
      · have hjl : listed.getD j false = true := by
          simp only [Array.getD_eq_getD_getElem?, Array.getElem?_setIfInBounds, if_neg (Ne.symm hji)] at hj ⊢
          exact hj
        have h1 := hR' j _ hjl (hP j k hjl hk)
        cases h : o.dst with
        | none => exact h1
        | some d =>
          have hne : d ≠ k := fun e => by
            subst e
            exact hji ((hdst i o d ho h).2 j oj hoj hjk).symm
          simp only [Act.put, Array.getD_eq_getD_getElem?, Array.getElem?_setIfInBounds, if_neg hne] at h1 ⊢
          exact h1
  · rintro listed a w ⟨hz, hSw, hC, hL, hE, hP⟩ hr
    have hall : ∀ n j, j < n → j < ops.size → listed.getD j false = true := by
      intro n
      induction n with
      | zero => intro j h; omega
      | succ n ih =>
        intro j hjn hj
        cases hl : listed.getD j true with
        | true =>
          have : j < listed.size := by omega
          simpa [Array.getD_eq_getD_getElem?, this] using hl
        | false =>
          exfalso
          have hmem : j ∈ Region.ready .any ops listed := mem_ready.2 ⟨hl, ops[j], by simp [hj], fun e he hb => by
            have h1 := List.all_eq_true.1 hfw j (List.mem_range.2 hj)
            have h2 : ops.getD j default = ops[j] := by simp [Array.getD_eq_getD_getElem?, hj]
            rw [h2] at h1
            have h3 := Array.all_eq_true_iff_forall_mem.1 h1 e he
            rw [hb] at h3
            simp at h3
            exact ih e.on (by omega) (by omega)⟩
          rw [hr] at hmem
          cases hmem
    refine hd _ a w (fun j hj => hall (j + 1) j (by omega) hj) hSw hL (fun j k hk => hP j k (hall (j + 1) j (by omega) ?_) hk) (fun j hj => hE j (hall (j + 1) j (by omega) hj))
    unfold slotB at hk
    cases h : ops[j]? with
    | none => rw [h] at hk; cases hk
    | some oj => exact (Array.getElem?_eq_some_iff.1 h).1
  · unfold unlisted
    exact Nat.le_trans (List.length_filter_le _ _) (by simp)
  · intro j k hj
    simp only [Array.getD_eq_getD_getElem?, Array.getElem?_replicate] at hj
    split at hj <;> simp at hj
  · intro j hj
    simp only [Array.getD_eq_getD_getElem?, Array.getElem?_replicate] at hj
    split at hj <;> simp at hj
  · intro j k hj
    simp only [Array.getD_eq_getD_getElem?, Array.getElem?_replicate] at hj
    split at hj <;> simp at hj
end
def RoS (w : World) (_ : Nat → Bool) (X : World) : Prop := X = w
def RoP (val : Nat → Option Value) (i : Nat) (v : Value) (_ : World) : Prop := ∀ u, val i = some u → v = u
theorem RoP.mk {val : Nat → Option Value} {i : Nat} {v : Value} {X : World} (e : val i = some v) : RoP val i v X := fun u h => by rw [e] at h; exact Option.some.inj h
end Go.Kt
