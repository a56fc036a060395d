/- What is the same of any program: a region that draws its order and only reads, within a round of a range over a function. -/
import Derived.Test.YtdcpbogabgnooaaDoorK
import Derived.Sort.QuietIn
import Derived.Sort.QuietTacIn
namespace Go.Kt
open Go Go.RowKit
variable {P : Program}

/-- No operation is a defer statement. -/
def noDefer (ops : List Oper) : Bool := ops.all fun o => match o.op with | .defer _ => false | _ => true
theorem noDefer_at {ops : List Oper} (h : noDefer ops = true) {i : Nat} {o : Oper} (ho : ops.toArray[i]? = some o) : ∀ c, o.op ≠ .defer c := by
  intro c hc
  have hm : o ∈ ops := by
    rw [List.getElem?_toArray] at ho
    exact List.mem_of_getElem? ho
  have := List.all_eq_true.1 h o hm
  rw [hc] at this
  cases this

theorem upon_round {l n : Nat} {o : Oper} {a : Act} {next next' : Act → World → Prop} {Q : Exit → Act → World → Prop} (hn : ∀ a w, next a w → next' a w) (r : Result Next) (h : o.uponIn Fence.wide n P a next Q r) :
    o.uponIn (Fence.wide.inRound l) n P a next' Q r := by
  cases r with
  | ok x w =>
    cases x with
    | value v => exact hn _ _ h
    | skip => exact hn _ _ h
    | defer d => exact hn _ _ h
    | enter f args =>
      refine ⟨fun hh => h.1 hh, CallsIn.inRound l (h.2.mono ?_)⟩
      intro e w' he
      cases e with
      | returned v => exact hn _ _ he
      | panicked chain => exact he
      | outgrown => exact he
    | round l' f tmps assign body =>
      have h2 : RoundIn Fence.wide (n - 1) P l' f tmps assign body w (fun
          | .returned v, w'' => next' (a.put o.dst v) w''
          | .panicked chain, w'' => Q (.panic chain) a w''
          | .outgrown, _ => LetsOut Q) := h.2.mono (by
        intro e w' he
        cases e with
        | returned v => exact hn _ _ he
        | panicked chain => exact he
        | outgrown => exact he)
      exact ⟨fun hh => h.1 hh, h2⟩
    | row r args =>
      have h2 : RowsIn Fence.wide (n - 1) P r args w (fun v w'' => next' (a.put o.dst v) w'') := h.2.mono (fun v w' he => hn _ _ he)
      exact ⟨fun hh => h.1 hh, h2⟩
    | _ => exact h.elim
  | halt hh w =>
    cases hh with
    | panic v => exact h
    | _ => exact h.elim

theorem ops_round {l n : Nat} {ops : List Oper} {Q : Exit → Act → World → Prop} (hnd : noDefer ops = true) : ∀ (L : List Nat) (a : Act) (w : World), wpOpsIn Fence.wide n P ops.toArray Q L a w → wpOpsIn (Fence.wide.inRound l) n P ops.toArray Q L a w
  | [], _, _, h => h
  | i :: L, a, w, h => by
    unfold wpOpsIn at h ⊢
    cases ho : ops.toArray[i]? with
    | none =>
      rw [ho] at h
      exact ops_round hnd L a w h
    | some o =>
      rw [ho] at h
      simp only at h ⊢
      by_cases hw : Region.wanted o (yielded ops.toArray a.tmps) = true
      · rw [if_pos hw] at h ⊢
        refine ⟨h.1, ?_⟩
        have hs : o.semAt (Fence.wide.inRound l).round a.eval = o.semAt Fence.wide.round a.eval := by
          rw [Fence.inRound_round, Oper.semAt_some l _ _ (noDefer_at hnd ho)]
          simp [Oper.semAt]
        rw [hs]
        exact upon_round (fun a w => ops_round hnd L a w) _ h.2
      · rw [if_neg hw] at h ⊢
        exact ⟨h.1, ops_round hnd L _ _ h.2⟩

/-- 'wpIn_region_quiet_lit' within a round. -/
theorem region_quiet_round {l n id : Nat} {Q : Exit → Act → World → Prop} {a : Act} {w : World} {ops : List Oper} (hnd : noDefer ops = true) (hm : P.follows .mixedOrders = true) (hB : Region.lexB .any ops.toArray = true)
    (h : wpQuietIn Fence.wide n P ops.toArray (fun w' => ∃ n, w' = w.drewN n) (fun a' => ∀ w', (∃ n, w' = w.drewN n) → Q .normal a' w') ops a) : (Code.region id ops.toArray true).wpIn (Fence.wide.inRound l) n P Q a w := by
  refine wpIn_region_draw fun t => ?_
  refine ops_round hnd _ _ _ ?_
  simp only [Region.schedule, hm, Bool.true_or, if_true]
  refine wpAnyIn_sound ops.toArray.size t _ a _ ?_
  simp only [Region.lexB, Bool.and_eq_true] at hB
  refine wpAnyIn_of_quiet (C := fun w' => ∃ n, w' = w.drewN n) (Q := fun a' => ∀ w', (∃ n, w' = w.drewN n) → Q .normal a' w') rfl (fun _ w' hw' h => h w' hw') _ _ _ _ ⟨1, rfl⟩ ?_
  have := wpAnyQIn_lex (F := Fence.wide) (n := n) (C := fun w' => ∃ n, w' = w.drewN n) (md := .any) hB.1 ops.toArray.toList 0 (Array.replicate ops.toArray.size false) a (by simp) (by simpa using hB.2) (by simpa using h)
  simpa using this
end Go.Kt
