/- Parts of the proof of what the last text says. -/
import Derived.OrdersHeld
import Derived.WalkKit
import Derived.Test.YthhepebkfokddaaGreatDoorGx1
import Derived.Lib.AppendStr
import Derived.Maps.OwnSet
import Derived.LoopNIn
import Derived.Laws.ResultCell
import Derived.Laws.Rows
namespace Go.Kt
open Go

section
variable {P : Program} {ops : Array Oper} {Q : Exit → Act → World → Prop} {md : Region.Mode}

def outside (ops : Array Oper) (k : Nat) : Bool := ops.all fun o => o.dst != some k
def apartB (ops : Array Oper) (n : Nat) : Bool :=
  (List.range ops.size).all fun i => match (ops.getD i default).dst with
    | none => true
    | some k => decide (k < n) && (List.range ops.size).all fun j => i == j || (ops.getD j default).dst != some k
def forwardB (md : Region.Mode) (ops : Array Oper) : Bool :=
  (List.range ops.size).all fun i => (ops.getD i default).after.all fun e => !Region.binds md e || decide (e.on < i)
def waitsB (md : Region.Mode) (o : Oper) (j : Nat) : Bool := o.after.any fun e => e.on == j && Region.binds md e
def slotB (ops : Array Oper) (j k : Nat) : Bool := match ops[j]? with | some o => o.dst == some k | none => false

structure Like (ops : Array Oper) (a0 a : Act) : Prop where
  defers : a.defers = a0.defers
  size : a.tmps.size = a0.tmps.size
  far : ∀ k, outside ops k = true → a.tmps.getD k undef = a0.tmps.getD k undef

def SlotStep (P : Program) (md : Region.Mode) (ops : Array Oper) (Q : Exit → Act → World → Prop) (S : World → Prop) (R : World → World → Prop) (p : Nat → Value → World → Prop) (a0 : Act) (i : Nat) (o : Oper) : Prop :=
  ∀ a w, S w → Like ops a0 a → (∀ j k, waitsB md o j = true → slotB ops j k = true → p j (a.tmps.getD k undef) w) →
    Region.wanted o (yielded ops a.tmps) = true ∧ o.wp P a w (fun a' w' => ∃ v, a' = a.put o.dst v ∧ S w' ∧ R w w' ∧ p i v w') Q
def SlotSteps (P : Program) (md : Region.Mode) (ops : Array Oper) (Q : Exit → Act → World → Prop) (S : World → Prop) (R : World → World → Prop) (p : Nat → Value → World → Prop) (a0 : Act) : Nat → List Oper → Prop
  | _, [] => True
  | i, o :: r => SlotStep P md ops Q S R p a0 i o ∧ SlotSteps P md ops Q S R p a0 (i + 1) r
theorem SlotSteps.get {S : World → Prop} {R : World → World → Prop} {p : Nat → Value → World → Prop} {a0 : Act} : ∀ (l : List Oper) (i : Nat), SlotSteps P md ops Q S R p a0 i l → ∀ j o, l[j]? = some o → SlotStep P md ops Q S R p a0 (i + j) o
  | [], _, _, j, o, h => by simp at h
  | x :: r, i, hs, 0, o, h => by simp at h; subst h; exact hs.1
  | x :: r, i, hs, j + 1, o, h => by
    have := SlotSteps.get r (i + 1) hs.2 j o (by simpa using h)
    rw [show i + (j + 1) = i + 1 + j by omega]; exact this

def unlisted (listed : Array Bool) (n : Nat) : Nat := ((List.range n).filter fun i => !listed.getD i true).length
theorem filter_set_lt (listed : Array Bool) (i : Nat) (h : listed.getD i true = false) : ∀ (l : List Nat), i ∈ l →
    (l.filter fun j => !(listed.setIfInBounds i true).getD j true).length < (l.filter fun j => !listed.getD j true).length := by
  have hi : i < listed.size := by
    rcases Nat.lt_or_ge i listed.size with h' | h'
    · exact h'
    · simp [Array.getD, Nat.not_lt.2 h'] at h
  have hle : ∀ l : List Nat, (l.filter fun j => !(listed.setIfInBounds i true).getD j true).length ≤ (l.filter fun j => !listed.getD j true).length := by
    intro l
    induction l with
    | nil => simp
    | cons x r ih =>
      by_cases hx : x = i
      · subst hx
        have h1 : (listed.setIfInBounds x true).getD x true = true := by simp [Array.getD, hi]
        simp only [List.filter_cons, h1, h, Bool.not_true, Bool.not_false, if_true, Bool.false_eq_true, if_false, List.length_cons]
        omega
      · have h1 : (listed.setIfInBounds i true).getD x true = listed.getD x true := by
          simp only [Array.getD_eq_getD_getElem?, Array.getElem?_setIfInBounds, if_neg (Ne.symm hx)]
        simp only [List.filter_cons, h1]
        split
        · simp only [List.length_cons]; omega
        · exact ih
  intro l
  induction l with
  | nil => intro hm; cases hm
  | cons x r ih =>
    intro hm
    by_cases hx : x = i
    · subst hx
      have h1 : (listed.setIfInBounds x true).getD x true = true := by simp [Array.getD, hi]
      have := hle r
      simp only [List.filter_cons, h1, h, Bool.not_true, Bool.not_false, if_true, Bool.false_eq_true, if_false, List.length_cons]
      omega
    · have h1 : (listed.setIfInBounds i true).getD x true = listed.getD x true := by
        simp only [Array.getD_eq_getD_getElem?, Array.getElem?_setIfInBounds, if_neg (Ne.symm hx)]
      have hm' : i ∈ r := by
        rcases List.mem_cons.1 hm with h | h
        · exact absurd h.symm hx
        · exact h
      have := ih hm'
      simp only [List.filter_cons, h1]
      split
      · simp only [List.length_cons]; omega
      · exact this

theorem wpAny_inv (I : Array Bool → Act → World → Prop)
    (step : ∀ listed a w i, I listed a w → i ∈ Region.ready md ops listed → wpOp P ops Q i (I (listed.setIfInBounds i true)) a w)
    (done : ∀ listed a w, I listed a w → Region.ready md ops listed = [] → Q .normal a w) :
    ∀ fuel listed a w, unlisted listed ops.size ≤ fuel → I listed a w → wpAny P md ops Q fuel listed a w := by
  intro fuel
  induction fuel with
  | zero =>
    intro listed a w hf hI
    have hr : Region.ready md ops listed = [] := by
      rcases List.eq_nil_or_concat (Region.ready md ops listed) with h | ⟨l, i, h⟩
      · exact h
      · have hi : i ∈ Region.ready md ops listed := by rw [h]; simp
        obtain ⟨h1, o, ho, _⟩ := mem_ready.1 hi
        have hm : i ∈ (List.range ops.size).filter fun i => !listed.getD i true := by
          rw [List.mem_filter]
          exact ⟨List.mem_range.2 (Array.getElem?_eq_some_iff.1 ho).1, by rw [h1]; rfl⟩
        have := List.length_pos_of_mem hm
        unfold unlisted at hf
        omega
    exact ⟨hr, done _ _ _ hI hr⟩
  | succ fuel ih =>
    intro listed a w hf hI
    refine ⟨done _ _ _ hI, fun i hi => ?_⟩
    obtain ⟨h1, o, ho, _⟩ := mem_ready.1 hi
    have hlt := filter_set_lt listed i h1 (List.range ops.size) (List.mem_range.2 (Array.getElem?_eq_some_iff.1 ho).1)
    refine wpOp_mono (fun a' w' h' => ih _ a' w' ?_ h') (step listed a w i hI hi)
    unfold unlisted at hf ⊢
    omega

end
end Go.Kt
namespace Go.Kt
open Go
section
variable {P : Program} {ops : Array Oper} {Q : Exit → Act → World → Prop}
theorem wp_value {o : Oper} {a : Act} {w w' : World} {v : Value} {K : Act → World → Prop} (h : (execOp a.eval o).run P w = .ok (.value v) w') (hK : K (a.put o.dst v) w') : o.wp P a w K Q := by
  unfold Oper.wp; rw [h]; exact hK
theorem wp_enter {o : Oper} {a : Act} {w w' : World} {f : Nat} {args : Array Value} {K : Act → World → Prop} (h : (execOp a.eval o).run P w = .ok (.enter f args) w')
    (hK : Calls P f args w' fun e w'' => ∃ v, e = .returned v ∧ K (a.put o.dst v) w'') : o.wp P a w K Q := by
  unfold Oper.wp; rw [h]
  refine Calls.mono hK fun e w'' he => ?_
  obtain ⟨v, rfl, hv⟩ := he
  exact hv
theorem wp_skipped {o : Oper} {a : Act} {w w' : World} {K : Act → World → Prop} (h : (execOp a.eval o).run P w = .ok .skip w') (hK : K (a.put o.dst undef) w') : o.wp P a w K Q := by
  unfold Oper.wp; rw [h]; exact hK
theorem run_val {m : Sem Value} {w w' : World} {v : Value} (h : m.run P w = .ok v w') : (m >>= fun x => pure (Next.value x)).run P w = .ok (.value v) w' := by
  simp [h]
end
end Go.Kt
namespace Go.Kt
open Go
section
variable {P : Program} {ops : Array Oper} {Q : Exit → Act → World → Prop} {o : Oper} {a : Act} {w w' : World}
theorem exec_load {t : TypeId} {x : Operand} {u v : Value} (ho : o.op = .load t x) (hx : a.eval x = u) (h : (Instr.loadAt t u).run P w = .ok v w') : (execOp a.eval o).run P w = .ok (.value v) w' := by
  unfold execOp; rw [ho]; simp only [hx]; exact run_val h
theorem exec_binop {op : BinOp} {t ty : TypeId} {x y : Operand} {u1 u2 v : Value} (ho : o.op = .binOp op t x y ty) (hx : a.eval x = u1) (hy : a.eval y = u2) (h : (do eqGuard op t x y u1 u2; binOp op t u1 u2 : Sem Value).run P w = .ok v w') : (execOp a.eval o).run P w = .ok (.value v) w' := by
  unfold execOp; rw [ho]; simp only [hx, hy]; exact run_val h
theorem exec_move {x : Operand} {u : Value} (ho : o.op = .move x) (hx : a.eval x = u) : (execOp a.eval o).run P w = .ok (.value u) w := by
  unfold execOp; rw [ho]; simp only [hx]; rfl
theorem exec_store {t : TypeId} {x y : Operand} {u1 u2 : Value} (ho : o.op = .store t x y) (hx : a.eval x = u1) (hy : a.eval y = u2) (h : (Instr.storeAt t u1 u2).run P w = .ok () w') : (execOp a.eval o).run P w = .ok .skip w' := by
  unfold execOp; rw [ho]; simp only [hx, hy]; simp [h]
theorem exec_call {f : FuncId} {args : Array Operand} {ats : Array TypeId} {vs : Array Value} {fn : Func} (ho : o.op = .call ⟨.value (.func f), args, ats⟩) (hx : args.map a.eval = vs) (hf : P.funcs[f]? = some fn) (hn : (fn.name == "runtime.NumGoroutine") = false) (hb : fn.body.isNone = false) : (execOp a.eval o).run P w = .ok (.enter f vs) w := by
  unfold execOp; rw [ho]; simp only [resolve, hx, Act.eval, Deferred.ofValue, invoke, callFunc]
  have h1 : ¬ fn.name = "runtime.NumGoroutine" := fun h => by rw [h] at hn; exact absurd hn (by decide)
  have h2 : ¬ fn.body = none := fun h => by rw [h] at hb; cases hb
  simp [hf, h1, h2]
end
end Go.Kt
namespace Go.Kt
open Go
section
variable {P : Program} {ops : Array Oper} {o : Oper} {a : Act} {w w' : World}
def dsts (ops : Array Oper) : List Nat := ops.toList.filterMap (·.dst)
theorem foldl_set_size (f : Nat → Value) : ∀ (ks : List Nat) (t : Array Value), (ks.foldl (fun t k => t.setIfInBounds k (f k)) t).size = t.size
  | [], _ => rfl
  | k :: ks, t => by rw [List.foldl_cons, foldl_set_size f ks]; simp
theorem foldl_set_get (f : Nat → Value) : ∀ (ks : List Nat) (t : Array Value) (i : Nat), i < t.size → (ks.foldl (fun t k => t.setIfInBounds k (f k)) t).getD i undef = if i ∈ ks then f i else t.getD i undef
  | [], t, i, _ => by simp
  | k :: ks, t, i, h => by
    rw [List.foldl_cons, foldl_set_get f ks _ i (by simpa using h)]
    by_cases h1 : i ∈ ks
    · simp [h1]
    · by_cases h2 : k = i
      · subst h2
        simp [h1, Array.getD_eq_getD_getElem?, h]
      · simp [h1, Ne.symm h2, Array.getD_eq_getD_getElem?, h2]
theorem Like.out {a0 : Act} (h : Like ops a0 a) (ks : List Nat) (hk : dsts ops = ks) : ∃ f : Nat → Value, a = ⟨ks.foldl (fun t k => t.setIfInBounds k (f k)) a0.tmps, a0.defers⟩ ∧ ∀ k, f k = a.tmps.getD k undef := by
  refine ⟨fun k => a.tmps.getD k undef, ?_, fun _ => rfl⟩
  obtain ⟨t, d⟩ := a
  obtain ⟨h1, h2, h3⟩ := h
  simp only at h1 h2 h3 ⊢
  subst h1
  congr 1
  refine Array.ext (by rw [foldl_set_size]; exact h2) fun i hi hi' => ?_
  have hlt : i < a0.tmps.size := by rw [← h2]; exact hi
  have e1 : t[i] = t.getD i undef := by simp [Array.getD_eq_getD_getElem?, hi]
  have e2 : ∀ (x : Array Value) (hx : i < x.size), x[i] = x.getD i undef := fun x hx => by simp [Array.getD_eq_getD_getElem?, hx]
  rw [e1, e2 _ hi', foldl_set_get _ _ _ _ hlt]
  by_cases hno : i ∈ ks
  · rw [if_pos hno]
  · rw [if_neg hno]
    refine h3 i ?_
    unfold outside
    rw [Array.all_eq_true_iff_forall_mem]
    intro x hx
    have : x.dst ≠ some i := fun e => hno (by
      rw [← hk]
      exact List.mem_filterMap.2 ⟨x, by simpa using hx, e⟩)
    simpa using this
end
end Go.Kt
namespace Go.Kt
open Go
section
variable {P : Program} {o : Oper} {a : Act} {w w' : World}
theorem exec_indexAddr {t : TypeId} {x y : Operand} {u1 u2 v : Value} (ho : o.op = .indexAddr t x y) (hx : a.eval x = u1) (hy : a.eval y = u2) (h : (Instr.indexAt t u1 u2).run P w = .ok v w') : (execOp a.eval o).run P w = .ok (.value v) w' := by
 unfold execOp; rw [ho]; simp only [hx, hy]; exact run_val h
theorem exec_fieldAddr {t : TypeId} {x : Operand} {f : Nat} {u v : Value} (ho : o.op = .fieldAddr t x f) (hx : a.eval x = u) (h : (Instr.fieldAt t u f).run P w = .ok v w') : (execOp a.eval o).run P w = .ok (.value v) w' := by
 unfold execOp; rw [ho]; simp only [hx]; exact run_val h
theorem exec_buildSlice {t : TypeId} {n : Nat} {parts : Array (Nat × Operand)} {ps : Array (Nat × Value)} {v : Value} (ho : o.op = .buildSlice t n parts) (hp : parts.map (fun p => (p.1, a.eval p.2)) = ps) (h : (Instr.buildSlice t n ps).run P w = .ok v w') : (execOp a.eval o).run P w = .ok (.value v) w' := by
 unfold execOp; rw [ho]; simp only []; subst hp; exact run_val h
theorem exec_build {t : TypeId} {parts : Array (Nat × Operand)} {ps : Array (Nat × Value)} {v : Value} (ho : o.op = .build t parts) (hp : parts.map (fun p => (p.1, a.eval p.2)) = ps) (h : (Instr.build t ps).run P w = .ok v w') : (execOp a.eval o).run P w = .ok (.value v) w' := by
 unfold execOp; rw [ho]; simp only []; subst hp; exact run_val h
theorem exec_nilCheck {x : Operand} {p : Addr} (ho : o.op = .nilCheck x) (hx : a.eval x = .pointer (some p)) : (execOp a.eval o).run P w = .ok (.value (.pointer (some p))) w := by
 unfold execOp; rw [ho]; simp only [hx]; rfl
end
end Go.Kt
namespace Go.Kt
open Go

section
variable {P : Program} {ops : Array Oper} {Q : Exit → Act → World → Prop} {md : Region.Mode}

def awaits (md : Region.Mode) (ops : Array Oper) (j i : Nat) : Bool := match ops[j]? with | some o => waitsB md o i | none => false
def DStep (P : Program) (md : Region.Mode) (ops : Array Oper) (Q : Exit → Act → World → Prop) (S : (Nat → Bool) → World → Prop) (p : Nat → Value → World → Prop) (a0 : Act) (i : Nat) (o : Oper) : Prop :=
  ∀ (D : Nat → Bool) a w, D i = false → (∀ j, awaits md ops j i = true → D j = false) → (∀ j, waitsB md o j = true → D j = true) → S D w → Like ops a0 a → (∀ j k, waitsB md o j = true → slotB ops j k = true → p j (a.tmps.getD k undef) w) →
    Region.wanted o (yielded ops a.tmps) = true ∧ o.wp P a w (fun a' w' => ∃ v, a' = a.put o.dst v ∧ S (fun j => D j || j == i) w' ∧ (∀ j u, D j = true → p j u w → p j u w') ∧ p i v w') Q
def DSteps (P : Program) (md : Region.Mode) (ops : Array Oper) (Q : Exit → Act → World → Prop) (S : (Nat → Bool) → World → Prop) (p : Nat → Value → World → Prop) (a0 : Act) : Nat → List Oper → Prop
  | _, [] => True
  | i, o :: r => DStep P md ops Q S p a0 i o ∧ DSteps P md ops Q S p a0 (i + 1) r
theorem DSteps.get {S : (Nat → Bool) → World → Prop} {p : Nat → Value → World → Prop} {a0 : Act} : ∀ (l : List Oper) (i : Nat), DSteps P md ops Q S p a0 i l → ∀ j o, l[j]? = some o → DStep P md ops Q S p a0 (i + j) o
  | [], _, _, j, o, h => by simp at h
  | x :: r, i, hs, 0, o, h => by simp at h; subst h; exact hs.1
  | x :: r, i, hs, j + 1, o, h => by
    have := DSteps.get r (i + 1) hs.2 j o (by simpa using h)
    rw [show i + (j + 1) = i + 1 + j by omega]; exact this
theorem DSteps.cons {S : (Nat → Bool) → World → Prop} {p : Nat → Value → World → Prop} {a0 : Act} {i : Nat} {o : Oper} {r : List Oper} (h : DStep P md ops Q S p a0 i o) (hr : DSteps P md ops Q S p a0 (i + 1) r) : DSteps P md ops Q S p a0 i (o :: r) := ⟨h, hr⟩
theorem DSteps.nil {S : (Nat → Bool) → World → Prop} {p : Nat → Value → World → Prop} {a0 : Act} {i : Nat} : DSteps P md ops Q S p a0 i [] := trivial

theorem set_done (listed : Array Bool) (i : Nat) (hi : i < listed.size) : (fun j => (listed.setIfInBounds i true).getD j false) = fun j => listed.getD j false || j == i := by
  funext j
  simp only [Array.getD_eq_getD_getElem?, Array.getElem?_setIfInBounds]
  by_cases h : i = j
  · subst h; simp [hi]
  · rw [if_neg h]
    have : (j == i) = false := by simp; omega
    rw [this, Bool.or_false]

theorem wp_region_done {id : Nat} {a0 : Act} {w0 : World} (S : (Nat → Bool) → World → Prop) (p : Nat → Value → World → Prop) (hm : P.follows .mixedOrders = true) (hap : apartB ops a0.tmps.size = true) (hfw : forwardB .any ops = true)
    (hS : S (fun _ => false) w0.drew) (hs : DSteps P .any ops Q S p a0 0 ops.toList)
    (hd : ∀ D a w, (∀ j, j < ops.size → D j = true) → S D w → Like ops a0 a → (∀ j k, slotB ops j k = true → p j (a.tmps.getD k undef) w) → (∀ j, j < ops.size → ∃ v, p j v w) → Q .normal a w) : (Code.region id ops true).wp P Q a0 w0 := by
  have hdst : ∀ (i : Nat) (o : Oper) (k : Nat), ops[i]? = some o → o.dst = some k → k < a0.tmps.size ∧ ∀ (j : Nat) (oj : Oper), ops[j]? = some oj → oj.dst = some k → i = j := by
    intro i o k ho hk
    have hi := (Array.getElem?_eq_some_iff.1 ho).1
    have h1 := List.all_eq_true.1 hap i (List.mem_range.2 hi)
    have h2 : ops.getD i default = o := by simp [Array.getD_eq_getD_getElem?, ho]
    rw [h2, hk] at h1
    simp only [Bool.and_eq_true, decide_eq_true_eq] at h1
    refine ⟨h1.1, fun j oj hj hjk => ?_⟩
    have hj' := (Array.getElem?_eq_some_iff.1 hj).1
    have h3 := List.all_eq_true.1 h1.2 j (List.mem_range.2 hj')
    have h4 : ops.getD j default = oj := by simp [Array.getD_eq_getD_getElem?, hj]
    rw [h4, hjk] at h3
    simpa using h3
  refine wp_region_any hm ?_
  refine wpAny_inv (fun listed a w => listed.size = ops.size ∧ S (fun j => listed.getD j false) w ∧ (∀ j k, listed.getD j false = true → awaits .any ops j k = true → listed.getD k false = true) ∧ Like ops a0 a ∧ (∀ j, listed.getD j false = true → ∃ v, p j v w) ∧ ∀ j k, listed.getD j false = true → slotB ops j k = true → p j (a.tmps.getD k undef) w) ?_ ?_ _ _ _ _ ?_ ⟨by simp, by rw [show (fun j => (Array.replicate ops.size false).getD j false) = fun _ => false from funext fun j => by simp only [Array.getD_eq_getD_getElem?, Array.getElem?_replicate]; split <;> rfl]; exact hS, ?_, ⟨rfl, rfl, fun _ _ => rfl⟩, ?_, ?_⟩
  · rintro listed a w i ⟨hz, hSw, hC, hL, hE, hP⟩ hi
    obtain ⟨hjun, o, ho, hall⟩ := mem_ready.1 hi
    have hilt := (Array.getElem?_eq_some_iff.1 ho).1
    have hin : listed.getD i false = false := by
      have hi2 : i < listed.size := by omega
      simpa [Array.getD_eq_getD_getElem?, hi2] using hjun
    have hw8 : ∀ j, waitsB .any o j = true → listed.getD j false = true := fun j hj => by
      unfold waitsB at hj
      obtain ⟨e, he, h2⟩ := Array.any_eq_true'.1 hj
      simp only [Bool.and_eq_true, beq_iff_eq] at h2
      have := hall e he h2.2
      rw [h2.1] at this
      exact this
    have hst := DSteps.get ops.toList 0 hs i o (by simpa using ho)
    rw [Nat.zero_add] at hst
    obtain ⟨hw, hx⟩ := hst (fun j => listed.getD j false) a w hin (fun j hj => by
      cases hl : listed.getD j false with
      | false => rfl
      | true => have := hC j i hl hj; rw [hin] at this; cases this) hw8 hSw hL (fun j k hj hk => hP j k (hw8 j hj) hk)
    unfold wpOp
    simp only [ho, hw, if_true]
    refine .inl (Oper.wp_mono ?_ hx)
    rintro a' w' ⟨v, rfl, hS', hR', hpv⟩
    refine ⟨by simpa using hz, by rw [set_done listed i (by omega)]; exact hS', ?_, ⟨?_, ?_, fun k hk => ?_⟩, fun j hj => ?_, fun j k hj hk => ?_⟩
    · intro j k hj hk
      have hd1 := congrFun (set_done listed i (by omega))
      rw [hd1] at hj ⊢
      rw [Bool.or_eq_true] at hj ⊢
      left
      rcases hj with hj | hj
      · exact hC j k hj hk
      · have : j = i := by simpa using hj
        subst this
        unfold awaits at hk
        rw [ho] at hk
        exact hw8 k hk
    · cases h : o.dst <;> exact hL.defers
    · cases h : o.dst
      · exact hL.size
      · simp only [Act.put, Array.size_setIfInBounds]; exact hL.size
    · cases h : o.dst with
      | none => exact hL.far k hk
      | some d =>
        have hne : d ≠ k := fun e => by
          subst e
          unfold outside at hk
          have := Array.all_eq_true.1 hk i hilt
          rw [(Array.getElem?_eq_some_iff.1 ho).2, h] at this
          simp at this
        simp only [Act.put, Array.getD_eq_getD_getElem?, Array.getElem?_setIfInBounds, if_neg hne]
        have := hL.far k hk
        simpa only [Array.getD_eq_getD_getElem?] using this
    · by_cases hji : j = i
      · subst hji; exact ⟨v, hpv⟩
      · have hjl : listed.getD j false = true := by
          simp only [Array.getD_eq_getD_getElem?, Array.getElem?_setIfInBounds, if_neg (Ne.symm hji)] at hj ⊢
          exact hj
        obtain ⟨u, hu⟩ := hE j hjl
        exact ⟨u, hR' j _ hjl hu⟩
    · obtain ⟨oj, hoj, hjk⟩ : ∃ oj, ops[j]? = some oj ∧ oj.dst = some k := by
        unfold slotB at hk
        cases h : ops[j]? with
        | none => rw [h] at hk; cases hk
        | some oj => rw [h] at hk; exact ⟨oj, rfl, by simpa using hk⟩
      by_cases hji : j = i
      · subst hji
        rw [hoj] at ho
        cases ho
        have hkz := (hdst j _ k hoj hjk).1
        rw [hjk]
        have : (a.put (some k) v).tmps.getD k undef = v := by
          have : k < a.tmps.size := by rw [hL.size]; exact hkz
          simp [Act.put, Array.getD_eq_getD_getElem?, this]
        rw [this]
        exact hpv
      · have hjl : listed.getD j false = true := by
          simp only [Array.getD_eq_getD_getElem?, Array.getElem?_setIfInBounds, if_neg (Ne.symm hji)] at hj ⊢
          exact hj
        have h1 := hR' j _ hjl (hP j k hjl hk)
        cases h : o.dst with
        | none => exact h1
        | some d =>
          have hne : d ≠ k := fun e => by
            subst e
            exact hji ((hdst i o d ho h).2 j oj hoj hjk).symm
          simp only [Act.put, Array.getD_eq_getD_getElem?, Array.getElem?_setIfInBounds, if_neg hne] at h1 ⊢
          exact h1
  · rintro listed a w ⟨hz, hSw, hC, hL, hE, hP⟩ hr
    have hall : ∀ n j, j < n → j < ops.size → listed.getD j false = true := by
      intro n
      induction n with
      | zero => intro j h; omega
      | succ n ih =>
        intro j hjn hj
        cases hl : listed.getD j true with
        | true =>
          have : j < listed.size := by omega
          simpa [Array.getD_eq_getD_getElem?, this] using hl
        | false =>
          exfalso
          have hmem : j ∈ Region.ready .any ops listed := mem_ready.2 ⟨hl, ops[j], by simp [hj], fun e he hb => by
            have h1 := List.all_eq_true.1 hfw j (List.mem_range.2 hj)
            have h2 : ops.getD j default = ops[j] := by simp [Array.getD_eq_getD_getElem?, hj]
            rw [h2] at h1
            have h3 := Array.all_eq_true_iff_forall_mem.1 h1 e he
            rw [hb] at h3
            simp at h3
            exact ih e.on (by omega) (by omega)⟩
          rw [hr] at hmem
          cases hmem
    refine hd _ a w (fun j hj => hall (j + 1) j (by omega) hj) hSw hL (fun j k hk => hP j k (hall (j + 1) j (by omega) ?_) hk) (fun j hj => hE j (hall (j + 1) j (by omega) hj))
    unfold slotB at hk
    cases h : ops[j]? with
    | none => rw [h] at hk; cases hk
    | some oj => exact (Array.getElem?_eq_some_iff.1 h).1
  · unfold unlisted
    exact Nat.le_trans (List.length_filter_le _ _) (by simp)
  · intro j k hj
    simp only [Array.getD_eq_getD_getElem?, Array.getElem?_replicate] at hj
    split at hj <;> simp at hj
  · intro j hj
    simp only [Array.getD_eq_getD_getElem?, Array.getElem?_replicate] at hj
    split at hj <;> simp at hj
  · intro j k hj
    simp only [Array.getD_eq_getD_getElem?, Array.getElem?_replicate] at hj
    split at hj <;> simp at hj
end
end Go.Kt
namespace Go.Kt
open Go Go.RowKit Go.Lib
variable {P : Program}
end Go.Kt
namespace Go.Kt
open Go Go.RowKit
section
variable {P : Program}
end
structure FldR where
 g : Nat
 w : World
 kv : Value
 E : TypeId
 sz : Nat
 n : Nat
 m : Nat
 xs : List Value
 ys : List Value
 T : TypeId
 CS : Value → Array Value
 bs : Array Value
 ia : Nat
 js : Nat
 ib : Nat
 val : Nat → Option Value
variable {F : FldR}
def FldR.Row (F : FldR) (v : Value) (W : World) : Prop :=
 ∃ ao ln cp, v = .slice ao ln cp ∧ OwnS (fun b => (F.kv.ownBlock = some b ∨ F.w.heap.size ≤ b) ∧ b ≠ F.g) F.E F.sz v F.m F.ys W
theorem FldR.Row.keep {v : Value} {A B : World} {X : Nat → Prop} (h : F.Row v A) (hk : Keep X A B) (hX : ∀ b, X b → b = F.g) : F.Row v B := by
 obtain ⟨ao, ln, cp, e, ho⟩ := h
 exact ⟨ao, ln, cp, e, ho.keep hk (fun b hb hy => hy.2 (hX b hb))⟩
theorem FldR.Row.store {v u : Value} {A : World} {k : Nat} (h : F.Row v A) : F.Row v (A.setCell ⟨F.g, k, none⟩ u) :=
 h.keep (X := fun b => b = F.g) (Keep.setCell (X := fun b => b = F.g) (Keep.refl _ A) (p := ⟨F.g, k, none⟩) rfl u) (fun _ h => h)
theorem FldR.row_of {v' : Value} {ln : Nat} {W Y : World} (hz : F.w.heap.size ≤ W.heap.size) (hg : F.g < F.w.heap.size) (hkg : F.kv.ownBlock ≠ some F.g) (ho : OwnS (fun b => F.kv.ownBlock = some b ∨ W.heap.size ≤ b) F.E F.sz v' ln F.ys Y) (hm : ln = F.m) : F.Row v' Y := by
 subst hm
 have hY : OwnS (fun b => (F.kv.ownBlock = some b ∨ F.w.heap.size ≤ b) ∧ b ≠ F.g) F.E F.sz v' F.m F.ys Y := ho.weaken (by
  rintro b (h | h)
  ·exact ⟨.inl h, fun e => hkg (e ▸ h)⟩
  ·exact ⟨.inr (by omega), by omega⟩)
 rcases ho.shape with ⟨h, _⟩ | ⟨g', cap, h, _⟩
 ·exact ⟨_, _, _, h, hY⟩
 ·exact ⟨_, _, _, h, hY⟩
def FldR.S (F : FldR) (D : Nat → Bool) (X : World) : Prop :=
 (D F.js = false → X.heap[F.g]? = some (.cells (F.CS F.kv) F.T (0, 0))) ∧ (D F.ia = false → OwnS (fun b => b ≠ F.g) F.E F.sz F.kv F.n F.xs X) ∧ Keep (fun b => b = F.g ∨ F.kv.ownBlock = some b) F.w X
theorem orb_l {a b : Bool} (h : (a || b) = false) : a = false := by cases a <;> simp_all
variable {D : Nat → Bool} {X Y W : World} {i : Nat} {v u : Value}
theorem FldR.S.more (h : F.S D X) : F.S (fun j => D j || j == i) X := ⟨fun e => h.1 (orb_l e), fun e => h.2.1 (orb_l e), h.2.2⟩
theorem FldR.S.below (h : F.S D X) (hb : Below X.heap.size X Y) : F.S D Y :=
 ⟨fun e => (hb.block F.g (Array.getElem?_eq_some_iff.1 (h.1 e)).1).trans (h.1 e), fun e => (h.2.1 e).keep (X := fun _ => False) (Keep.of_all hb) (fun _ h => h.elim), h.2.2.then (hb.mono h.2.2.size)⟩
theorem FldR.S.app (h : F.S D X) (hkg : F.kv.ownBlock ≠ some F.g) (hj : D F.js = false) (hk : Keep (fun b => F.kv.ownBlock = some b) X Y) : F.S (fun j => D j || j == F.ia) Y :=
 ⟨fun _ => hk.heap (h.1 hj) hkg, fun e => by simp at e, h.2.2.trans (hk.weaken fun _ _ h => Or.inr h)⟩
theorem FldR.S.store {k : Nat} (h : F.S D X) : F.S (fun j => D j || j == F.js) (X.setCell ⟨F.g, k, none⟩ u) :=
 ⟨fun e => by simp at e, fun e => (h.2.1 (orb_l e)).keep (X := fun b => b = F.g) (Keep.setCell (X := fun b => b = F.g) (Keep.refl _ X) (p := ⟨F.g, k, none⟩) rfl u) (fun _ h1 h2 => h2 h1), h.2.2.setCell (Or.inl rfl) u⟩
def FldR.P (F : FldR) (i : Nat) (v : Value) (W : World) : Prop :=
 (∀ u, F.val i = some u → v = u) ∧ (i = F.ib → ∃ b, v = .slice (some ⟨b, 0, none⟩) 1 1 ∧ W.heap[b]? = some (.cells F.bs F.E (0, 0)) ∧ F.w.heap.size ≤ b) ∧ (i = F.ia → F.Row v W) ∧ (i = F.js → ∃ u, F.Row u W ∧ W.heap[F.g]? = some (.cells (F.CS u) F.T (0, 0)))
theorem FldR.P.is (h : F.P i v W) (e : F.val i = some u) : v = u := h.1 u e
theorem FldR.P.mk (e : F.val i = some v) (hi : i ≠ F.ib ∧ i ≠ F.ia ∧ i ≠ F.js) : F.P i v W :=
 ⟨fun u h => by rw [e] at h; exact Option.some.inj h, fun h => absurd h hi.1, fun h => absurd h hi.2.1, fun h => absurd h hi.2.2⟩
theorem FldR.P.bs (e : F.val F.ib = none) (hi : F.ib ≠ F.ia ∧ F.ib ≠ F.js) (h : ∃ b, v = .slice (some ⟨b, 0, none⟩) 1 1 ∧ W.heap[b]? = some (.cells F.bs F.E (0, 0)) ∧ F.w.heap.size ≤ b) : F.P F.ib v W :=
 ⟨fun u h => (by rw [e] at h; cases h), fun _ => h, fun h => absurd h hi.1, fun h => absurd h hi.2⟩
theorem FldR.P.row (e : F.val F.ia = none) (hi : F.ia ≠ F.ib ∧ F.ia ≠ F.js) (h : F.Row v W) : F.P F.ia v W :=
 ⟨fun u h => (by rw [e] at h; cases h), fun h => absurd h hi.1, fun _ => h, fun h => absurd h hi.2⟩
theorem FldR.P.last (e : F.val F.js = none) (hi : F.js ≠ F.ib ∧ F.js ≠ F.ia) (h : ∃ u, F.Row u W ∧ W.heap[F.g]? = some (.cells (F.CS u) F.T (0, 0))) : F.P F.js v W :=
 ⟨fun u h => (by rw [e] at h; cases h), fun h => absurd h hi.1, fun h => absurd h hi.2, fun _ => h⟩
theorem FldR.P.below (h : F.P i v W) (hb : Below W.heap.size W Y) : F.P i v Y := by
 have hk : Keep (fun _ => False) W Y := Keep.of_all hb
 refine ⟨h.1, fun e => ?_, fun e => (h.2.2.1 e).keep hk (fun _ h => h.elim), fun e => ?_⟩
 ·obtain ⟨b, h1, h2, h3⟩ := h.2.1 e
  exact ⟨b, h1, hk.heap h2 (fun h => h), h3⟩
 ·obtain ⟨u, h1, h2⟩ := h.2.2.2 e
  exact ⟨u, h1.keep hk (fun _ h => h.elim), hk.heap h2 (fun h => h)⟩
theorem FldR.P.app (h : F.P i v W) (hkv : ∀ b, F.kv.ownBlock = some b → b < F.w.heap.size) (hk : Keep (fun b => F.kv.ownBlock = some b) W Y) (ha : i ≠ F.ia) (hs : i ≠ F.js) : F.P i v Y := by
 refine ⟨h.1, fun e => ?_, fun e => absurd e ha, fun e => absurd e hs⟩
 obtain ⟨b, h1, h2, h3⟩ := h.2.1 e
 exact ⟨b, h1, hk.heap h2 (fun h => by have := hkv b h; omega), h3⟩
theorem FldR.P.store {k : Nat} (h : F.P i v W) (hgl : F.g < F.w.heap.size) (hs : i ≠ F.js) : F.P i v (W.setCell ⟨F.g, k, none⟩ u) := by
 have hk : Keep (fun b => b = F.g) W (W.setCell ⟨F.g, k, none⟩ u) := Keep.setCell (X := fun b => b = F.g) (Keep.refl _ W) (p := ⟨F.g, k, none⟩) rfl u
 refine ⟨h.1, fun e => ?_, fun e => (h.2.2.1 e).store, fun e => absurd e hs⟩
 obtain ⟨b, h1, h2, h3⟩ := h.2.1 e
 exact ⟨b, h1, hk.heap h2 (fun h => by omega), h3⟩
end Go.Kt
namespace Go.Kt
open Go Go.RowKit
structure StoR where
 w : World
 w2 : World
 js : Nat
 val : Nat → Option Value
variable {F : StoR} {D : Nat → Bool} {X Y W : World} {i : Nat} {v u : Value}
def StoR.S (F : StoR) (D : Nat → Bool) (X : World) : Prop := D F.js = false → X = F.w
def StoR.P (F : StoR) (i : Nat) (v : Value) (W : World) : Prop := (∀ u, F.val i = some u → v = u) ∧ (i = F.js → W = F.w2)
theorem StoR.S.more (h : F.S D X) : F.S (fun j => D j || j == i) X := fun e => h (orb_l e)
theorem StoR.S.store : F.S (fun j => D j || j == F.js) Y := fun e => by simp at e
theorem StoR.P.is (h : F.P i v W) (e : F.val i = some u) : v = u := h.1 u e
theorem StoR.P.mk (e : F.val i = some v) (hi : i ≠ F.js) : F.P i v W := ⟨fun u h => by rw [e] at h; exact Option.some.inj h, fun h => absurd h hi⟩
theorem StoR.P.last (e : F.val F.js = none) (h : Y = F.w2) : F.P F.js v Y := ⟨fun u h => (by rw [e] at h; cases h), fun _ => h⟩
theorem StoR.P.store (h : F.P i v W) (hi : i ≠ F.js) : F.P i v Y := ⟨h.1, fun e => absurd e hi⟩
end Go.Kt
namespace Go.Kt
open Go Go.RowKit
section
variable {P : Program} {o : Oper} {a : Act} {w w' : World}
theorem exec_slice {t : TypeId} {x : Operand} {lo hi mx : Option Operand} {u v : Value} {l h m : Option Value} (ho : o.op = .slice t x lo hi mx) (hx : a.eval x = u) (h1 : lo.map a.eval = l) (h2 : hi.map a.eval = h) (h3 : mx.map a.eval = m) (hr : (Instr.sliceAt t u l h m).run P w = .ok v w') : (execOp a.eval o).run P w = .ok (.value v) w' := by
 unfold execOp; rw [ho]; simp only [hx, h1, h2, h3]; exact run_val hr
end
end Go.Kt
namespace Go.Kt
open Go Go.RowKit Go.Maps
def rawR (v : Value) : Option (DataW Value × List MemPlace) := some (.held v, [])
def MapG (P : Program) (k : TypeId) (b n : Nat) (f : Lit → Option Value) (w : World) : Prop :=
 ∃ D : DataW Value, w.ownsMap P k rawR b n D ∧ (∀ kl, WideAt.IsKeyLit kl → Maps.has D kl = (f kl).isSome) ∧ ∀ kl v, WideAt.IsKeyLit kl → f kl = some v → ∀ z, D.atKey kl z = .held v
section
variable {P : Program} {k e t : TypeId} {b n : Nat} {f : Lit → Option Value} {w : World}
theorem MapG.lt (h : MapG P k b n f w) : b < w.heap.size := by
 obtain ⟨D, h1, _⟩ := h
 exact h1.lt
theorem MapG.of_heap {w' : World} (h : MapG P k b n f w) (hb : w'.heap[b]? = w.heap[b]?) : MapG P k b n f w' := by
 obtain ⟨D, ⟨es, clock, h1, h2⟩, h3⟩ := h
 exact ⟨D, ⟨es, clock, hb.trans h1, h2⟩, h3⟩
theorem MapG.keep {X : Nat → Prop} {w' : World} (h : MapG P k b n f w) (hk : Keep X w w') (hX : ¬ X b) : MapG P k b n f w' := h.of_heap (hk.same b h.lt hX)
theorem MapG.below {B : Nat} {w' : World} (h : MapG P k b n f w) (hk : Below B w w') (hb : b < B) : MapG P k b n f w' := h.of_heap (hk.block b hb)
theorem MapG.mono {m : Nat} (h : MapG P k b n f w) (hm : n ≤ m) : MapG P k b m f w := by
 obtain ⟨D, h1, h2⟩ := h
 exact ⟨D, h1.mono hm, h2⟩
theorem MapG.made (w : World) (P : Program) (k : TypeId) : MapG P k w.heap.size 0 (fun _ => none) (w.alloc (.map #[] 0)) :=
 ⟨.map [], World.ownsMap_made w P k rawR, fun _ _ => rfl, fun _ _ _ h => by cases h⟩
theorem MapG.look (h : MapG P k b n f w) (K : Keyed P k) (ht : P.underlying t = some (.map k e)) {z : Value} (hz : (zeroValue e).run P w = .ok z w) {key : Value} {kl : Lit} (hkey : keyOf P k key = some kl) :
 (Instr.lookup t (.map (some b)) key true).run P w = .ok (.tuple #[(f kl).getD z, .bool (f kl).isSome]) w := by
 obtain ⟨D, h1, h2, h3⟩ := h
 obtain ⟨v, ps, hr, hv⟩ := h1.look_ok K ht hz (zd := .held z) (zp := []) rfl hkey
 rw [hr, h2 kl (K.key hkey)]
 have hv' : DataW.held v = D.atKey kl (.held z) := by
  unfold rawR at hv
  exact congrArg Prod.fst (Option.some.inj hv)
 cases hf : f kl with
 | none =>
   have : Maps.has D kl = false := by rw [h2 kl (K.key hkey), hf]; rfl
   rw [atKey_of_not_has this] at hv'
   injection hv' with e1
   subst e1
   rfl
 | some u =>
   rw [h3 kl u (K.key hkey) hf] at hv'
   injection hv' with e1
   subst e1
   rfl
theorem MapG.look1 (h : MapG P k b n f w) (K : Keyed P k) (ht : P.underlying t = some (.map k e)) {z : Value} (hz : (zeroValue e).run P w = .ok z w) {key : Value} {kl : Lit} (hkey : keyOf P k key = some kl) :
 (Instr.lookup t (.map (some b)) key false).run P w = .ok ((f kl).getD z) w := by
 obtain ⟨D, h1, h2, h3⟩ := h
 obtain ⟨v, ps, hr, hv⟩ := h1.lookup K ht hz (zd := .held z) (zp := []) rfl hkey
 rw [hr]
 have hv' : DataW.held v = D.atKey kl (.held z) := by
  unfold rawR at hv
  exact congrArg Prod.fst (Option.some.inj hv)
 cases hf : f kl with
 | none =>
   have : Maps.has D kl = false := by rw [h2 kl (K.key hkey), hf]; rfl
   rw [atKey_of_not_has this] at hv'
   injection hv' with e1
   subst e1
   rfl
 | some u =>
   rw [h3 kl u (K.key hkey) hf] at hv'
   injection hv' with e1
   subst e1
   rfl
def putF (f : Lit → Option Value) (kl : Lit) (v : Value) : Lit → Option Value := fun l => if l.sameKey kl then some v else f l
theorem putF_same (f : Lit → Option Value) {kl : Lit} (v : Value) (h : WideAt.IsKeyLit kl) : putF f kl v kl = some v := if_pos (WideAt.sameKey_self h)
theorem putF_other {f : Lit → Option Value} {kl l : Lit} (v : Value) (h : l ≠ kl) : putF f kl v l = f l := if_neg (by rw [sameKey_ne h]; exact Bool.false_ne_true)
theorem MapG.put (h : MapG P k b n f w) (K : Keyed P k) (ht : P.underlying t = some (.map k e)) (hn : n < maxLen) {key val : Value} {kl : Lit} (hkey : keyOf P k key = some kl) :
 ∃ w', (Instr.mapUpdate t (.map (some b)) key val).run P w = .ok () w' ∧ MapG P k b (n + 1) (putF f kl val) w' ∧ Keep (fun x => x = b) w w' := by
 obtain ⟨D, h1, h2, h3⟩ := h
 have hm : IsMap D := h1.isMap
 obtain ⟨w', hr, h4, h5⟩ := h1.store K ht hn (val := val) (d := .held val) (ps := []) hkey rfl
 refine ⟨w', hr, ⟨D.put kl (.held val), h4, fun l hl => ?_, fun l v hl hf z => ?_⟩, ?_⟩
 ·by_cases e1 : l = kl
  ·subst e1; rw [has_put_same hm (K.key hkey), putF_same _ _ (K.key hkey)]; rfl
  ·rw [has_put_other e1, putF_other _ e1, h2 l hl]
 ·by_cases e1 : l = kl
  ·subst e1
   rw [putF_same _ _ (K.key hkey)] at hf
   rw [atKey_put_same hm (K.key hkey), Option.some.inj hf]
  ·rw [putF_other _ e1] at hf
   rw [atKey_put_other e1]
   exact h3 l v hl hf z
 ·have hg := h5.grown
  exact ⟨hg.os, hg.tape, hg.output, hg.size, fun x hx hne => hg.block x hx (fun e1 => hne (by injection e1))⟩
end
theorem wpList_put {P : Program} (w : World) {ops : Array Oper} {rest : List Oper} {o : Oper} {a : Act} {Q : Exit → Act → World → Prop}
 (hg : o.guard = none) (m x v : Operand) (t : TypeId) (hop : o.op = Op.mapUpdate t m x v)
 (k e : TypeId) (K : Keyed P k) (ht : P.underlying t = some (.map k e)) (b n : Nat) (f : Lit → Option Value)
 (hm : a.eval m = .map (some b)) (hown : MapG P k b n f w) (hn : n < maxLen) (key val : Value) (kl : Lit) (hx : a.eval x = key) (hv : a.eval v = val) (hkey : keyOf P k key = some kl)
 (hK : ∀ w', MapG P k b (n + 1) (putF f kl val) w' → Keep (fun x => x = b) w w' → wpList P ops Q rest (a.put o.dst undef) w') :
 wpList P ops Q (o :: rest) a w := by
 refine wpList_plain hg fun K' hK' => ?_
 obtain ⟨w', hrun, r1, r2⟩ := hown.put K ht hn (val := val) hkey
 unfold Oper.wp
 simp [execOp, hop, hm, hx, hv, hrun, Result.andThen]
 exact hK' _ _ (hK w' r1 r2)
end Go.Kt
namespace Go.Kt
open Go Go.RowKit Go.Maps
section
variable {P : Program} {a : Act} {o : Oper} {w w' : World}
theorem exec_mapUpdate {t : TypeId} {m k x : Operand} {u0 u1 u2 : Value} (ho : o.op = .mapUpdate t m k x) (hm : a.eval m = u0) (hk : a.eval k = u1) (hx : a.eval x = u2) (h : (Instr.mapUpdate t u0 u1 u2).run P w = .ok () w') : (execOp a.eval o).run P w = .ok .skip w' := by
 unfold execOp
 simp [ho, hm, hk, hx, h, Result.andThen]
theorem MapG.congr {k : TypeId} {b n : Nat} {f f' : Lit → Option Value} (h : MapG P k b n f w) (e : ∀ kl, WideAt.IsKeyLit kl → f kl = f' kl) : MapG P k b n f' w := by
 obtain ⟨D, h1, h2, h3⟩ := h
 exact ⟨D, h1, fun kl hk => by rw [h2 kl hk, e kl hk], fun kl v hk hf z => h3 kl v hk (by rw [e kl hk]; exact hf) z⟩
end
def ptF (vs : Nat → Option Value) : Lit → Option Value
 | .int .i32 x => if 0 ≤ x then vs x.toNat else none
 | _ => none
theorem ptF_at (vs : Nat → Option Value) (x : Nat) : ptF vs (.int .i32 (x : Int)) = vs x := by
 simp [ptF]
def updN {A : Type} (f : Nat → Option A) (x : Nat) (v : A) : Nat → Option A := fun y => if y = x then some v else f y
theorem ptF_put (vs : Nat → Option Value) (x : Nat) (v : Value) (kl : Lit) (hk : WideAt.IsKeyLit kl) : putF (ptF vs) (.int .i32 (x : Int)) v kl = ptF (updN vs x v) kl := by
 by_cases e : kl = .int .i32 (x : Int)
 ·subst e
  rw [putF_same _ _ hk, ptF_at, updN, if_pos rfl]
 ·rw [putF_other _ e]
  unfold ptF
  split
  ·rename_i y
   split
   ·rename_i hy
    rw [updN, if_neg (fun h => e (by rw [← h, Int.toNat_of_nonneg hy]))]
   ·rfl
  ·rfl
end Go.Kt
namespace Go.Kt
open Go Go.RowKit
variable {P : Program}
theorem alloc_at {A : World} {o : Obj} {k : Nat} (hk : k = A.heap.size) : (A.alloc o).heap[k]? = some o := by rw [hk]; exact World.alloc_heap_new A o
theorem alloc_old {A : World} {o x : Obj} {k : Nat} (h : A.heap[k]? = some x) : (A.alloc o).heap[k]? = some x := ((Keep.refl (fun _ => False) A).alloc o).heap h (fun h => h)
theorem set_at {A : World} {k : Nat} {v u : Value} {t : TypeId} {fr : Nat × Nat} (h : A.heap[k]? = some (.cells #[v] t fr)) : (A.setCell ⟨k, 0, none⟩ u).heap[k]? = some (.cells #[u] t fr) := by
 simp [World.setCell, Array.getElem?_modify, h]
theorem set_old {A : World} {j k : Nat} {o : Nat} {x : Obj} {u : Value} (h : A.heap[j]? = some x) (hne : j ≠ k) : (A.setCell ⟨k, o, none⟩ u).heap[j]? = some x :=
 ((Keep.refl (fun b => b = k) A).setCell (p := ⟨k, o, none⟩) rfl u).heap h hne
theorem cell_one {A : World} {k : Nat} {v : Value} {t : TypeId} {fr : Nat × Nat} (h : A.heap[k]? = some (.cells #[v] t fr)) : A.cell? ⟨k, 0, none⟩ = some v := by
 simp [World.cell?, h]
theorem frozen_one {A : World} {k : Nat} {v : Value} {t : TypeId} (h : A.heap[k]? = some (.cells #[v] t (0, 0))) : A.frozen? ⟨k, 0, none⟩ = false := by
 simp [World.frozen?, h]
end Go.Kt
namespace Go.Kt.Os
open Go Go.RowKit Go.Kt Go.Sort
theorem ltI_t {x y : Int} : ltInt x y = true ↔ x < y := by simp [ltInt]
theorem ltI_f {x y : Int} : ltInt x y = false ↔ y ≤ x := by simp [ltInt]
structure PWay (a b : Nat) (d : Array Int) (a' b' : Nat) (dk : Array Int) : Prop where
 lo : a ≤ a'
 mid : a' ≤ b'
 hi : b' ≤ b
 all : b ≤ d.size
 perm : PermIn a b d dk
 under : Sort.Below ltInt a' b' dk
 fin : ∀ d4, PermIn a' b' dk d4 → SortedIn ltInt a' b' d4 → SortedIn ltInt a b d4
section
variable {a b a' b' m : Nat} {d dk d5 d6 : Array Int}
theorem PWay.size (h : PWay a b d a' b' dk) : dk.size = d.size := h.perm.1
theorem PWay.start (hab : a ≤ b) (hb : b ≤ d.size) (h : Sort.Below ltInt a b d) : PWay a b d a b d := ⟨Nat.le_refl _, hab, Nat.le_refl _, hb, permIn_refl _ _ _, h, fun _ _ h => h⟩
theorem PWay.wide (h : PWay a b d a' b' dk) (k : PermIn a' b' dk d5) : PermIn a b d d5 :=
 permIn_trans _ _ _ _ _ h.perm (permIn_mono _ _ _ _ _ _ h.lo h.hi (by rw [h.size]; exact h.all) k)
theorem PWay.done (h : PWay a b d a' b' dk) (k : PermIn a' b' dk d5) (s : SortedIn ltInt a' b' d5) : PermIn a b d d5 ∧ SortedIn ltInt a b d5 := ⟨h.wide k, h.fin _ k s⟩
theorem PWay.turn (h : PWay a b d a' b' dk) (k : PermIn a' b' dk d5) : PWay a b d a' b' d5 :=
 ⟨h.lo, h.mid, h.hi, h.all, h.wide k, h.under.permA permIn_all (by rw [h.size]; have := h.hi; have := h.all; omega) k, fun d4 h1 h2 => h.fin d4 (permIn_trans _ _ _ _ _ k h1) h2⟩
theorem pget (h : PermIn a b d d5) {i : Nat} (hi : i < a ∨ b ≤ i) : d5[i]! = d[i]! := h.2.1 i hi
theorem PWay.equal (h : PWay a b d a' b' dk) (p : Int) (h0 : ∀ i, a' ≤ i → i < b' → ltInt dk[i]! p = false) (k : PermIn a' b' dk d5) (hm : a' < m) (hm' : m ≤ b')
 (h1 : ∀ i, a' ≤ i → i < m → ltInt p d5[i]! = false) (h2 : ∀ i, m ≤ i → i < b' → ltInt p d5[i]! = true) : PWay a b d m b' d5 := by
 have hb' : b' ≤ dk.size := by rw [h.size]; have := h.hi; have := h.all; omega
 have hp := permIn_all dk d5 a' b' (fun x => p ≤ x) hb' k (fun i h3 h4 => ltI_f.1 (h0 i h3 h4))
 refine ⟨by have := h.lo; omega, hm', h.hi, h.all, h.wide k, .inr (fun i h3 h4 => ?_), fun d4 h3 h4 => ?_⟩
 ·have e1 := ltI_t.1 (h2 i h3 h4)
  have e2 := ltI_f.1 (h1 (m - 1) (by omega) (by omega))
  exact ltI_f.2 (by omega)
 ·refine h.fin d4 (permIn_trans _ _ _ _ _ k (permIn_mono _ _ _ _ _ _ (by omega) (Nat.le_refl _) (by rw [k.1]; exact hb') h3)) (fun i j hi hij hj => ?_)
  have hq := permIn_all d5 d4 m b' (fun x => p < x) (by rw [k.1]; exact hb') h3 (fun i h5 h6 => ltI_t.1 (h2 i h5 h6))
  rcases Nat.lt_or_ge j m with hjm | hjm
  ·rw [pget h3 (.inl hjm), pget h3 (.inl (by omega))]
   have e1 := ltI_f.1 (h1 i hi (by omega))
   have e2 := hp j (by omega) hj
   exact ltI_f.2 (by omega)
  ·rcases Nat.lt_or_ge i m with him | him
   ·rw [pget h3 (.inl him)]
    have e1 := ltI_f.1 (h1 i hi him)
    have e2 := hq j hjm hj
    exact ltI_f.2 (by omega)
   ·exact h4 i j him hij hj
structure Parted (a' b' m : Nat) (d5 : Array Int) : Prop where
 le : a' ≤ m
 lt : m < b'
 less : ∀ i, a' ≤ i → i < m → ltInt d5[i]! d5[m]! = true
 more : ∀ i, m < i → i < b' → ltInt d5[i]! d5[m]! = false
theorem PWay.belowL (h : PWay a b d a' b' d5) (k : Parted a' b' m d5) : Sort.Below ltInt a' m d5 := by
 rcases h.under with e | e
 ·exact .inl e
 ·exact .inr fun i h1 h2 => e i h1 (by have := k.lt; omega)
theorem PWay.belowR (k : Parted a' b' m d5) : Sort.Below ltInt (m + 1) b' d5 := .inr fun i h1 h2 => k.more i (by omega) h2
theorem PWay.left (h : PWay a b d a' b' d5) (k : Parted a' b' m d5) (h1 : PermIn a' m d5 d6) (h2 : SortedIn ltInt a' m d6) : PWay a b d (m + 1) b' d6 := by
 have hs : b' ≤ d5.size := by rw [h.size]; have := h.hi; have := h.all; omega
 have hw : PermIn a' b' d5 d6 := permIn_mono _ _ _ _ _ _ (Nat.le_refl _) (by have := k.lt; omega) hs h1
 have hl := permIn_all d5 d6 a' m (fun x => x < d5[m]!) (by have := k.lt; omega) h1 (fun i h3 h4 => ltI_t.1 (k.less i h3 h4))
 have hm6 : d6[m]! = d5[m]! := pget h1 (.inr (Nat.le_refl _))
 refine ⟨by have := h.lo; have := k.le; omega, k.lt, h.hi, h.all, h.wide hw, .inr (fun i h3 h4 => ?_), fun d4 h3 h4 => ?_⟩
 ·rw [Nat.add_sub_cancel, hm6, pget h1 (.inr (by omega))]
  exact k.more i (by omega) h4
 ·have hmr := permIn_all d6 d4 (m + 1) b' (fun x => d5[m]! ≤ x) (by rw [h1.1]; exact hs) h3 (fun i h5 h6 => by rw [pget h1 (.inr (by omega))]; exact ltI_f.1 (k.more i (by omega) h6))
  refine h.fin d4 (permIn_trans _ _ _ _ _ hw (permIn_mono _ _ _ _ _ _ (by have := k.le; omega) (Nat.le_refl _) (by rw [h1.1]; exact hs) h3)) (fun i j hi hij hj => ?_)
  have eL : ∀ t, t < m + 1 → d4[t]! = d6[t]! := fun t ht => pget h3 (.inl ht)
  rcases Nat.lt_trichotomy j m with hjm | hjm | hjm
  ·rw [eL j (by omega), eL i (by omega)]; exact h2 i j hi hij hjm
  ·subst hjm
   rw [eL j (by omega), eL i (by omega), hm6]
   have := hl i hi hij
   exact ltI_f.2 (by omega)
  ·have ej := hmr j (by omega) hj
   rcases Nat.lt_trichotomy i m with him | him | him
   ·rw [eL i (by omega)]
    have := hl i hi him
    exact ltI_f.2 (by omega)
   ·subst him
    rw [eL i (by omega), hm6]
    exact ltI_f.2 (by omega)
   ·exact h4 i j (by omega) hij hj
theorem PWay.right (h : PWay a b d a' b' d5) (k : Parted a' b' m d5) (h1 : PermIn (m + 1) b' d5 d6) (h2 : SortedIn ltInt (m + 1) b' d6) : PWay a b d a' m d6 := by
 have hs : b' ≤ d5.size := by rw [h.size]; have := h.hi; have := h.all; omega
 have hw : PermIn a' b' d5 d6 := permIn_mono _ _ _ _ _ _ (by have := k.le; omega) (Nat.le_refl _) hs h1
 have hr := permIn_all d5 d6 (m + 1) b' (fun x => d5[m]! ≤ x) hs h1 (fun i h3 h4 => ltI_f.1 (k.more i (by omega) h4))
 have hm6 : d6[m]! = d5[m]! := pget h1 (.inl (by omega))
 refine ⟨h.lo, k.le, by have := h.hi; have := k.lt; omega, h.all, h.wide hw, ?_, fun d4 h3 h4 => ?_⟩
 ·rcases h.belowL k with e | e
  ·exact .inl e
  ·refine .inr fun i h3 h4 => ?_
   rw [pget h1 (.inl (by omega)), pget h1 (.inl (by omega))]
   exact e i h3 h4
 ·have hl := permIn_all d6 d4 a' m (fun x => x < d5[m]!) (by rw [h1.1]; have := k.lt; omega) h3 (fun i h5 h6 => by rw [pget h1 (.inl (by omega))]; exact ltI_t.1 (k.less i h5 h6))
  refine h.fin d4 (permIn_trans _ _ _ _ _ hw (permIn_mono _ _ _ _ _ _ (Nat.le_refl _) (by have := k.lt; omega) (by rw [h1.1]; exact hs) h3)) (fun i j hi hij hj => ?_)
  have eR : ∀ t, m ≤ t → d4[t]! = d6[t]! := fun t ht => pget h3 (.inr ht)
  rcases Nat.lt_trichotomy j m with hjm | hjm | hjm
  ·exact h4 i j hi hij hjm
  ·subst hjm
   rw [eR j (Nat.le_refl _), hm6]
   have := hl i hi hij
   exact ltI_f.2 (by omega)
  ·rw [eR j (by omega)]
   have ej := hr j (by omega) hj
   rcases Nat.lt_trichotomy i m with him | him | him
   ·have := hl i hi him
    exact ltI_f.2 (by omega)
   ·subst him
    rw [eR i (Nat.le_refl _), hm6]
    exact ltI_f.2 (by omega)
   ·rw [eR i (by omega)]
    exact h2 i j (by omega) hij hj
end
end Go.Kt.Os
