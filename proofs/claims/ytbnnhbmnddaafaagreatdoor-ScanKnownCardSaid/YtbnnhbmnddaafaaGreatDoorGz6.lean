/- Parts of the proof of what the last text says. -/
import Derived.OrdersHeld
import Derived.WalkKit
import Derived.Test.YtbnnhbmnddaafaaGreatDoorGz5
import Derived.Deep.AppendLies
/- What is the same of any program: a drawn region is gone through operation by operation, not order by order: each operation leaves in its slot what it is said to leave, whatever has come up ahead of it. -/
namespace Go.Kt
open Go

section
variable {P : Program} {ops : Array Oper} {Q : Exit → Act → World → Prop} {md : Region.Mode}

def outside (ops : Array Oper) (k : Nat) : Bool := ops.all fun o => o.dst != some k
def apartB (ops : Array Oper) (n : Nat) : Bool :=
  (List.range ops.size).all fun i => match (ops.getD i default).dst with
    | none => true
    | some k => decide (k < n) && (List.range ops.size).all fun j => i == j || (ops.getD j default).dst != some k
def forwardB (md : Region.Mode) (ops : Array Oper) : Bool :=
  (List.range ops.size).all fun i => (ops.getD i default).after.all fun e => !Region.binds md e || decide (e.on < i)
def waitsB (md : Region.Mode) (o : Oper) (j : Nat) : Bool := o.after.any fun e => e.on == j && Region.binds md e
def slotB (ops : Array Oper) (j k : Nat) : Bool := match ops[j]? with | some o => o.dst == some k | none => false

structure Like (ops : Array Oper) (a0 a : Act) : Prop where
  defers : a.defers = a0.defers
  size : a.tmps.size = a0.tmps.size
  far : ∀ k, outside ops k = true → a.tmps.getD k undef = a0.tmps.getD k undef

def SlotStep (P : Program) (md : Region.Mode) (ops : Array Oper) (Q : Exit → Act → World → Prop) (S : World → Prop) (R : World → World → Prop) (p : Nat → Value → World → Prop) (a0 : Act) (i : Nat) (o : Oper) : Prop :=
  ∀ a w, S w → Like ops a0 a → (∀ j k, waitsB md o j = true → slotB ops j k = true → p j (a.tmps.getD k undef) w) →
    Region.wanted o (yielded ops a.tmps) = true ∧ o.wp P a w (fun a' w' => ∃ v, a' = a.put o.dst v ∧ S w' ∧ R w w' ∧ p i v w') Q
def SlotSteps (P : Program) (md : Region.Mode) (ops : Array Oper) (Q : Exit → Act → World → Prop) (S : World → Prop) (R : World → World → Prop) (p : Nat → Value → World → Prop) (a0 : Act) : Nat → List Oper → Prop
  | _, [] => True
  | i, o :: r => SlotStep P md ops Q S R p a0 i o ∧ SlotSteps P md ops Q S R p a0 (i + 1) r
theorem SlotSteps.get {S : World → Prop} {R : World → World → Prop} {p : Nat → Value → World → Prop} {a0 : Act} : ∀ (l : List Oper) (i : Nat), SlotSteps P md ops Q S R p a0 i l → ∀ j o, l[j]? = some o → SlotStep P md ops Q S R p a0 (i + j) o
  | [], _, _, j, o, h => by simp at h
  | x :: r, i, hs, 0, o, h => by simp at h; subst h; exact hs.1
  | x :: r, i, hs, j + 1, o, h => by
    have := SlotSteps.get r (i + 1) hs.2 j o (by simpa using h)
    rw [show i + (j + 1) = i + 1 + j by omega]; exact this

def unlisted (listed : Array Bool) (n : Nat) : Nat := ((List.range n).filter fun i => !listed.getD i true).length
theorem filter_set_lt (listed : Array Bool) (i : Nat) (h : listed.getD i true = false) : ∀ (l : List Nat), i ∈ l →
    (l.filter fun j => !(listed.setIfInBounds i true).getD j true).length < (l.filter fun j => !listed.getD j true).length := by
  have hi : i < listed.size := by
    rcases Nat.lt_or_ge i listed.size with h' | h'
    · exact h'
    · simp [Array.getD, Nat.not_lt.2 h'] at h
  have hle : ∀ l : List Nat, (l.filter fun j => !(listed.setIfInBounds i true).getD j true).length ≤ (l.filter fun j => !listed.getD j true).length := by
    intro l
    induction l with
    | nil => simp
    | cons x r ih =>
      by_cases hx : x = i
      · subst hx
        have h1 : (listed.setIfInBounds x true).getD x true = true := by simp [Array.getD, hi]
        simp only [List.filter_cons, h1, h, Bool.not_true, Bool.not_false, if_true, Bool.false_eq_true, if_false, List.length_cons]
        omega
      · have h1 : (listed.setIfInBounds i true).getD x true = listed.getD x true := by
          simp only [Array.getD_eq_getD_getElem?, Array.getElem?_setIfInBounds, if_neg (Ne.symm hx)]
        simp only [List.filter_cons, h1]
        split
        · simp only [List.length_cons]; omega
        · exact ih
  intro l
  induction l with
  | nil => intro hm; cases hm
  | cons x r ih =>
    intro hm
    by_cases hx : x = i
    · subst hx
      have h1 : (listed.setIfInBounds x true).getD x true = true := by simp [Array.getD, hi]
      have := hle r
      simp only [List.filter_cons, h1, h, Bool.not_true, Bool.not_false, if_true, Bool.false_eq_true, if_false, List.length_cons]
      omega
    · have h1 : (listed.setIfInBounds i true).getD x true = listed.getD x true := by
        simp only [Array.getD_eq_getD_getElem?, Array.getElem?_setIfInBounds, if_neg (Ne.symm hx)]
      have hm' : i ∈ r := by
        rcases List.mem_cons.1 hm with h | h
        · exact absurd h.symm hx
        · exact h
      have := ih hm'
      simp only [List.filter_cons, h1]
      split
      · simp only [List.length_cons]; omega
      · exact this

theorem wpAny_inv (I : Array Bool → Act → World → Prop)
    (step : ∀ listed a w i, I listed a w → i ∈ Region.ready md ops listed → wpOp P ops Q i (I (listed.setIfInBounds i true)) a w)
    (done : ∀ listed a w, I listed a w → Region.ready md ops listed = [] → Q .normal a w) :
    ∀ fuel listed a w, unlisted listed ops.size ≤ fuel → I listed a w → wpAny P md ops Q fuel listed a w := by
  intro fuel
  induction fuel with
  | zero =>
    intro listed a w hf hI
    have hr : Region.ready md ops listed = [] := by
      rcases List.eq_nil_or_concat (Region.ready md ops listed) with h | ⟨l, i, h⟩
      · exact h
      · have hi : i ∈ Region.ready md ops listed := by rw [h]; simp
        obtain ⟨h1, o, ho, _⟩ := mem_ready.1 hi
        have hm : i ∈ (List.range ops.size).filter fun i => !listed.getD i true := by
          rw [List.mem_filter]
          exact ⟨List.mem_range.2 (Array.getElem?_eq_some_iff.1 ho).1, by rw [h1]; rfl⟩
        have := List.length_pos_of_mem hm
        unfold unlisted at hf
        omega
    exact ⟨hr, done _ _ _ hI hr⟩
  | succ fuel ih =>
    intro listed a w hf hI
    refine ⟨done _ _ _ hI, fun i hi => ?_⟩
    obtain ⟨h1, o, ho, _⟩ := mem_ready.1 hi
    have hlt := filter_set_lt listed i h1 (List.range ops.size) (List.mem_range.2 (Array.getElem?_eq_some_iff.1 ho).1)
    refine wpOp_mono (fun a' w' h' => ih _ a' w' ?_ h') (step listed a w i hI hi)
    unfold unlisted at hf ⊢
    omega

end
end Go.Kt
namespace Go.Kt
open Go
section
variable {P : Program} {ops : Array Oper} {Q : Exit → Act → World → Prop}
theorem SlotSteps.cons {S : World → Prop} {R : World → World → Prop} {p : Nat → Value → World → Prop} {a0 : Act} {md : Region.Mode} {i : Nat} {o : Oper} {r : List Oper}
    (h : SlotStep P md ops Q S R p a0 i o) (hr : SlotSteps P md ops Q S R p a0 (i + 1) r) : SlotSteps P md ops Q S R p a0 i (o :: r) := ⟨h, hr⟩
theorem SlotSteps.nil {S : World → Prop} {R : World → World → Prop} {p : Nat → Value → World → Prop} {a0 : Act} {md : Region.Mode} {i : Nat} : SlotSteps P md ops Q S R p a0 i [] := trivial
theorem wanted_true {o : Oper} {a : Act} {j : Nat} {b : Bool} (k : Nat) (hg : o.guard = some (j, b)) (hk : slotB ops j k = true) (h : a.tmps.getD k undef = .bool b) : Region.wanted o (yielded ops a.tmps) = true := by
  have h1 : a.tmps[k]? = some (.bool b) := by
    rw [Array.getD_eq_getD_getElem?] at h
    cases hx : a.tmps[k]? with
    | none => rw [hx] at h; cases h
    | some v => rw [hx] at h; simp at h; rw [h]
  unfold slotB at hk
  unfold Region.wanted yielded
  rw [hg]
  cases ho : ops[j]? with
  | none => rw [ho] at hk; cases hk
  | some oj =>
    rw [ho] at hk
    have : oj.dst = some k := by simpa using hk
    have h2 : (ops[j]?.bind fun x => x.dst).bind (fun x => a.tmps[x]?) = some (.bool b) := by rw [ho]; simp only [Option.bind_some, this, h1]
    simp only [h2]
    cases b <;> rfl
theorem wp_value {o : Oper} {a : Act} {w w' : World} {v : Value} {K : Act → World → Prop} (h : (execOp a.eval o).run P w = .ok (.value v) w') (hK : K (a.put o.dst v) w') : o.wp P a w K Q := by
  unfold Oper.wp; rw [h]; exact hK
theorem wp_enter {o : Oper} {a : Act} {w w' : World} {f : Nat} {args : Array Value} {K : Act → World → Prop} (h : (execOp a.eval o).run P w = .ok (.enter f args) w')
    (hK : Calls P f args w' fun e w'' => ∃ v, e = .returned v ∧ K (a.put o.dst v) w'') : o.wp P a w K Q := by
  unfold Oper.wp; rw [h]
  refine Calls.mono hK fun e w'' he => ?_
  obtain ⟨v, rfl, hv⟩ := he
  exact hv
theorem wp_skipped {o : Oper} {a : Act} {w w' : World} {K : Act → World → Prop} (h : (execOp a.eval o).run P w = .ok .skip w') (hK : K (a.put o.dst undef) w') : o.wp P a w K Q := by
  unfold Oper.wp; rw [h]; exact hK
theorem run_val {m : Sem Value} {w w' : World} {v : Value} (h : m.run P w = .ok v w') : (m >>= fun x => pure (Next.value x)).run P w = .ok (.value v) w' := by
  simp [h]
end
end Go.Kt
namespace Go.Kt
open Go
section
variable {P : Program} {ops : Array Oper} {Q : Exit → Act → World → Prop} {o : Oper} {a : Act} {w w' : World}
theorem exec_load {t : TypeId} {x : Operand} {u v : Value} (ho : o.op = .load t x) (hx : a.eval x = u) (h : (Instr.loadAt t u).run P w = .ok v w') : (execOp a.eval o).run P w = .ok (.value v) w' := by
  unfold execOp; rw [ho]; simp only [hx]; exact run_val h
theorem exec_binop {op : BinOp} {t ty : TypeId} {x y : Operand} {u1 u2 v : Value} (ho : o.op = .binOp op t x y ty) (hx : a.eval x = u1) (hy : a.eval y = u2) (h : (do eqGuard op t x y u1 u2; binOp op t u1 u2 : Sem Value).run P w = .ok v w') : (execOp a.eval o).run P w = .ok (.value v) w' := by
  unfold execOp; rw [ho]; simp only [hx, hy]; exact run_val h
theorem exec_move {x : Operand} {u : Value} (ho : o.op = .move x) (hx : a.eval x = u) : (execOp a.eval o).run P w = .ok (.value u) w := by
  unfold execOp; rw [ho]; simp only [hx]; rfl
theorem exec_pick {c x y : Operand} {b : Bool} {u1 u2 : Value} (ho : o.op = .pick c x y) (hc : a.eval c = .bool b) (hx : a.eval x = u1) (hy : a.eval y = u2) : (execOp a.eval o).run P w = .ok (.value (if b then u1 else u2)) w := by
  unfold execOp; rw [ho]; simp only [hc, hx, hy]; rfl
theorem exec_store {t : TypeId} {x y : Operand} {u1 u2 : Value} (ho : o.op = .store t x y) (hx : a.eval x = u1) (hy : a.eval y = u2) (h : (Instr.storeAt t u1 u2).run P w = .ok () w') : (execOp a.eval o).run P w = .ok .skip w' := by
  unfold execOp; rw [ho]; simp only [hx, hy]; simp [h]
theorem exec_call {f : FuncId} {args : Array Operand} {ats : Array TypeId} {vs : Array Value} {fn : Func} (ho : o.op = .call ⟨.value (.func f), args, ats⟩) (hx : args.map a.eval = vs) (hf : P.funcs[f]? = some fn) (hn : (fn.name == "runtime.NumGoroutine") = false) (hb : fn.body.isNone = false) : (execOp a.eval o).run P w = .ok (.enter f vs) w := by
  unfold execOp; rw [ho]; simp only [resolve, hx, Act.eval, Deferred.ofValue, invoke, callFunc]
  have h1 : ¬ fn.name = "runtime.NumGoroutine" := fun h => by rw [h] at hn; exact absurd hn (by decide)
  have h2 : ¬ fn.body = none := fun h => by rw [h] at hb; cases hb
  simp [hf, h1, h2]
end
end Go.Kt
namespace Go.Kt
open Go
section
variable {P : Program} {ops : Array Oper} {o : Oper} {a : Act} {w w' : World}
def dsts (ops : Array Oper) : List Nat := ops.toList.filterMap (·.dst)
theorem foldl_set_size (f : Nat → Value) : ∀ (ks : List Nat) (t : Array Value), (ks.foldl (fun t k => t.setIfInBounds k (f k)) t).size = t.size
  | [], _ => rfl
  | k :: ks, t => by rw [List.foldl_cons, foldl_set_size f ks]; simp
theorem foldl_set_get (f : Nat → Value) : ∀ (ks : List Nat) (t : Array Value) (i : Nat), i < t.size → (ks.foldl (fun t k => t.setIfInBounds k (f k)) t).getD i undef = if i ∈ ks then f i else t.getD i undef
  | [], t, i, _ => by simp
  | k :: ks, t, i, h => by
    rw [List.foldl_cons, foldl_set_get f ks _ i (by simpa using h)]
    by_cases h1 : i ∈ ks
    · simp [h1]
    · by_cases h2 : k = i
      · subst h2
        simp [h1, Array.getD_eq_getD_getElem?, h]
      · simp [h1, Ne.symm h2, Array.getD_eq_getD_getElem?, h2]
theorem Like.out {a0 : Act} (h : Like ops a0 a) (ks : List Nat) (hk : dsts ops = ks) : ∃ f : Nat → Value, a = ⟨ks.foldl (fun t k => t.setIfInBounds k (f k)) a0.tmps, a0.defers⟩ ∧ ∀ k, f k = a.tmps.getD k undef := by
  refine ⟨fun k => a.tmps.getD k undef, ?_, fun _ => rfl⟩
  obtain ⟨t, d⟩ := a
  obtain ⟨h1, h2, h3⟩ := h
  simp only at h1 h2 h3 ⊢
  subst h1
  congr 1
  refine Array.ext (by rw [foldl_set_size]; exact h2) fun i hi hi' => ?_
  have hlt : i < a0.tmps.size := by rw [← h2]; exact hi
  have e1 : t[i] = t.getD i undef := by simp [Array.getD_eq_getD_getElem?, hi]
  have e2 : ∀ (x : Array Value) (hx : i < x.size), x[i] = x.getD i undef := fun x hx => by simp [Array.getD_eq_getD_getElem?, hx]
  rw [e1, e2 _ hi', foldl_set_get _ _ _ _ hlt]
  by_cases hno : i ∈ ks
  · rw [if_pos hno]
  · rw [if_neg hno]
    refine h3 i ?_
    unfold outside
    rw [Array.all_eq_true_iff_forall_mem]
    intro x hx
    have : x.dst ≠ some i := fun e => hno (by
      rw [← hk]
      exact List.mem_filterMap.2 ⟨x, by simpa using hx, e⟩)
    simpa using this
theorem exec_unop {op : UnOp} {t : TypeId} {x : Operand} {u v : Value} (ho : o.op = .unOp op t x) (hx : a.eval x = u) (h : (Op.unary op u).run P w = .ok v w') : (execOp a.eval o).run P w = .ok (.value v) w' := by
  unfold execOp; rw [ho]; simp only [hx]; exact run_val h
end
end Go.Kt
/- What is the same of any program: more single operations of a drawn region. -/
namespace Go.Kt
open Go
section
variable {P : Program} {o : Oper} {a : Act} {w w' : World}
theorem exec_indexAddr {t : TypeId} {x y : Operand} {u1 u2 v : Value} (ho : o.op = .indexAddr t x y) (hx : a.eval x = u1) (hy : a.eval y = u2) (h : (Instr.indexAt t u1 u2).run P w = .ok v w') : (execOp a.eval o).run P w = .ok (.value v) w' := by
  unfold execOp; rw [ho]; simp only [hx, hy]; exact run_val h
theorem exec_fieldAddr {t : TypeId} {x : Operand} {f : Nat} {u v : Value} (ho : o.op = .fieldAddr t x f) (hx : a.eval x = u) (h : (Instr.fieldAt t u f).run P w = .ok v w') : (execOp a.eval o).run P w = .ok (.value v) w' := by
  unfold execOp; rw [ho]; simp only [hx]; exact run_val h
theorem exec_buildSlice {t : TypeId} {n : Nat} {parts : Array (Nat × Operand)} {ps : Array (Nat × Value)} {v : Value} (ho : o.op = .buildSlice t n parts) (hp : parts.map (fun p => (p.1, a.eval p.2)) = ps) (h : (Instr.buildSlice t n ps).run P w = .ok v w') : (execOp a.eval o).run P w = .ok (.value v) w' := by
  unfold execOp; rw [ho]; simp only []; subst hp; exact run_val h
theorem exec_build {t : TypeId} {parts : Array (Nat × Operand)} {ps : Array (Nat × Value)} {v : Value} (ho : o.op = .build t parts) (hp : parts.map (fun p => (p.1, a.eval p.2)) = ps) (h : (Instr.build t ps).run P w = .ok v w') : (execOp a.eval o).run P w = .ok (.value v) w' := by
  unfold execOp; rw [ho]; simp only []; subst hp; exact run_val h
theorem exec_nilCheck {x : Operand} {p : Addr} (ho : o.op = .nilCheck x) (hx : a.eval x = .pointer (some p)) : (execOp a.eval o).run P w = .ok (.value (.pointer (some p))) w := by
  unfold execOp; rw [ho]; simp only [hx]; rfl
end
end Go.Kt
/- What is the same of any program: a drawn region operation by operation, as in K6; what holds of the world may hang on which operations are done (so a cell may be loaded and, at the end, stored). -/
namespace Go.Kt
open Go

section
variable {P : Program} {ops : Array Oper} {Q : Exit → Act → World → Prop} {md : Region.Mode}

def awaits (md : Region.Mode) (ops : Array Oper) (j i : Nat) : Bool := match ops[j]? with | some o => waitsB md o i | none => false
def DStep (P : Program) (md : Region.Mode) (ops : Array Oper) (Q : Exit → Act → World → Prop) (S : (Nat → Bool) → World → Prop) (p : Nat → Value → World → Prop) (a0 : Act) (i : Nat) (o : Oper) : Prop :=
  ∀ (D : Nat → Bool) a w, D i = false → (∀ j, awaits md ops j i = true → D j = false) → (∀ j, waitsB md o j = true → D j = true) → S D w → Like ops a0 a → (∀ j k, waitsB md o j = true → slotB ops j k = true → p j (a.tmps.getD k undef) w) →
    Region.wanted o (yielded ops a.tmps) = true ∧ o.wp P a w (fun a' w' => ∃ v, a' = a.put o.dst v ∧ S (fun j => D j || j == i) w' ∧ (∀ j u, D j = true → p j u w → p j u w') ∧ p i v w') Q
def DSteps (P : Program) (md : Region.Mode) (ops : Array Oper) (Q : Exit → Act → World → Prop) (S : (Nat → Bool) → World → Prop) (p : Nat → Value → World → Prop) (a0 : Act) : Nat → List Oper → Prop
  | _, [] => True
  | i, o :: r => DStep P md ops Q S p a0 i o ∧ DSteps P md ops Q S p a0 (i + 1) r
theorem DSteps.get {S : (Nat → Bool) → World → Prop} {p : Nat → Value → World → Prop} {a0 : Act} : ∀ (l : List Oper) (i : Nat), DSteps P md ops Q S p a0 i l → ∀ j o, l[j]? = some o → DStep P md ops Q S p a0 (i + j) o
  | [], _, _, j, o, h => by simp at h
  | x :: r, i, hs, 0, o, h => by simp at h; subst h; exact hs.1
  | x :: r, i, hs, j + 1, o, h => by
    have := DSteps.get r (i + 1) hs.2 j o (by simpa using h)
    rw [show i + (j + 1) = i + 1 + j by omega]; exact this
theorem DSteps.cons {S : (Nat → Bool) → World → Prop} {p : Nat → Value → World → Prop} {a0 : Act} {i : Nat} {o : Oper} {r : List Oper} (h : DStep P md ops Q S p a0 i o) (hr : DSteps P md ops Q S p a0 (i + 1) r) : DSteps P md ops Q S p a0 i (o :: r) := ⟨h, hr⟩
theorem DSteps.nil {S : (Nat → Bool) → World → Prop} {p : Nat → Value → World → Prop} {a0 : Act} {i : Nat} : DSteps P md ops Q S p a0 i [] := trivial

theorem set_done (listed : Array Bool) (i : Nat) (hi : i < listed.size) : (fun j => (listed.setIfInBounds i true).getD j false) = fun j => listed.getD j false || j == i := by
  funext j
  simp only [Array.getD_eq_getD_getElem?, Array.getElem?_setIfInBounds]
  by_cases h : i = j
  · subst h; simp [hi]
  · rw [if_neg h]
    have : (j == i) = false := by simp; omega
    rw [this, Bool.or_false]

theorem wp_region_done {id : Nat} {a0 : Act} {w0 : World} (S : (Nat → Bool) → World → Prop) (p : Nat → Value → World → Prop) (hm : P.follows .mixedOrders = true) (hap : apartB ops a0.tmps.size = true) (hfw : forwardB .any ops = true)
    (hS : S (fun _ => false) w0.drew) (hs : DSteps P .any ops Q S p a0 0 ops.toList)
    (hd : ∀ D a w, (∀ j, j < ops.size → D j = true) → S D w → Like ops a0 a → (∀ j k, slotB ops j k = true → p j (a.tmps.getD k undef) w) → (∀ j, j < ops.size → ∃ v, p j v w) → Q .normal a w) : (Code.region id ops true).wp P Q a0 w0 := by
  have hdst : ∀ (i : Nat) (o : Oper) (k : Nat), ops[i]? = some o → o.dst = some k → k < a0.tmps.size ∧ ∀ (j : Nat) (oj : Oper), ops[j]? = some oj → oj.dst = some k → i = j := by
    intro i o k ho hk
    have hi := (Array.getElem?_eq_some_iff.1 ho).1
    have h1 := List.all_eq_true.1 hap i (List.mem_range.2 hi)
    have h2 : ops.getD i default = o := by simp [Array.getD_eq_getD_getElem?, ho]
    rw [h2, hk] at h1
    simp only [Bool.and_eq_true, decide_eq_true_eq] at h1
    refine ⟨h1.1, fun j oj hj hjk => ?_⟩
    have hj' := (Array.getElem?_eq_some_iff.1 hj).1
    have h3 := List.all_eq_true.1 h1.2 j (List.mem_range.2 hj')
    have h4 : ops.getD j default = oj := by simp [Array.getD_eq_getD_getElem?, hj]
    rw [h4, hjk] at h3
    simpa using h3
  refine wp_region_any hm ?_
  refine wpAny_inv (fun listed a w => listed.size = ops.size ∧ S (fun j => listed.getD j false) w ∧ (∀ j k, listed.getD j false = true → awaits .any ops j k = true → listed.getD k false = true) ∧ Like ops a0 a ∧ (∀ j, listed.getD j false = true → ∃ v, p j v w) ∧ ∀ j k, listed.getD j false = true → slotB ops j k = true → p j (a.tmps.getD k undef) w) ?_ ?_ _ _ _ _ ?_ ⟨by simp, by rw [show (fun j => (Array.replicate ops.size false).getD j false) = fun _ => false from funext fun j => by simp only [Array.getD_eq_getD_getElem?, Array.getElem?_replicate]; split <;> rfl]; exact hS, ?_, ⟨rfl, rfl, fun _ _ => rfl⟩, ?_, ?_⟩
  · rintro listed a w i ⟨hz, hSw, hC, hL, hE, hP⟩ hi
    obtain ⟨hjun, o, ho, hall⟩ := mem_ready.1 hi
    have hilt := (Array.getElem?_eq_some_iff.1 ho).1
    have hin : listed.getD i false = false := by
      have hi2 : i < listed.size := by omega
      simpa [Array.getD_eq_getD_getElem?, hi2] using hjun
    have hw8 : ∀ j, waitsB .any o j = true → listed.getD j false = true := fun j hj => by
      unfold waitsB at hj
      obtain ⟨e, he, h2⟩ := Array.any_eq_true'.1 hj
      simp only [Bool.and_eq_true, beq_iff_eq] at h2
      have := hall e he h2.2
      rw [h2.1] at this
      exact this
    have hst := DSteps.get ops.toList 0 hs i o (by simpa using ho)
    rw [Nat.zero_add] at hst
    obtain ⟨hw, hx⟩ := hst (fun j => listed.getD j false) a w hin (fun j hj => by
      cases hl : listed.getD j false with
      | false => rfl
      | true => have := hC j i hl hj; rw [hin] at this; cases this) hw8 hSw hL (fun j k hj hk => hP j k (hw8 j hj) hk)
    unfold wpOp
    simp only [ho, hw, if_true]
    refine .inl (Oper.wp_mono ?_ hx)
    rintro a' w' ⟨v, rfl, hS', hR', hpv⟩
    refine ⟨by simpa using hz, by rw [set_done listed i (by omega)]; exact hS', ?_, ⟨?_, ?_, fun k hk => ?_⟩, fun j hj => ?_, fun j k hj hk => ?_⟩
    · intro j k hj hk
      have hd1 := congrFun (set_done listed i (by omega))
      rw [hd1] at hj ⊢
      rw [Bool.or_eq_true] at hj ⊢
      left
      rcases hj with hj | hj
      · exact hC j k hj hk
      · have : j = i := by simpa using hj
        subst this
        unfold awaits at hk
        rw [ho] at hk
        exact hw8 k hk
    · cases h : o.dst <;> exact hL.defers
    · cases h : o.dst
      · exact hL.size
      · simp only [Act.put, Array.size_setIfInBounds]; exact hL.size
    · cases h : o.dst with
      | none => exact hL.far k hk
      | some d =>
        have hne : d ≠ k := fun e => by
          subst e
          unfold outside at hk
          have := Array.all_eq_true.1 hk i hilt
          rw [(Array.getElem?_eq_some_iff.1 ho).2, h] at this
          simp at this
        simp only [Act.put, Array.getD_eq_getD_getElem?, Array.getElem?_setIfInBounds, if_neg hne]
        have := hL.far k hk
        simpa only [Array.getD_eq_getD_getElem?] using this
    · by_cases hji : j = i
      · subst hji; exact ⟨v, hpv⟩
      · have hjl : listed.getD j false = true := by
          simp only [Array.getD_eq_getD_getElem?, Array.getElem?_setIfInBounds, if_neg (Ne.symm hji)] at hj ⊢
          exact hj
        obtain ⟨u, hu⟩ := hE j hjl
        exact ⟨u, hR' j _ hjl hu⟩
    · obtain ⟨oj, hoj, hjk⟩ : ∃ oj, ops[j]? = some oj ∧ oj.dst = some k := by
        unfold slotB at hk
        cases h : ops[j]? with
        | none => rw [h] at hk; cases hk
        | some oj => rw [h] at hk; exact ⟨oj, rfl, by simpa using hk⟩
      by_cases hji : j = i
      · subst hji
        rw [hoj] at ho
        cases ho
        have hkz := (hdst j _ k hoj hjk).1
        rw [hjk]
        have : (a.put (some k) v).tmps.getD k undef = v := by
          have : k < a.tmps.size := by rw [hL.size]; exact hkz
          simp [Act.put, Array.getD_eq_getD_getElem?, this]
        rw [this]
        exact hpv
      · have hjl : listed.getD j false = true := by
          simp only [Array.getD_eq_getD_getElem?, Array.getElem?_setIfInBounds, if_neg (Ne.symm hji)] at hj ⊢
          exact hj
        have h1 := hR' j _ hjl (hP j k hjl hk)
        cases h : o.dst with
        | none => exact h1
        | some d =>
          have hne : d ≠ k := fun e => by
            subst e
            exact hji ((hdst i o d ho h).2 j oj hoj hjk).symm
          simp only [Act.put, Array.getD_eq_getD_getElem?, Array.getElem?_setIfInBounds, if_neg hne] at h1 ⊢
          exact h1
  · rintro listed a w ⟨hz, hSw, hC, hL, hE, hP⟩ hr
    have hall : ∀ n j, j < n → j < ops.size → listed.getD j false = true := by
      intro n
      induction n with
      | zero => intro j h; omega
      | succ n ih =>
        intro j hjn hj
        cases hl : listed.getD j true with
        | true =>
          have : j < listed.size := by omega
          simpa [Array.getD_eq_getD_getElem?, this] using hl
        | false =>
          exfalso
          have hmem : j ∈ Region.ready .any ops listed := mem_ready.2 ⟨hl, ops[j], by simp [hj], fun e he hb => by
            have h1 := List.all_eq_true.1 hfw j (List.mem_range.2 hj)
            have h2 : ops.getD j default = ops[j] := by simp [Array.getD_eq_getD_getElem?, hj]
            rw [h2] at h1
            have h3 := Array.all_eq_true_iff_forall_mem.1 h1 e he
            rw [hb] at h3
            simp at h3
            exact ih e.on (by omega) (by omega)⟩
          rw [hr] at hmem
          cases hmem
    refine hd _ a w (fun j hj => hall (j + 1) j (by omega) hj) hSw hL (fun j k hk => hP j k (hall (j + 1) j (by omega) ?_) hk) (fun j hj => hE j (hall (j + 1) j (by omega) hj))
    unfold slotB at hk
    cases h : ops[j]? with
    | none => rw [h] at hk; cases hk
    | some oj => exact (Array.getElem?_eq_some_iff.1 h).1
  · unfold unlisted
    exact Nat.le_trans (List.length_filter_le _ _) (by simp)
  · intro j k hj
    simp only [Array.getD_eq_getD_getElem?, Array.getElem?_replicate] at hj
    split at hj <;> simp at hj
  · intro j hj
    simp only [Array.getD_eq_getD_getElem?, Array.getElem?_replicate] at hj
    split at hj <;> simp at hj
  · intro j k hj
    simp only [Array.getD_eq_getD_getElem?, Array.getElem?_replicate] at hj
    split at hj <;> simp at hj
end
end Go.Kt
/- The scanner's add: a token behind the others (written by wip/tools/gen_add.py). -/
namespace Go.Proofs.YtbnnhbmnddaafaaGreatDoor
open Go Go.RowKit Go.Kt Go.Shelf
attribute [local go_sem] Oper.semAt_some

theorem tinfoTok : (Tryz.prog.info? 30).map (fun i => (i.zero, i.size, i.bytes)) = some (some (.agg #[.int .i64 0, .string ⟨#[]⟩, .int .i64 0, .int .i64 0, .int .i64 0]), 5, 48) := by kernel_rfl
theorem set_13 {W : World} {g : Nat} {s : ByteArray} {st l1 c1 i1 l2 c2 i2 l3 c3 i3 bh : Int} {tv kv u : Value} {T : TypeId} (h : W.heap[g]? = some (.cells (scC s st l1 c1 i1 l2 c2 i2 tv l3 c3 i3 bh kv) T (0, 0))) :
    (W.setCell ⟨g, 13, none⟩ u).heap[g]? = some (.cells (scC s st l1 c1 i1 l2 c2 i2 tv l3 c3 i3 bh u) T (0, 0)) := by
  have hlt := (Array.getElem?_eq_some_iff.1 h).1
  have h' : W.heap[g] = .cells (scC s st l1 c1 i1 l2 c2 i2 tv l3 c3 i3 bh kv) T (0, 0) := by rw [Array.getElem?_eq_getElem hlt] at h; exact Option.some.inj h
  simp [World.setCell, hlt, Array.getElem_modify, h']

def AddRow (g n : Nat) (w : World) (kv : Value) (l : List Value) (v : Value) (W : World) : Prop :=
  ∃ g2 cap, v = .slice (some ⟨g2, 0, none⟩) (n + 1) cap ∧ OwnS (fun b => (kv.ownBlock = some b ∨ w.heap.size ≤ b) ∧ b ≠ g) 30 5 v (n + 1) l W
theorem AddRow.keep {g n : Nat} {w : World} {kv : Value} {l : List Value} {v : Value} {A B : World} {X : Nat → Prop} (h : AddRow g n w kv l v A) (hk : Keep X A B) (hX : ∀ b, X b → b = g) : AddRow g n w kv l v B := by
  obtain ⟨g2, cap, e, ho⟩ := h
  exact ⟨g2, cap, e, ho.keep hk (fun b hb hy => hy.2 (hX b hb))⟩
theorem AddRow.store {g n : Nat} {w : World} {kv : Value} {l : List Value} {v u : Value} {A : World} {k : Nat} (h : AddRow g n w kv l v A) : AddRow g n w kv l v (A.setCell ⟨g, k, none⟩ u) :=
  h.keep (X := fun b => b = g) (Keep.setCell (X := fun b => b = g) (Keep.refl _ A) (p := ⟨g, k, none⟩) rfl u) (fun _ h => h)
def AddS (g n : Nat) (w : World) (kv : Value) (xs : List Value) (CS : Value → Array Value) (D : Nat → Bool) (X : World) : Prop :=
  (D 28 = false → X.heap[g]? = some (.cells (CS kv) 43 (0, 0))) ∧ (D 25 = false → OwnS (fun b => b ≠ g) 30 5 kv n xs X) ∧ Keep (fun b => b = g ∨ kv.ownBlock = some b) w X
section
variable {g n : Nat} {w : World} {kv : Value} {xs : List Value} {CS : Value → Array Value} {D : Nat → Bool} {X Y : World}
theorem or_l {a b : Bool} (h : (a || b) = false) : a = false := by cases a <;> simp_all
theorem AddS.more (h : AddS g n w kv xs CS D X) {i : Nat} : AddS g n w kv xs CS (fun j => D j || j == i) X := ⟨fun e => h.1 (or_l e), fun e => h.2.1 (or_l e), h.2.2⟩
theorem AddS.below (h : AddS g n w kv xs CS D X) (hb : Below X.heap.size X Y) : AddS g n w kv xs CS D Y :=
  ⟨fun e => (hb.block g (Array.getElem?_eq_some_iff.1 (h.1 e)).1).trans (h.1 e), fun e => (h.2.1 e).keep (X := fun _ => False) (Keep.of_all hb) (fun _ h => h.elim), h.2.2.then (hb.mono h.2.2.size)⟩
theorem AddS.app (h : AddS g n w kv xs CS D X) (hkg : kv.ownBlock ≠ some g) (h28 : D 28 = false) (hk : Keep (fun b => kv.ownBlock = some b) X Y) : AddS g n w kv xs CS (fun j => D j || j == 25) Y :=
  ⟨fun _ => hk.heap (h.1 h28) hkg, fun e => by simp at e, h.2.2.trans (hk.weaken fun _ _ h => Or.inr h)⟩
theorem AddS.store {u : Value} {k : Nat} (h : AddS g n w kv xs CS D X) (_h28 : D 28 = false) : AddS g n w kv xs CS (fun j => D j || j == 28) (X.setCell ⟨g, k, none⟩ u) :=
  ⟨fun e => by simp at e, fun e => (h.2.1 (or_l e)).keep (X := fun b => b = g) (Keep.setCell (X := fun b => b = g) (Keep.refl _ X) (p := ⟨g, k, none⟩) rfl u) (fun _ h1 h2 => h2 h1), h.2.2.setCell (Or.inl rfl) u⟩
end
def valA (g : Nat) (kv : Value) (kind : Int) (t : ByteArray) (l2 c2 i2 : Int) (i : Nat) : Option Value := match i with
  | 0 => some (.pointer (some ⟨g, 0, none⟩))
  | 1 => some (.pointer (some ⟨g, 0, none⟩))
  | 2 => some (.pointer (some ⟨g, 0, none⟩))
  | 3 => some (.pointer (some ⟨g, 13, none⟩))
  | 4 => some (kv)
  | 5 => some (.int .i64 kind)
  | 6 => some (.string t)
  | 7 => some (.string t)
  | 8 => some (.pointer (some ⟨g, 0, none⟩))
  | 9 => some (.pointer (some ⟨g, 0, none⟩))
  | 10 => some (.pointer (some ⟨g, 5, none⟩))
  | 11 => some (.pointer (some ⟨g, 5, none⟩))
  | 12 => some (.int .i64 l2)
  | 13 => some (.pointer (some ⟨g, 0, none⟩))
  | 14 => some (.pointer (some ⟨g, 0, none⟩))
  | 15 => some (.pointer (some ⟨g, 5, none⟩))
  | 16 => some (.pointer (some ⟨g, 6, none⟩))
  | 17 => some (.int .i64 c2)
  | 18 => some (.pointer (some ⟨g, 0, none⟩))
  | 19 => some (.pointer (some ⟨g, 0, none⟩))
  | 20 => some (.pointer (some ⟨g, 5, none⟩))
  | 21 => some (.pointer (some ⟨g, 7, none⟩))
  | 22 => some (.int .i64 i2)
  | 23 => some (.agg #[.int .i64 kind, .string t, .int .i64 l2, .int .i64 c2, .int .i64 i2])
  | 26 => some (.pointer (some ⟨g, 0, none⟩))
  | 27 => some (.pointer (some ⟨g, 13, none⟩))
  | _ => none
def AddP (g n : Nat) (w : World) (kv : Value) (xs : List Value) (kind : Int) (t : ByteArray) (l2 c2 i2 : Int) (CS : Value → Array Value) (i : Nat) (v : Value) (W : World) : Prop :=
  (∀ u, valA g kv kind t l2 c2 i2 i = some u → v = u) ∧
  (i = 24 → ∃ b, v = .slice (some ⟨b, 0, none⟩) 1 1 ∧ W.heap[b]? = some (.cells #[.int .i64 kind, .string t, .int .i64 l2, .int .i64 c2, .int .i64 i2] 30 (0, 0)) ∧ w.heap.size ≤ b) ∧
  (i = 25 → AddRow g n w kv (xs ++ [.int .i64 kind, .string t, .int .i64 l2, .int .i64 c2, .int .i64 i2]) v W) ∧
  (i = 28 → ∃ u, AddRow g n w kv (xs ++ [.int .i64 kind, .string t, .int .i64 l2, .int .i64 c2, .int .i64 i2]) u W ∧ W.heap[g]? = some (.cells (CS u) 43 (0, 0)))
section
variable {g n : Nat} {w : World} {kv : Value} {xs : List Value} {kind : Int} {t : ByteArray} {l2 c2 i2 : Int} {CS : Value → Array Value} {i : Nat} {v u : Value} {W Y : World}
theorem AddP.val (h : AddP g n w kv xs kind t l2 c2 i2 CS i v W) (e : valA g kv kind t l2 c2 i2 i = some u) : v = u := h.1 u e
theorem AddP.mk (e : valA g kv kind t l2 c2 i2 i = some v) (hi : i ≠ 24 ∧ i ≠ 25 ∧ i ≠ 28) : AddP g n w kv xs kind t l2 c2 i2 CS i v W :=
  ⟨fun u h => by rw [e] at h; exact Option.some.inj h, fun h => absurd h hi.1, fun h => absurd h hi.2.1, fun h => absurd h hi.2.2⟩
theorem AddP.bs (h : ∃ b, v = .slice (some ⟨b, 0, none⟩) 1 1 ∧ W.heap[b]? = some (.cells #[.int .i64 kind, .string t, .int .i64 l2, .int .i64 c2, .int .i64 i2] 30 (0, 0)) ∧ w.heap.size ≤ b) : AddP g n w kv xs kind t l2 c2 i2 CS 24 v W :=
  ⟨fun u h => by simp [valA] at h, fun _ => h, fun h => by omega, fun h => by omega⟩
theorem AddP.row (h : AddRow g n w kv (xs ++ [.int .i64 kind, .string t, .int .i64 l2, .int .i64 c2, .int .i64 i2]) v W) : AddP g n w kv xs kind t l2 c2 i2 CS 25 v W :=
  ⟨fun u h => by simp [valA] at h, fun h => by omega, fun _ => h, fun h => by omega⟩
theorem AddP.last (h : ∃ u, AddRow g n w kv (xs ++ [.int .i64 kind, .string t, .int .i64 l2, .int .i64 c2, .int .i64 i2]) u W ∧ W.heap[g]? = some (.cells (CS u) 43 (0, 0))) : AddP g n w kv xs kind t l2 c2 i2 CS 28 v W :=
  ⟨fun u h => by simp [valA] at h, fun h => by omega, fun h => by omega, fun _ => h⟩
theorem AddP.below (h : AddP g n w kv xs kind t l2 c2 i2 CS i v W) (hb : Below W.heap.size W Y) : AddP g n w kv xs kind t l2 c2 i2 CS i v Y := by
  have hk : Keep (fun _ => False) W Y := Keep.of_all hb
  refine ⟨h.1, fun e => ?_, fun e => (h.2.2.1 e).keep hk (fun _ h => h.elim), fun e => ?_⟩
  · obtain ⟨b, h1, h2, h3⟩ := h.2.1 e
    exact ⟨b, h1, hk.heap h2 (fun h => h), h3⟩
  · obtain ⟨u, h1, h2⟩ := h.2.2.2 e
    exact ⟨u, h1.keep hk (fun _ h => h.elim), hk.heap h2 (fun h => h)⟩
theorem AddP.app (h : AddP g n w kv xs kind t l2 c2 i2 CS i v W) (hkv : ∀ b, kv.ownBlock = some b → b < w.heap.size) (hk : Keep (fun b => kv.ownBlock = some b) W Y) (h25 : i ≠ 25) (h28 : i ≠ 28) : AddP g n w kv xs kind t l2 c2 i2 CS i v Y := by
  refine ⟨h.1, fun e => ?_, fun e => absurd e h25, fun e => absurd e h28⟩
  obtain ⟨b, h1, h2, h3⟩ := h.2.1 e
  exact ⟨b, h1, hk.heap h2 (fun h => by have := hkv b h; omega), h3⟩
theorem AddP.store {k : Nat} (h : AddP g n w kv xs kind t l2 c2 i2 CS i v W) (hgl : g < w.heap.size) (h28 : i ≠ 28) : AddP g n w kv xs kind t l2 c2 i2 CS i v (W.setCell ⟨g, k, none⟩ u) := by
  have hk : Keep (fun b => b = g) W (W.setCell ⟨g, k, none⟩ u) := Keep.setCell (X := fun b => b = g) (Keep.refl _ W) (p := ⟨g, k, none⟩) rfl u
  refine ⟨h.1, fun e => ?_, fun e => (h.2.2.1 e).store, fun e => absurd e h28⟩
  obtain ⟨b, h1, h2, h3⟩ := h.2.1 e
  exact ⟨b, h1, hk.heap h2 (fun h => by omega), h3⟩
theorem addRow_app {D : Nat → Bool} {l : List Value} {g2 cap : Nat} (hX : AddS g n w kv xs CS D W) (hkg : kv.ownBlock ≠ some g) (hgl : g < w.heap.size) (ho : Y.ownsRow 0 30 5 (.slice (some ⟨g2, 0, none⟩) (n + 1) cap) (n + 1) l) (hat : kv.ownBlock = some g2 ∨ g2 = W.heap.size) :
    AddRow g n w kv l (.slice (some ⟨g2, 0, none⟩) (n + 1) cap) Y := by
  have hz := hX.2.2.size
  refine ⟨g2, cap, rfl, ho, fun b hb => ?_⟩
  have : g2 = b := by simpa [Value.ownBlock] using hb
  subst this
  rcases hat with h | h
  · exact ⟨.inl h, fun e => hkg (e ▸ h)⟩
  · exact ⟨.inr (by omega), by omega⟩
end

set_option maxHeartbeats 4000000 in
set_option maxRecDepth 100000 in
theorem add_raw (s : ByteArray) (st l1 c1 i1 l2 c2 i2 l3 c3 i3 bh : Int) (tv kv : Value) (g : Nat) (w : World) (kind : Int) (t : ByteArray) (n : Nat) (xs : List Value) (hg : w.heap[g]? = some (.cells (scC s st l1 c1 i1 l2 c2 i2 tv l3 c3 i3 bh kv) 43 (0, 0)))
    (hown : OwnS (fun b => b ≠ g) 30 5 kv n xs w) (hn : n ≤ 2097152) (ht : t.size ≤ 140737488351232) :
    Calls Tryz.prog 39 #[.pointer (some ⟨g, 0, none⟩), .int .i64 kind, .string t] w fun e w' => e = .returned (.tuple #[]) ∧ ∃ kv', w'.heap[g]? = some (.cells (scC s st l1 c1 i1 l2 c2 i2 tv l3 c3 i3 bh kv') 43 (0, 0)) ∧
      OwnS (fun b => (kv.ownBlock = some b ∨ w.heap.size ≤ b) ∧ b ≠ g) 30 5 kv' (n + 1) (xs ++ [.int .i64 kind, .string t, .int .i64 l2, .int .i64 c2, .int .i64 i2]) w' ∧ Keep (fun b => b = g ∨ kv.ownBlock = some b) w w' := by
  have hgl : g < w.heap.size := (Array.getElem?_eq_some_iff.1 hg).1
  have hkg : kv.ownBlock ≠ some g := fun h => hown.2 g h rfl
  have hkv : ∀ b, kv.ownBlock = some b → b < w.heap.size := fun b h => (hown.1.lt b h).2
  have CC := Lib.hid (fun w => clone_any t w ht)
  obtain ⟨ti, hti, hz, hs1, hb1⟩ := info_parts tinfoTok
  have HI := And.intro hti (And.intro hz (And.intro hs1 hb1))
  have HOC : ∀ u ∈ [Value.int .i64 kind, .string t, .int .i64 l2, .int .i64 c2, .int .i64 i2], u.oneCell' = true := by intro u hu; simp at hu; rcases hu with rfl | rfl | rfl | rfl | rfl <;> rfl
  have HM1 : n + 1 ≤ maxLen := by unfold maxLen; omega
  have HM2 : (n + 1) * 48 ≤ 140737488355328 := by omega
  obtain ⟨CS, hCS⟩ : ∃ CS : Value → Array Value, CS = fun u => scC s st l1 c1 i1 l2 c2 i2 tv l3 c3 i3 bh u := ⟨_, rfl⟩
  have FS7 : ∀ W : World, (Instr.fieldAt 43 (.pointer (some ⟨g, 0, none⟩)) 7).run Tryz.prog W = .ok (.pointer (some ⟨g, 13, none⟩)) W := fun W => by go_simp
  have FS3 : ∀ W : World, (Instr.fieldAt 43 (.pointer (some ⟨g, 0, none⟩)) 3).run Tryz.prog W = .ok (.pointer (some ⟨g, 5, none⟩)) W := fun W => by go_simp
  have FP0 : ∀ W : World, (Instr.fieldAt 41 (.pointer (some ⟨g, 5, none⟩)) 0).run Tryz.prog W = .ok (.pointer (some ⟨g, 5, none⟩)) W := fun W => by go_simp
  have FP1 : ∀ W : World, (Instr.fieldAt 41 (.pointer (some ⟨g, 5, none⟩)) 1).run Tryz.prog W = .ok (.pointer (some ⟨g, 6, none⟩)) W := fun W => by go_simp
  have FP2 : ∀ W : World, (Instr.fieldAt 41 (.pointer (some ⟨g, 5, none⟩)) 2).run Tryz.prog W = .ok (.pointer (some ⟨g, 7, none⟩)) W := fun W => by go_simp
  have L13 : ∀ W : World, W.heap[g]? = some (.cells (CS kv) 43 (0, 0)) → (Instr.loadAt 23 (.pointer (some ⟨g, 13, none⟩))).run Tryz.prog W = .ok kv W := fun W h => by
    subst hCS
    have q : W.cell? ⟨g, 13, none⟩ = some kv := by rw [Lib.cell_of_heap h]; rfl
    go_simp
  have L5 : ∀ W : World, W.heap[g]? = some (.cells (CS kv) 43 (0, 0)) → (Instr.loadAt 3 (.pointer (some ⟨g, 5, none⟩))).run Tryz.prog W = .ok (.int .i64 l2) W := fun W h => by
    subst hCS
    have q : W.cell? ⟨g, 5, none⟩ = some (.int .i64 l2) := by rw [Lib.cell_of_heap h]; rfl
    go_simp
  have L6 : ∀ W : World, W.heap[g]? = some (.cells (CS kv) 43 (0, 0)) → (Instr.loadAt 3 (.pointer (some ⟨g, 6, none⟩))).run Tryz.prog W = .ok (.int .i64 c2) W := fun W h => by
    subst hCS
    have q : W.cell? ⟨g, 6, none⟩ = some (.int .i64 c2) := by rw [Lib.cell_of_heap h]; rfl
    go_simp
  have L7 : ∀ W : World, W.heap[g]? = some (.cells (CS kv) 43 (0, 0)) → (Instr.loadAt 3 (.pointer (some ⟨g, 7, none⟩))).run Tryz.prog W = .ok (.int .i64 i2) W := fun W h => by
    subst hCS
    have q : W.cell? ⟨g, 7, none⟩ = some (.int .i64 i2) := by rw [Lib.cell_of_heap h]; rfl
    go_simp
  have ST : ∀ (W : World) (g2 m cap : Nat), W.heap[g]? = some (.cells (CS kv) 43 (0, 0)) → (Instr.storeAt 23 (.pointer (some ⟨g, 13, none⟩)) (.slice (some ⟨g2, 0, none⟩) m cap)).run Tryz.prog W = .ok () (W.setCell ⟨g, 13, none⟩ (.slice (some ⟨g2, 0, none⟩) m cap)) := fun W g2 m cap h => by
    subst hCS
    have q : W.cell? ⟨g, 13, none⟩ = some kv := by rw [Lib.cell_of_heap h]; rfl
    have q2 : W.frozen? ⟨g, 13, none⟩ = false := by simp [World.frozen?, h]
    go_simp
  have BB : ∀ W : World, (Instr.build 30 #[(0, .int .i64 kind), (1, .string t), (2, .int .i64 l2), (3, .int .i64 c2), (4, .int .i64 i2)]).run Tryz.prog W = .ok (.agg #[.int .i64 kind, .string t, .int .i64 l2, .int .i64 c2, .int .i64 i2]) W := fun W => by go_simp
  have BS : ∀ W : World, (Instr.buildSlice 23 1 #[(0, .agg #[.int .i64 kind, .string t, .int .i64 l2, .int .i64 c2, .int .i64 i2])]).run Tryz.prog W = .ok (.slice (some ⟨W.heap.size, 0, none⟩) 1 1) (W.alloc (.cells #[.int .i64 kind, .string t, .int .i64 l2, .int .i64 c2, .int .i64 i2] 30)) := fun W => by go_simp
  have H0 : AddS g n w kv xs CS (fun _ => false) w.drew := ⟨fun _ => by rw [hCS]; exact hg, fun _ => hown, (Keep.refl _ w).drew⟩
  have set_13 : ∀ {W : World} {u : Value}, W.heap[g]? = some (.cells (CS kv) 43 (0, 0)) → (W.setCell ⟨g, 13, none⟩ u).heap[g]? = some (.cells (CS u) 43 (0, 0)) := fun h => by subst hCS; exact set_13 h
  clear hg hown ht hti hz hs1 hb1
  go_enter Tryz.func39, Tryz.ntmps39
  go_wp2
  refine wp_region_done (AddS g n w kv xs CS) (AddP g n w kv xs kind t l2 c2 i2 CS) (by kernel_rfl) (by kernel_rfl) (by kernel_rfl) H0 ?hs ?hd
  case hs =>
   refine DSteps.cons ?_ (DSteps.cons ?_ (DSteps.cons ?_ (DSteps.cons ?_ (DSteps.cons ?_ (DSteps.cons ?_ (DSteps.cons ?_ (DSteps.cons ?_ (DSteps.cons ?_ (DSteps.cons ?_ (DSteps.cons ?_ (DSteps.cons ?_ (DSteps.cons ?_ (DSteps.cons ?_ (DSteps.cons ?_ (DSteps.cons ?_ (DSteps.cons ?_ (DSteps.cons ?_ (DSteps.cons ?_ (DSteps.cons ?_ (DSteps.cons ?_ (DSteps.cons ?_ (DSteps.cons ?_ (DSteps.cons ?_ (DSteps.cons ?_ (DSteps.cons ?_ (DSteps.cons ?_ (DSteps.cons ?_ (DSteps.cons ?_ (DSteps.nil)))))))))))))))))))))))))))))
   · intro D a X hDi hDa _ hX hL hd
     refine ⟨rfl, ?_⟩
     have e0 : a.eval (.tmp 0) = .pointer (some ⟨g, 0, none⟩) := hL.far 0 (by kernel_rfl)
     exact wp_value (exec_move rfl e0) ⟨_, rfl, hX.more, fun _ _ _ h => h, AddP.mk rfl (by decide)⟩
   · intro D a X hDi hDa _ hX hL hd
     refine ⟨rfl, ?_⟩
     have e0 : a.eval (.tmp 0) = .pointer (some ⟨g, 0, none⟩) := hL.far 0 (by kernel_rfl)
     exact wp_value (exec_move rfl e0) ⟨_, rfl, hX.more, fun _ _ _ h => h, AddP.mk rfl (by decide)⟩
   · intro D a X hDi hDa _ hX hL hd
     refine ⟨rfl, ?_⟩
     have e0 : a.eval (.tmp 7) = .pointer (some ⟨g, 0, none⟩) := (hd 1 7 (by kernel_rfl) (by kernel_rfl)).val rfl
     exact wp_value (exec_nilCheck rfl e0) ⟨_, rfl, hX.more, fun _ _ _ h => h, AddP.mk rfl (by decide)⟩
   · intro D a X hDi hDa _ hX hL hd
     refine ⟨rfl, ?_⟩
     have e0 : a.eval (.tmp 8) = .pointer (some ⟨g, 0, none⟩) := (hd 2 8 (by kernel_rfl) (by kernel_rfl)).val rfl
     exact wp_value (exec_fieldAddr rfl e0 (FS7 X)) ⟨_, rfl, hX.more, fun _ _ _ h => h, AddP.mk rfl (by decide)⟩
   · intro D a X hDi hDa _ hX hL hd
     refine ⟨rfl, ?_⟩
     have e0 : a.eval (.tmp 9) = .pointer (some ⟨g, 13, none⟩) := (hd 3 9 (by kernel_rfl) (by kernel_rfl)).val rfl
     exact wp_value (exec_load rfl e0 (L13 X (hX.1 (hDa 28 (by kernel_rfl))))) ⟨_, rfl, hX.more, fun _ _ _ h => h, AddP.mk rfl (by decide)⟩
   · intro D a X hDi hDa _ hX hL hd
     refine ⟨rfl, ?_⟩
     have e0 : a.eval (.tmp 1) = .int .i64 kind := hL.far 1 (by kernel_rfl)
     exact wp_value (exec_move rfl e0) ⟨_, rfl, hX.more, fun _ _ _ h => h, AddP.mk rfl (by decide)⟩
   · intro D a X hDi hDa _ hX hL hd
     refine ⟨rfl, ?_⟩
     have e0 : a.eval (.tmp 2) = .string t := hL.far 2 (by kernel_rfl)
     exact wp_value (exec_move rfl e0) ⟨_, rfl, hX.more, fun _ _ _ h => h, AddP.mk rfl (by decide)⟩
   · intro D a X hDi hDa _ hX hL hd
     refine ⟨rfl, ?_⟩
     have e0 : a.eval (.tmp 12) = .string t := (hd 6 12 (by kernel_rfl) (by kernel_rfl)).val rfl
     refine wp_enter (exec_call (vs := #[.string t]) rfl (by simp only [List.map_toArray, List.map_cons, List.map_nil, e0]) Tryz.func65 rfl rfl) ?_
     refine (CC.out X).mono ?_
     rintro e X2 ⟨rfl, hb⟩
     exact ⟨_, rfl, _, rfl, (hX.below hb).more, fun _ _ _ h => h.below hb, AddP.mk rfl (by decide)⟩
   · intro D a X hDi hDa _ hX hL hd
     refine ⟨rfl, ?_⟩
     have e0 : a.eval (.tmp 0) = .pointer (some ⟨g, 0, none⟩) := hL.far 0 (by kernel_rfl)
     exact wp_value (exec_move rfl e0) ⟨_, rfl, hX.more, fun _ _ _ h => h, AddP.mk rfl (by decide)⟩
   · intro D a X hDi hDa _ hX hL hd
     refine ⟨rfl, ?_⟩
     have e0 : a.eval (.tmp 14) = .pointer (some ⟨g, 0, none⟩) := (hd 8 14 (by kernel_rfl) (by kernel_rfl)).val rfl
     exact wp_value (exec_nilCheck rfl e0) ⟨_, rfl, hX.more, fun _ _ _ h => h, AddP.mk rfl (by decide)⟩
   · intro D a X hDi hDa _ hX hL hd
     refine ⟨rfl, ?_⟩
     have e0 : a.eval (.tmp 15) = .pointer (some ⟨g, 0, none⟩) := (hd 9 15 (by kernel_rfl) (by kernel_rfl)).val rfl
     exact wp_value (exec_fieldAddr rfl e0 (FS3 X)) ⟨_, rfl, hX.more, fun _ _ _ h => h, AddP.mk rfl (by decide)⟩
   · intro D a X hDi hDa _ hX hL hd
     refine ⟨rfl, ?_⟩
     have e0 : a.eval (.tmp 16) = .pointer (some ⟨g, 5, none⟩) := (hd 10 16 (by kernel_rfl) (by kernel_rfl)).val rfl
     exact wp_value (exec_fieldAddr rfl e0 (FP0 X)) ⟨_, rfl, hX.more, fun _ _ _ h => h, AddP.mk rfl (by decide)⟩
   · intro D a X hDi hDa _ hX hL hd
     refine ⟨rfl, ?_⟩
     have e0 : a.eval (.tmp 17) = .pointer (some ⟨g, 5, none⟩) := (hd 11 17 (by kernel_rfl) (by kernel_rfl)).val rfl
     exact wp_value (exec_load rfl e0 (L5 X (hX.1 (hDa 28 (by kernel_rfl))))) ⟨_, rfl, hX.more, fun _ _ _ h => h, AddP.mk rfl (by decide)⟩
   · intro D a X hDi hDa _ hX hL hd
     refine ⟨rfl, ?_⟩
     have e0 : a.eval (.tmp 0) = .pointer (some ⟨g, 0, none⟩) := hL.far 0 (by kernel_rfl)
     exact wp_value (exec_move rfl e0) ⟨_, rfl, hX.more, fun _ _ _ h => h, AddP.mk rfl (by decide)⟩
   · intro D a X hDi hDa _ hX hL hd
     refine ⟨rfl, ?_⟩
     have e0 : a.eval (.tmp 19) = .pointer (some ⟨g, 0, none⟩) := (hd 13 19 (by kernel_rfl) (by kernel_rfl)).val rfl
     exact wp_value (exec_nilCheck rfl e0) ⟨_, rfl, hX.more, fun _ _ _ h => h, AddP.mk rfl (by decide)⟩
   · intro D a X hDi hDa _ hX hL hd
     refine ⟨rfl, ?_⟩
     have e0 : a.eval (.tmp 20) = .pointer (some ⟨g, 0, none⟩) := (hd 14 20 (by kernel_rfl) (by kernel_rfl)).val rfl
     exact wp_value (exec_fieldAddr rfl e0 (FS3 X)) ⟨_, rfl, hX.more, fun _ _ _ h => h, AddP.mk rfl (by decide)⟩
   · intro D a X hDi hDa _ hX hL hd
     refine ⟨rfl, ?_⟩
     have e0 : a.eval (.tmp 21) = .pointer (some ⟨g, 5, none⟩) := (hd 15 21 (by kernel_rfl) (by kernel_rfl)).val rfl
     exact wp_value (exec_fieldAddr rfl e0 (FP1 X)) ⟨_, rfl, hX.more, fun _ _ _ h => h, AddP.mk rfl (by decide)⟩
   · intro D a X hDi hDa _ hX hL hd
     refine ⟨rfl, ?_⟩
     have e0 : a.eval (.tmp 22) = .pointer (some ⟨g, 6, none⟩) := (hd 16 22 (by kernel_rfl) (by kernel_rfl)).val rfl
     exact wp_value (exec_load rfl e0 (L6 X (hX.1 (hDa 28 (by kernel_rfl))))) ⟨_, rfl, hX.more, fun _ _ _ h => h, AddP.mk rfl (by decide)⟩
   · intro D a X hDi hDa _ hX hL hd
     refine ⟨rfl, ?_⟩
     have e0 : a.eval (.tmp 0) = .pointer (some ⟨g, 0, none⟩) := hL.far 0 (by kernel_rfl)
     exact wp_value (exec_move rfl e0) ⟨_, rfl, hX.more, fun _ _ _ h => h, AddP.mk rfl (by decide)⟩
   · intro D a X hDi hDa _ hX hL hd
     refine ⟨rfl, ?_⟩
     have e0 : a.eval (.tmp 24) = .pointer (some ⟨g, 0, none⟩) := (hd 18 24 (by kernel_rfl) (by kernel_rfl)).val rfl
     exact wp_value (exec_nilCheck rfl e0) ⟨_, rfl, hX.more, fun _ _ _ h => h, AddP.mk rfl (by decide)⟩
   · intro D a X hDi hDa _ hX hL hd
     refine ⟨rfl, ?_⟩
     have e0 : a.eval (.tmp 25) = .pointer (some ⟨g, 0, none⟩) := (hd 19 25 (by kernel_rfl) (by kernel_rfl)).val rfl
     exact wp_value (exec_fieldAddr rfl e0 (FS3 X)) ⟨_, rfl, hX.more, fun _ _ _ h => h, AddP.mk rfl (by decide)⟩
   · intro D a X hDi hDa _ hX hL hd
     refine ⟨rfl, ?_⟩
     have e0 : a.eval (.tmp 26) = .pointer (some ⟨g, 5, none⟩) := (hd 20 26 (by kernel_rfl) (by kernel_rfl)).val rfl
     exact wp_value (exec_fieldAddr rfl e0 (FP2 X)) ⟨_, rfl, hX.more, fun _ _ _ h => h, AddP.mk rfl (by decide)⟩
   · intro D a X hDi hDa _ hX hL hd
     refine ⟨rfl, ?_⟩
     have e0 : a.eval (.tmp 27) = .pointer (some ⟨g, 7, none⟩) := (hd 21 27 (by kernel_rfl) (by kernel_rfl)).val rfl
     exact wp_value (exec_load rfl e0 (L7 X (hX.1 (hDa 28 (by kernel_rfl))))) ⟨_, rfl, hX.more, fun _ _ _ h => h, AddP.mk rfl (by decide)⟩
   · intro D a X hDi hDa _ hX hL hd
     refine ⟨rfl, ?_⟩
     have e0 : a.eval (.tmp 11) = .int .i64 kind := (hd 5 11 (by kernel_rfl) (by kernel_rfl)).val rfl
     have e1 : a.eval (.tmp 13) = .string t := (hd 7 13 (by kernel_rfl) (by kernel_rfl)).val rfl
     have e2 : a.eval (.tmp 18) = .int .i64 l2 := (hd 12 18 (by kernel_rfl) (by kernel_rfl)).val rfl
     have e3 : a.eval (.tmp 23) = .int .i64 c2 := (hd 17 23 (by kernel_rfl) (by kernel_rfl)).val rfl
     have e4 : a.eval (.tmp 28) = .int .i64 i2 := (hd 22 28 (by kernel_rfl) (by kernel_rfl)).val rfl
     exact wp_value (exec_build rfl (ps := #[(0, .int .i64 kind), (1, .string t), (2, .int .i64 l2), (3, .int .i64 c2), (4, .int .i64 i2)]) (by simp only [List.map_toArray, List.map_cons, List.map_nil, e0, e1, e2, e3, e4] <;> rfl) (BB X)) ⟨_, rfl, hX.more, fun _ _ _ h => h, AddP.mk rfl (by decide)⟩
   · intro D a X hDi hDa _ hX hL hd
     refine ⟨rfl, ?_⟩
     have e0 : a.eval (.tmp 29) = .agg #[.int .i64 kind, .string t, .int .i64 l2, .int .i64 c2, .int .i64 i2] := (hd 23 29 (by kernel_rfl) (by kernel_rfl)).val rfl
     refine wp_value (exec_buildSlice rfl (ps := #[(0, .agg #[.int .i64 kind, .string t, .int .i64 l2, .int .i64 c2, .int .i64 i2])]) (by simp only [List.map_toArray, List.map_cons, List.map_nil, e0] <;> rfl) (BS X)) ⟨_, rfl, (hX.below ((Below.refl _ X).alloc (Nat.le_refl _) _)).more, fun _ _ _ h => h.below ((Below.refl _ X).alloc (Nat.le_refl _) _), AddP.bs ⟨X.heap.size, rfl, World.alloc_heap_new X _, hX.2.2.size⟩⟩
   · intro D a X hDi hDa _ hX hL hd
     refine ⟨rfl, ?_⟩
     have e0 : a.eval (.tmp 10) = kv := (hd 4 10 (by kernel_rfl) (by kernel_rfl)).val rfl
     obtain ⟨b, hb1, hb2, hb3⟩ := (hd 24 30 (by kernel_rfl) (by kernel_rfl)).2.1 rfl
     have h28 := hDa 28 (by kernel_rfl)
     refine wp_append_lies X (.tmp 10) (.tmp 30) 23 rfl 0 30 ti (.agg #[.int .i64 0, .string ⟨#[]⟩, .int .i64 0, .int .i64 0, .int .i64 0]) 5 48 Tryz.underlying23 HI.1 HI.2.1 HI.2.2.1 HI.2.2.2 rfl (Nat.succ_pos 4) kv n xs e0 (hX.2.1 hDi).1 ⟨b, 0, none⟩ 1 1 [.int .i64 kind, .string t, .int .i64 l2, .int .i64 c2, .int .i64 i2] hb1 rfl (World.news_of_block hb2) HOC (Nat.succ_pos 0) HM1 HM2 (Nat.zero_le _) _ rfl ?_
     intro g2 cap X2 hown2 hgrow hat hlt
     exact ⟨_, rfl, hX.app hkg h28 (keep_grown hgrow), fun j u hj h => h.app hkv (keep_grown hgrow) (fun e => by subst e; rw [hDi] at hj; cases hj) (fun e => by subst e; rw [h28] at hj; cases hj), AddP.row (addRow_app hX hkg hgl hown2 hat)⟩
   · intro D a X hDi hDa _ hX hL hd
     refine ⟨rfl, ?_⟩
     have e0 : a.eval (.tmp 6) = .pointer (some ⟨g, 0, none⟩) := (hd 0 6 (by kernel_rfl) (by kernel_rfl)).val rfl
     exact wp_value (exec_nilCheck rfl e0) ⟨_, rfl, hX.more, fun _ _ _ h => h, AddP.mk rfl (by decide)⟩
   · intro D a X hDi hDa _ hX hL hd
     refine ⟨rfl, ?_⟩
     have e0 : a.eval (.tmp 32) = .pointer (some ⟨g, 0, none⟩) := (hd 26 32 (by kernel_rfl) (by kernel_rfl)).val rfl
     exact wp_value (exec_fieldAddr rfl e0 (FS7 X)) ⟨_, rfl, hX.more, fun _ _ _ h => h, AddP.mk rfl (by decide)⟩
   · intro D a X hDi hDa _ hX hL hd
     refine ⟨rfl, ?_⟩
     have e0 : a.eval (.tmp 33) = .pointer (some ⟨g, 13, none⟩) := (hd 27 33 (by kernel_rfl) (by kernel_rfl)).val rfl
     obtain ⟨g2, cap, he, ho⟩ := (hd 25 31 (by kernel_rfl) (by kernel_rfl)).2.2.1 rfl
     have hc := hX.1 hDi
     exact wp_skipped (exec_store rfl e0 he (ST X _ _ _ hc)) ⟨undef, rfl, hX.store hDi, fun j u hj h => h.store hgl (fun e => by subst e; rw [hDi] at hj; cases hj), AddP.last ⟨_, AddRow.store ⟨g2, cap, rfl, by rw [← he]; exact ho⟩, set_13 hc⟩⟩
  case hd =>
    intro D a X hAll hX hL hP hE
    obtain ⟨_, hp⟩ := hE 28 (by decide)
    obtain ⟨u, ⟨g2, cap, rfl, ho⟩, hu⟩ := hp.2.2.2 rfl
    have hK := hX.2.2
    obtain ⟨f, ha, hf⟩ := hL.out [6, 7, 8, 9, 10, 11, 12, 13, 14, 15, 16, 17, 18, 19, 20, 21, 22, 23, 24, 25, 26, 27, 28, 29, 30, 31, 32, 33] rfl
    have HF := Lib.hid (And.intro ho (And.intro hu hK))
    have HCS := Lib.hid hCS
    clear hf hAll hP hX hL hE hp ho hu hK hCS FS7 FS3 FP0 FP1 FP2 L13 L5 L6 L7 ST BB BS set_13 HI HOC HM1 HM2 H0
    simp only [List.foldl_cons, List.foldl_nil, List.setIfInBounds_toArray, List.set_cons_zero, List.set_cons_succ] at ha
    subst ha
    go_wp2
    go_end0
    have hCS := HCS.out
    subst hCS
    exact ⟨rfl, _, HF.out.2.1, HF.out.1, HF.out.2.2⟩
end Go.Proofs.YtbnnhbmnddaafaaGreatDoor
/- strconv.ParseUint to the base 16, of 24 bits. -/
namespace Go.Proofs.YtbnnhbmnddaafaaGreatDoor
open Go Go.RowKit Go.Kt Go.Kt.Rg

set_option maxRecDepth 100000 in
set_option maxHeartbeats 8000000 in
theorem ipu24_any (s : ByteArray) (w : World) (hs : s.size ≤ 281474976710656) :
    Calls Tryz.prog 130 #[.string s, .int .i64 16, .int .i64 24] w fun e w' => PuOut 179 PuErr (puV 16777215 s.data.toList) e ∧ Below w.heap.size w w' := by
  obtain ⟨l, hl⟩ : ∃ l, s.data.toList = l := ⟨_, rfl⟩
  have hln : l.length = s.size := by rw [← hl]; exact (Lib.size_eq s).symm
  rw [hl]
  by_cases h0 : s.size = 0
  · have hn : l = [] := List.eq_nil_of_length_eq_zero (by omega)
    have hsn : s.toList = [] := by
      have : s.toList.length = 0 := by rw [ByteArray.toList_eq, hl, hn]; rfl
      exact List.eq_nil_of_length_eq_zero this
    have hsn2 : (!s.toList.isEmpty) = false := by rw [hsn]; rfl
    have HF : Hid (PuOut 179 PuErr (puV 16777215 l) (.returned (.tuple #[.int .u64 0, .iface 179 (.int .i64 2)])) ∧ Below w.heap.size w w) := Lib.hid ⟨.no 0 (by rw [hn]; rfl) (.inr rfl), Below.refl _ _⟩
    clear hn hl hln h0
    go_enter Tryz.func130, Tryz.ntmps130
    go_wp2
    go_ret2
    exact HF.out
  · have hemp : s.toList.isEmpty = false := by
      cases h : s.toList with
      | nil => rw [ByteArray.toList_eq, hl] at h; rw [h] at hln; exact absurd hln.symm h0
      | cons => rfl
    have hcv := Lib.run_convert_string_bytes (P := Tryz.prog) w 9 35 5 s (u := .string) Tryz.underlying9 Tryz.underlying35 Tryz.underlying5
    have hB : ∀ j, j < s.size → (Lib.bytesWorld w 5 s).cell? ⟨w.heap.size, j, none⟩ = some (.int .u8 (s.data.toList.getD j 0).toNat) := fun j hj => Lib.bytesWorld_cell w 5 s j hj
    have hBel : Below w.heap.size w (Lib.bytesWorld w 5 s) := Lib.bytesWorld_below w _ s
    obtain ⟨W1, hW1⟩ : ∃ W1, Lib.bytesWorld w 5 s = W1 := ⟨_, rfl⟩
    rw [hW1] at hcv hB hBel
    rw [hl] at hB
    have HB := Lib.hid hB
    have HBel := Lib.hid hBel
    obtain ⟨n, hn⟩ : ∃ n, s.size = n := ⟨_, rfl⟩
    rw [hn] at hs h0 hcv hln HB
    have HLN := Lib.hid hln
    have hV : Hid (puV 16777215 l = puF 16777215 0 l) := Lib.hid (by unfold puV; rw [if_neg]; intro e; rw [e] at hln; exact h0 hln.symm)
    clear hW1 hB hBel hl hln
    go_enter Tryz.func130, Tryz.ntmps130
    go_wp2
    go_loop [12, 13, 101] (fun vu vn vi => ∃ (k acc : Nat) (a : Int), vu = .bool false ∧ vn = .int .u64 a ∧ vi = .int .i64 k ∧ k ≤ n ∧ Hid (a = (acc : Int) ∧ acc ≤ 16777215 ∧ puF 16777215 acc (l.drop k) = puF 16777215 0 l)) (fun _ _ vi => n - (RowKit.intOf vi).toNat)
    case atStart => exact ⟨0, 0, 0, rfl, rfl, rfl, by omega, Lib.hid ⟨rfl, by omega, rfl⟩⟩
    case round =>
      obtain ⟨k, acc, a, rfl, rfl, rfl, hk, hh⟩ := hrel
      have a0 : 0 ≤ a := by have := hh.out.1; omega
      have a1 : a ≤ 16777215 := by have := hh.out; omega
      by_cases hkn : k < n
      · have hkn' : (k : Int) < n := by omega
        have hc := HB.out k hkn
        have hdrop : l.drop k = l[k]'(by rw [HLN.out]; exact hkn) :: l.drop (k + 1) := List.drop_eq_getElem_cons (by rw [HLN.out]; exact hkn)
        have hget : l.getD k 0 = l[k]'(by rw [HLN.out]; exact hkn) := by simp [List.getD, List.getElem?_eq_getElem (show k < l.length by rw [HLN.out]; exact hkn)]
        rw [hget] at hc
        generalize l[k]'(by rw [HLN.out]; exact hkn) = c at hc hdrop
        have HD := Lib.hid hdrop
        have hc256 : c.toNat < 256 := c.toNat_lt
        have q1 := or_32 c.toNat hc256
        have q2 := or_ge c.toNat hc256
        have q3 := or_bd c.toNat hc256
        have q4 := or_dig c.toNat hc256
        have e1 := @digV_dig c.toNat
        have e2 := @digV_let c.toNat
        have e3 := @digV_no c.toNat
        obtain ⟨L, hL⟩ : ∃ L, c.toNat ||| 32 = L := ⟨_, rfl⟩
        rw [hL] at q1 q2 q3 q4 e2 e3
        have FIN : ∀ d, digV c.toNat = some d → d < 16 → acc * 16 + d ≤ 16777215 → Hid (puF 16777215 (acc * 16 + d) (l.drop (k + 1)) = puF 16777215 0 l) := fun d h1 h2 h3 => Lib.hid (by rw [← hh.out.2.2, HD.out, puF_some h1 h2 h3])
        have OVR : ∀ d, digV c.toNat = some d → d < 16 → 16777215 < acc * 16 + d → Hid (puV 16777215 l = none) := fun d h1 h2 h3 => Lib.hid (by rw [hV.out, ← hh.out.2.2, HD.out, puF_over h1 h2 h3])
        have BIG : ∀ d, digV c.toNat = some d → 16 ≤ d → Hid (puV 16777215 l = none) := fun d h1 h2 => Lib.hid (by rw [hV.out, ← hh.out.2.2, HD.out, puF_big h1 h2])
        have BAD : digV c.toNat = none → Hid (puV 16777215 l = none) := fun h1 => Lib.hid (by rw [hV.out, ← hh.out.2.2, HD.out, puF_bad h1])
        have hacc := hh.out.1
        generalize c.toNat = cn at *
        clear hdrop hget hL
        by_cases hdig : 48 ≤ cn ∧ cn ≤ 57
        · obtain ⟨hd0, hd1⟩ := hdig
          have hdv := e1 hd0 hd1
          have i0 : (48 : Int) ≤ cn := by omega
          have i1 : (cn : Int) ≤ 57 := by omega
          by_cases hov : 16777215 < acc * 16 + (cn - 48)
          · have HF := OVR _ hdv (by omega) hov
            have iov : (16777215 : Int) < a * 16 + ((cn : Int) - 48) := by omega
            clear FIN OVR BIG BAD hdv e1 e2 e3 q1 q2 q3 q4 hacc hov hd0 hd1
            go_wp2
            go_ret2
            exact ⟨.no _ HF.out (.inl rfl), HBel.out⟩
          · have HF := FIN _ hdv (by omega) (by omega)
            have iov : a * 16 + ((cn : Int) - 48) ≤ 16777215 := by omega
            have HA : Hid (a * 16 + ((cn : Int) - 48) = ((acc * 16 + (cn - 48) : Nat) : Int) ∧ acc * 16 + (cn - 48) ≤ 16777215) := Lib.hid ⟨by omega, by omega⟩
            clear FIN OVR BIG BAD hdv e1 e2 e3 q1 q2 q3 q4 hacc hov hd0 hd1
            go_wp2
            go_round
            case rel => exact ⟨k + 1, acc * 16 + (cn - 48), a * 16 + ((cn : Int) - 48), rfl, rfl, by go_num, by omega, Lib.hid ⟨HA.out.1, HA.out.2, HF.out⟩⟩
            case measure => simp [RowKit.intOf]; omega
        · by_cases hlet : 97 ≤ L ∧ L ≤ 122
          · obtain ⟨hd0, hd1⟩ := hlet
            obtain ⟨g1, g2⟩ := q4 hd0 hd1
            have hdv := e2 g1 hd0 hd1
            have i0 : (97 : Int) ≤ L := by omega
            have i1 : (L : Int) ≤ 122 := by omega
            have i2 : (57 : Int) < cn := by omega
            have i3 : ((cn : Int) == 95) = false := by rw [beq_eq_false_iff_ne]; omega
            by_cases hbig : 102 < L
            · have HF := BIG _ hdv (by omega)
              have i4 : (102 : Int) < L := by omega
              clear FIN OVR BIG BAD hdv e1 e2 e3 q2 q3 q4 hacc hd0 hd1 g1 g2 hdig hbig
              go_wp2_with (go_at_call 133; refine (Tryz.internal_strconv_lower _ _).mono ?_; rintro e w' ⟨rfl, rfl⟩)
              go_ret2
              exact ⟨.no _ HF.out (.inr rfl), HBel.out⟩
            · have i4 : (L : Int) ≤ 102 := by omega
              by_cases hov : 16777215 < acc * 16 + (L - 87)
              · have HF := OVR _ hdv (by omega) hov
                have iov : (16777215 : Int) < a * 16 + ((L : Int) - 97 + 10) := by omega
                clear FIN OVR BIG BAD hdv e1 e2 e3 q2 q3 q4 hacc hov hd0 hd1 g1 g2 hdig hbig
                go_wp2_with (go_at_call 133; refine (Tryz.internal_strconv_lower _ _).mono ?_; rintro e w' ⟨rfl, rfl⟩)
                go_ret2
                exact ⟨.no _ HF.out (.inl rfl), HBel.out⟩
              · have HF := FIN _ hdv (by omega) (by omega)
                have iov : a * 16 + ((L : Int) - 97 + 10) ≤ 16777215 := by omega
                have HA : Hid (a * 16 + ((L : Int) - 97 + 10) = ((acc * 16 + (L - 87) : Nat) : Int) ∧ acc * 16 + (L - 87) ≤ 16777215) := Lib.hid ⟨by omega, by omega⟩
                clear FIN OVR BIG BAD hdv e1 e2 e3 q2 q3 q4 hacc hov hd0 hd1 g1 g2 hdig hbig
                go_wp2_with (go_at_call 133; refine (Tryz.internal_strconv_lower _ _).mono ?_; rintro e w' ⟨rfl, rfl⟩)
                go_round
                case rel => exact ⟨k + 1, acc * 16 + (L - 87), a * 16 + ((L : Int) - 97 + 10), rfl, rfl, by go_num, by omega, Lib.hid ⟨HA.out.1, HA.out.2, HF.out⟩⟩
                case measure => simp [RowKit.intOf]; omega
          · have HF := BAD (e3 hdig hlet)
            have u0 : (cn : Int) < 48 ∨ (57 : Int) < cn := by omega
            have u1 : (L : Int) < 97 ∨ (122 : Int) < L := by omega
            have hb0 : 0 ≤ (L : Int) := by omega
            have hb1 : (L : Int) < 256 := by omega
            clear FIN OVR BIG BAD e1 e2 e3 q2 q3 q4 hacc hdig hlet
            rcases u0 with u0 | u0
            all_goals rcases u1 with u1 | u1
            all_goals
              go_wp2_with (go_at_call 133; refine (Tryz.internal_strconv_lower _ _).mono ?_; rintro e w' ⟨rfl, rfl⟩)
            all_goals go_ret2
            all_goals exact ⟨.no _ HF.out (.inr rfl), HBel.out⟩
      · have hkn' : ¬ (k : Int) < n := by omega
        obtain rfl : k = n := by omega
        have HF : Hid (puV 16777215 l = some acc) := Lib.hid (by rw [hV.out, ← hh.out.2.2, List.drop_eq_nil_of_le (by rw [HLN.out]; exact Nat.le_refl _)]; rfl)
        have HA := hh.out.1
        subst HA
        go_wp2
        go_ret2
        exact ⟨.yes HF.out, HBel.out⟩
end Go.Proofs.YtbnnhbmnddaafaaGreatDoor
