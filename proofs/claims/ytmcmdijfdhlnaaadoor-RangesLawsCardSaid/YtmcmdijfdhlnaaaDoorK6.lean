/- What is the same of any program: a drawn region is gone through operation by operation, not order by order: each operation leaves in its slot what it is said to leave, whatever has come up ahead of it. -/
import Derived.OrdersHeld
import Derived.WalkKit
namespace Go.Kt
open Go

section
variable {P : Program} {ops : Array Oper} {Q : Exit → Act → World → Prop} {md : Region.Mode}

/-- No operation of the region has this slot. -/
def outside (ops : Array Oper) (k : Nat) : Bool := ops.all fun o => o.dst != some k
/-- All slots are different, and lie in the frame. -/
def apartB (ops : Array Oper) (n : Nat) : Bool :=
  (List.range ops.size).all fun i => match (ops.getD i default).dst with
    | none => true
    | some k => decide (k < n) && (List.range ops.size).all fun j => i == j || (ops.getD j default).dst != some k
/-- Operations wait for earlier ones alone. -/
def forwardB (md : Region.Mode) (ops : Array Oper) : Bool :=
  (List.range ops.size).all fun i => (ops.getD i default).after.all fun e => !Region.binds md e || decide (e.on < i)
/-- 'o' waits for operation number j. -/
def waitsB (md : Region.Mode) (o : Oper) (j : Nat) : Bool := o.after.any fun e => e.on == j && Region.binds md e
def slotB (ops : Array Oper) (j k : Nat) : Bool := match ops[j]? with | some o => o.dst == some k | none => false

/-- The frame at hand is the first one but for the region's slots. -/
structure Like (ops : Array Oper) (a0 a : Act) : Prop where
  defers : a.defers = a0.defers
  size : a.tmps.size = a0.tmps.size
  far : ∀ k, outside ops k = true → a.tmps.getD k undef = a0.tmps.getD k undef

/-- One operation: where those that it waits for have left what they are said to leave, it is wanted, and leaves what it is said to leave. -/
def SlotStep (P : Program) (md : Region.Mode) (ops : Array Oper) (Q : Exit → Act → World → Prop) (S : World → Prop) (R : World → World → Prop) (p : Nat → Value → World → Prop) (a0 : Act) (i : Nat) (o : Oper) : Prop :=
  ∀ a w, S w → Like ops a0 a → (∀ j k, waitsB md o j = true → slotB ops j k = true → p j (a.tmps.getD k undef) w) →
    Region.wanted o (yielded ops a.tmps) = true ∧ o.wp P a w (fun a' w' => ∃ v, a' = a.put o.dst v ∧ S w' ∧ R w w' ∧ p i v w') Q
def SlotSteps (P : Program) (md : Region.Mode) (ops : Array Oper) (Q : Exit → Act → World → Prop) (S : World → Prop) (R : World → World → Prop) (p : Nat → Value → World → Prop) (a0 : Act) : Nat → List Oper → Prop
  | _, [] => True
  | i, o :: r => SlotStep P md ops Q S R p a0 i o ∧ SlotSteps P md ops Q S R p a0 (i + 1) r
theorem SlotSteps.get {S : World → Prop} {R : World → World → Prop} {p : Nat → Value → World → Prop} {a0 : Act} : ∀ (l : List Oper) (i : Nat), SlotSteps P md ops Q S R p a0 i l → ∀ j o, l[j]? = some o → SlotStep P md ops Q S R p a0 (i + j) o
  | [], _, _, j, o, h => by simp at h
  | x :: r, i, hs, 0, o, h => by simp at h; subst h; exact hs.1
  | x :: r, i, hs, j + 1, o, h => by
    have := SlotSteps.get r (i + 1) hs.2 j o (by simpa using h)
    rw [show i + (j + 1) = i + 1 + j by omega]; exact this

def unlisted (listed : Array Bool) (n : Nat) : Nat := ((List.range n).filter fun i => !listed.getD i true).length
theorem filter_set_lt (listed : Array Bool) (i : Nat) (h : listed.getD i true = false) : ∀ (l : List Nat), i ∈ l →
    (l.filter fun j => !(listed.setIfInBounds i true).getD j true).length < (l.filter fun j => !listed.getD j true).length := by
  have hi : i < listed.size := by
    rcases Nat.lt_or_ge i listed.size with h' | h'
    · exact h'
    · simp [Array.getD, Nat.not_lt.2 h'] at h
  have hle : ∀ l : List Nat, (l.filter fun j => !(listed.setIfInBounds i true).getD j true).length ≤ (l.filter fun j => !listed.getD j true).length := by
    intro l
    induction l with
    | nil => simp
    | cons x r ih =>
      by_cases hx : x = i
      · subst hx
        have h1 : (listed.setIfInBounds x true).getD x true = true := by simp [Array.getD, hi]
        simp only [List.filter_cons, h1, h, Bool.not_true, Bool.not_false, if_true, Bool.false_eq_true, if_false, List.length_cons]
        omega
      · have h1 : (listed.setIfInBounds i true).getD x true = listed.getD x true := by
          simp only [Array.getD_eq_getD_getElem?, Array.getElem?_setIfInBounds, if_neg (Ne.symm hx)]
        simp only [List.filter_cons, h1]
        split
        · simp only [List.length_cons]; omega
        · exact ih
  intro l
  induction l with
  | nil => intro hm; cases hm
  | cons x r ih =>
    intro hm
    by_cases hx : x = i
    · subst hx
      have h1 : (listed.setIfInBounds x true).getD x true = true := by simp [Array.getD, hi]
      have := hle r
      simp only [List.filter_cons, h1, h, Bool.not_true, Bool.not_false, if_true, Bool.false_eq_true, if_false, List.length_cons]
      omega
    · have h1 : (listed.setIfInBounds i true).getD x true = listed.getD x true := by
        simp only [Array.getD_eq_getD_getElem?, Array.getElem?_setIfInBounds, if_neg (Ne.symm hx)]
      have hm' : i ∈ r := by
        rcases List.mem_cons.1 hm with h | h
        · exact absurd h.symm hx
        · exact h
      have := ih hm'
      simp only [List.filter_cons, h1]
      split
      · simp only [List.length_cons]; omega
      · exact this

theorem wpAny_inv (I : Array Bool → Act → World → Prop)
    (step : ∀ listed a w i, I listed a w → i ∈ Region.ready md ops listed → wpOp P ops Q i (I (listed.setIfInBounds i true)) a w)
    (done : ∀ listed a w, I listed a w → Region.ready md ops listed = [] → Q .normal a w) :
    ∀ fuel listed a w, unlisted listed ops.size ≤ fuel → I listed a w → wpAny P md ops Q fuel listed a w := by
  intro fuel
  induction fuel with
  | zero =>
    intro listed a w hf hI
    have hr : Region.ready md ops listed = [] := by
      rcases List.eq_nil_or_concat (Region.ready md ops listed) with h | ⟨l, i, h⟩
      · exact h
      · have hi : i ∈ Region.ready md ops listed := by rw [h]; simp
        obtain ⟨h1, o, ho, _⟩ := mem_ready.1 hi
        have hm : i ∈ (List.range ops.size).filter fun i => !listed.getD i true := by
          rw [List.mem_filter]
          exact ⟨List.mem_range.2 (Array.getElem?_eq_some_iff.1 ho).1, by rw [h1]; rfl⟩
        have := List.length_pos_of_mem hm
        unfold unlisted at hf
        omega
    exact ⟨hr, done _ _ _ hI hr⟩
  | succ fuel ih =>
    intro listed a w hf hI
    refine ⟨done _ _ _ hI, fun i hi => ?_⟩
    obtain ⟨h1, o, ho, _⟩ := mem_ready.1 hi
    have hlt := filter_set_lt listed i h1 (List.range ops.size) (List.mem_range.2 (Array.getElem?_eq_some_iff.1 ho).1)
    refine wpOp_mono (fun a' w' h' => ih _ a' w' ?_ h') (step listed a w i hI hi)
    unfold unlisted at hf ⊢
    omega

/-- A drawn region, operation by operation. S holds of each world that comes; R tells how a world goes over into the next; what a slot is said to hold stays so. -/
theorem wp_region_slots {id : Nat} {a0 : Act} {w0 : World} (S : World → Prop) (R : World → World → Prop) (p : Nat → Value → World → Prop) (hm : P.follows .mixedOrders = true) (hap : apartB ops a0.tmps.size = true) (hfw : forwardB .any ops = true)
    (hS : S w0.drew) (hp : ∀ i v w w', S w → S w' → R w w' → p i v w → p i v w') (hs : SlotSteps P .any ops Q S R p a0 0 ops.toList)
    (hd : ∀ a w, S w → Like ops a0 a → (∀ j k, slotB ops j k = true → p j (a.tmps.getD k undef) w) → (∀ j, j < ops.size → ∃ v, p j v w) → Q .normal a w) : (Code.region id ops true).wp P Q a0 w0 := by
  have hdst : ∀ (i : Nat) (o : Oper) (k : Nat), ops[i]? = some o → o.dst = some k → k < a0.tmps.size ∧ ∀ (j : Nat) (oj : Oper), ops[j]? = some oj → oj.dst = some k → i = j := by
    intro i o k ho hk
    have hi := (Array.getElem?_eq_some_iff.1 ho).1
    have h1 := List.all_eq_true.1 hap i (List.mem_range.2 hi)
    have h2 : ops.getD i default = o := by simp [Array.getD_eq_getD_getElem?, ho]
    rw [h2, hk] at h1
    simp only [Bool.and_eq_true, decide_eq_true_eq] at h1
    refine ⟨h1.1, fun j oj hj hjk => ?_⟩
    have hj' := (Array.getElem?_eq_some_iff.1 hj).1
    have h3 := List.all_eq_true.1 h1.2 j (List.mem_range.2 hj')
    have h4 : ops.getD j default = oj := by simp [Array.getD_eq_getD_getElem?, hj]
    rw [h4, hjk] at h3
    simpa using h3
  refine wp_region_any hm ?_
  refine wpAny_inv (fun listed a w => listed.size = ops.size ∧ S w ∧ Like ops a0 a ∧ (∀ j, listed.getD j false = true → ∃ v, p j v w) ∧ ∀ j k, listed.getD j false = true → slotB ops j k = true → p j (a.tmps.getD k undef) w) ?_ ?_ _ _ _ _ ?_ ⟨by simp, hS, ⟨rfl, rfl, fun _ _ => rfl⟩, ?_, ?_⟩
  · rintro listed a w i ⟨hz, hSw, hL, hE, hP⟩ hi
    obtain ⟨hjun, o, ho, hall⟩ := mem_ready.1 hi
    have hilt := (Array.getElem?_eq_some_iff.1 ho).1
    have hst := SlotSteps.get ops.toList 0 hs i o (by simpa using ho)
    rw [Nat.zero_add] at hst
    obtain ⟨hw, hx⟩ := hst a w hSw hL (fun j k hj hk => hP j k (by
      unfold waitsB at hj
      obtain ⟨e, he, h2⟩ := Array.any_eq_true'.1 hj
      simp only [Bool.and_eq_true, beq_iff_eq] at h2
      have := hall e he h2.2
      rw [h2.1] at this
      exact this) hk)
    unfold wpOp
    simp only [ho, hw, if_true]
    refine .inl (Oper.wp_mono ?_ hx)
    rintro a' w' ⟨v, rfl, hS', hR', hpv⟩
    refine ⟨by simpa using hz, hS', ⟨?_, ?_, fun k hk => ?_⟩, fun j hj => ?_, fun j k hj hk => ?_⟩
    · cases h : o.dst <;> exact hL.defers
    · cases h : o.dst
      · exact hL.size
      · simp only [Act.put, Array.size_setIfInBounds]; exact hL.size
    · cases h : o.dst with
      | none => exact hL.far k hk
      | some d =>
        have hne : d ≠ k := fun e => by
          subst e
          unfold outside at hk
          have := Array.all_eq_true.1 hk i hilt
          rw [(Array.getElem?_eq_some_iff.1 ho).2, h] at this
          simp at this
        simp only [Act.put, Array.getD_eq_getD_getElem?, Array.getElem?_setIfInBounds, if_neg hne]
        have := hL.far k hk
        simpa only [Array.getD_eq_getD_getElem?] using this
    · by_cases hji : j = i
      · subst hji; exact ⟨v, hpv⟩
      · have hjl : listed.getD j false = true := by
          simp only [Array.getD_eq_getD_getElem?, Array.getElem?_setIfInBounds, if_neg (Ne.symm hji)] at hj ⊢
          exact hj
        obtain ⟨u, hu⟩ := hE j hjl
        exact ⟨u, hp j _ w w' hSw hS' hR' hu⟩
    · obtain ⟨oj, hoj, hjk⟩ : ∃ oj, ops[j]? = some oj ∧ oj.dst = some k := by
        unfold slotB at hk
        cases h : ops[j]? with
        | none => rw [h] at hk; cases hk
        | some oj => rw [h] at hk; exact ⟨oj, rfl, by simpa using hk⟩
      by_cases hji : j = i
      · subst hji
        rw [hoj] at ho
        cases ho
        have hkz := (hdst j _ k hoj hjk).1
        rw [hjk]
        have : (a.put (some k) v).tmps.getD k undef = v := by
          have : k < a.tmps.size := by rw [hL.size]; exact hkz
          simp [Act.put, Array.getD_eq_getD_getElem?, this]
        rw [this]
        exact hpv
      · have hjl : listed.getD j false = true := by
          simp only [Array.getD_eq_getD_getElem?, Array.getElem?_setIfInBounds, if_neg (Ne.symm hji)] at hj ⊢
          exact hj
        have h1 := hp j _ w w' hSw hS' hR' (hP j k hjl hk)
        cases h : o.dst with
        | none => exact h1
        | some d =>
          have hne : d ≠ k := fun e => by
            subst e
            exact hji ((hdst i o d ho h).2 j oj hoj hjk).symm
          simp only [Act.put, Array.getD_eq_getD_getElem?, Array.getElem?_setIfInBounds, if_neg hne] at h1 ⊢
          exact h1
  · rintro listed a w ⟨hz, hSw, hL, hE, hP⟩ hr
    have hall : ∀ n j, j < n → j < ops.size → listed.getD j false = true := by
      intro n
      induction n with
      | zero => intro j h; omega
      | succ n ih =>
        intro j hjn hj
        cases hl : listed.getD j true with
        | true =>
          have : j < listed.size := by omega
          simpa [Array.getD_eq_getD_getElem?, this] using hl
        | false =>
          exfalso
          have hmem : j ∈ Region.ready .any ops listed := mem_ready.2 ⟨hl, ops[j], by simp [hj], fun e he hb => by
            have h1 := List.all_eq_true.1 hfw j (List.mem_range.2 hj)
            have h2 : ops.getD j default = ops[j] := by simp [Array.getD_eq_getD_getElem?, hj]
            rw [h2] at h1
            have h3 := Array.all_eq_true_iff_forall_mem.1 h1 e he
            rw [hb] at h3
            simp at h3
            exact ih e.on (by omega) (by omega)⟩
          rw [hr] at hmem
          cases hmem
    refine hd a w hSw hL (fun j k hk => hP j k (hall (j + 1) j (by omega) ?_) hk) (fun j hj => hE j (hall (j + 1) j (by omega) hj))
    unfold slotB at hk
    cases h : ops[j]? with
    | none => rw [h] at hk; cases hk
    | some oj => exact (Array.getElem?_eq_some_iff.1 h).1
  · unfold unlisted
    exact Nat.le_trans (List.length_filter_le _ _) (by simp)
  · intro j hj
    simp only [Array.getD_eq_getD_getElem?, Array.getElem?_replicate] at hj
    split at hj <;> simp at hj
  · intro j k hj
    simp only [Array.getD_eq_getD_getElem?, Array.getElem?_replicate] at hj
    split at hj <;> simp at hj
end
end Go.Kt
namespace Go.Kt
open Go
section
variable {P : Program} {ops : Array Oper} {Q : Exit → Act → World → Prop}
theorem SlotSteps.cons {S : World → Prop} {R : World → World → Prop} {p : Nat → Value → World → Prop} {a0 : Act} {md : Region.Mode} {i : Nat} {o : Oper} {r : List Oper}
    (h : SlotStep P md ops Q S R p a0 i o) (hr : SlotSteps P md ops Q S R p a0 (i + 1) r) : SlotSteps P md ops Q S R p a0 i (o :: r) := ⟨h, hr⟩
theorem SlotSteps.nil {S : World → Prop} {R : World → World → Prop} {p : Nat → Value → World → Prop} {a0 : Act} {md : Region.Mode} {i : Nat} : SlotSteps P md ops Q S R p a0 i [] := trivial
theorem wanted_true {o : Oper} {a : Act} {j : Nat} {b : Bool} (k : Nat) (hg : o.guard = some (j, b)) (hk : slotB ops j k = true) (h : a.tmps.getD k undef = .bool b) : Region.wanted o (yielded ops a.tmps) = true := by
  have h1 : a.tmps[k]? = some (.bool b) := by
    rw [Array.getD_eq_getD_getElem?] at h
    cases hx : a.tmps[k]? with
    | none => rw [hx] at h; cases h
    | some v => rw [hx] at h; simp at h; rw [h]
  unfold slotB at hk
  unfold Region.wanted yielded
  rw [hg]
  cases ho : ops[j]? with
  | none => rw [ho] at hk; cases hk
  | some oj =>
    rw [ho] at hk
    have : oj.dst = some k := by simpa using hk
    have h2 : (ops[j]?.bind fun x => x.dst).bind (fun x => a.tmps[x]?) = some (.bool b) := by rw [ho]; simp only [Option.bind_some, this, h1]
    simp only [h2]
    cases b <;> rfl
theorem wp_value {o : Oper} {a : Act} {w w' : World} {v : Value} {K : Act → World → Prop} (h : (execOp a.eval o).run P w = .ok (.value v) w') (hK : K (a.put o.dst v) w') : o.wp P a w K Q := by
  unfold Oper.wp; rw [h]; exact hK
theorem wp_enter {o : Oper} {a : Act} {w w' : World} {f : Nat} {args : Array Value} {K : Act → World → Prop} (h : (execOp a.eval o).run P w = .ok (.enter f args) w')
    (hK : Calls P f args w' fun e w'' => ∃ v, e = .returned v ∧ K (a.put o.dst v) w'') : o.wp P a w K Q := by
  unfold Oper.wp; rw [h]
  refine Calls.mono hK fun e w'' he => ?_
  obtain ⟨v, rfl, hv⟩ := he
  exact hv
theorem wp_skipped {o : Oper} {a : Act} {w w' : World} {K : Act → World → Prop} (h : (execOp a.eval o).run P w = .ok .skip w') (hK : K (a.put o.dst undef) w') : o.wp P a w K Q := by
  unfold Oper.wp; rw [h]; exact hK
theorem run_val {m : Sem Value} {w w' : World} {v : Value} (h : m.run P w = .ok v w') : (m >>= fun x => pure (Next.value x)).run P w = .ok (.value v) w' := by
  simp [h]
theorem exec_convert {o : Oper} {a : Act} {w w' : World} {src dst : TypeId} {x : Operand} {u v : Value} (ho : o.op = .convert src dst x) (hx : a.eval x = u) (h : (convert src dst u).run P w = .ok v w') : (execOp a.eval o).run P w = .ok (.value v) w' := by
  unfold execOp; rw [ho]; simp only [hx]; exact run_val h
end
end Go.Kt
namespace Go.Kt
open Go
section
variable {P : Program} {ops : Array Oper} {Q : Exit → Act → World → Prop} {o : Oper} {a : Act} {w w' : World}
theorem exec_load {t : TypeId} {x : Operand} {u v : Value} (ho : o.op = .load t x) (hx : a.eval x = u) (h : (Instr.loadAt t u).run P w = .ok v w') : (execOp a.eval o).run P w = .ok (.value v) w' := by
  unfold execOp; rw [ho]; simp only [hx]; exact run_val h
theorem exec_binop {op : BinOp} {t ty : TypeId} {x y : Operand} {u1 u2 v : Value} (ho : o.op = .binOp op t x y ty) (hx : a.eval x = u1) (hy : a.eval y = u2) (h : (do eqGuard op t x y u1 u2; binOp op t u1 u2 : Sem Value).run P w = .ok v w') : (execOp a.eval o).run P w = .ok (.value v) w' := by
  unfold execOp; rw [ho]; simp only [hx, hy]; exact run_val h
theorem exec_move {x : Operand} {u : Value} (ho : o.op = .move x) (hx : a.eval x = u) : (execOp a.eval o).run P w = .ok (.value u) w := by
  unfold execOp; rw [ho]; simp only [hx]; rfl
theorem exec_pick {c x y : Operand} {b : Bool} {u1 u2 : Value} (ho : o.op = .pick c x y) (hc : a.eval c = .bool b) (hx : a.eval x = u1) (hy : a.eval y = u2) : (execOp a.eval o).run P w = .ok (.value (if b then u1 else u2)) w := by
  unfold execOp; rw [ho]; simp only [hc, hx, hy]; rfl
theorem exec_store {t : TypeId} {x y : Operand} {u1 u2 : Value} (ho : o.op = .store t x y) (hx : a.eval x = u1) (hy : a.eval y = u2) (h : (Instr.storeAt t u1 u2).run P w = .ok () w') : (execOp a.eval o).run P w = .ok .skip w' := by
  unfold execOp; rw [ho]; simp only [hx, hy]; simp [h]
theorem exec_call {f : FuncId} {args : Array Operand} {ats : Array TypeId} {vs : Array Value} {fn : Func} (ho : o.op = .call ⟨.value (.func f), args, ats⟩) (hx : args.map a.eval = vs) (hf : P.funcs[f]? = some fn) (hn : (fn.name == "runtime.NumGoroutine") = false) (hb : fn.body.isNone = false) : (execOp a.eval o).run P w = .ok (.enter f vs) w := by
  unfold execOp; rw [ho]; simp only [resolve, hx, Act.eval, Deferred.ofValue, invoke, callFunc]
  have h1 : ¬ fn.name = "runtime.NumGoroutine" := fun h => by rw [h] at hn; exact absurd hn (by decide)
  have h2 : ¬ fn.body = none := fun h => by rw [h] at hb; cases hb
  simp [hf, h1, h2]
end
end Go.Kt
namespace Go.Kt
open Go
section
variable {P : Program} {ops : Array Oper} {o : Oper} {a : Act} {w w' : World}
/-- The region's slots. -/
def dsts (ops : Array Oper) : List Nat := ops.toList.filterMap (·.dst)
theorem foldl_set_size (f : Nat → Value) : ∀ (ks : List Nat) (t : Array Value), (ks.foldl (fun t k => t.setIfInBounds k (f k)) t).size = t.size
  | [], _ => rfl
  | k :: ks, t => by rw [List.foldl_cons, foldl_set_size f ks]; simp
theorem foldl_set_get (f : Nat → Value) : ∀ (ks : List Nat) (t : Array Value) (i : Nat), i < t.size → (ks.foldl (fun t k => t.setIfInBounds k (f k)) t).getD i undef = if i ∈ ks then f i else t.getD i undef
  | [], t, i, _ => by simp
  | k :: ks, t, i, h => by
    rw [List.foldl_cons, foldl_set_get f ks _ i (by simpa using h)]
    by_cases h1 : i ∈ ks
    · simp [h1]
    · by_cases h2 : k = i
      · subst h2
        simp [h1, Array.getD_eq_getD_getElem?, h]
      · simp [h1, Ne.symm h2, Array.getD_eq_getD_getElem?, h2]
/-- The frame at hand, written out: the first one with the region's slots anew. -/
theorem Like.out {a0 : Act} (h : Like ops a0 a) (ks : List Nat) (hk : dsts ops = ks) : ∃ f : Nat → Value, a = ⟨ks.foldl (fun t k => t.setIfInBounds k (f k)) a0.tmps, a0.defers⟩ ∧ ∀ k, f k = a.tmps.getD k undef := by
  refine ⟨fun k => a.tmps.getD k undef, ?_, fun _ => rfl⟩
  obtain ⟨t, d⟩ := a
  obtain ⟨h1, h2, h3⟩ := h
  simp only at h1 h2 h3 ⊢
  subst h1
  congr 1
  refine Array.ext (by rw [foldl_set_size]; exact h2) fun i hi hi' => ?_
  have hlt : i < a0.tmps.size := by rw [← h2]; exact hi
  have e1 : t[i] = t.getD i undef := by simp [Array.getD_eq_getD_getElem?, hi]
  have e2 : ∀ (x : Array Value) (hx : i < x.size), x[i] = x.getD i undef := fun x hx => by simp [Array.getD_eq_getD_getElem?, hx]
  rw [e1, e2 _ hi', foldl_set_get _ _ _ _ hlt]
  by_cases hno : i ∈ ks
  · rw [if_pos hno]
  · rw [if_neg hno]
    refine h3 i ?_
    unfold outside
    rw [Array.all_eq_true_iff_forall_mem]
    intro x hx
    have : x.dst ≠ some i := fun e => hno (by
      rw [← hk]
      exact List.mem_filterMap.2 ⟨x, by simpa using hx, e⟩)
    simpa using this
theorem exec_unop {op : UnOp} {t : TypeId} {x : Operand} {u v : Value} (ho : o.op = .unOp op t x) (hx : a.eval x = u) (h : (Op.unary op u).run P w = .ok v w') : (execOp a.eval o).run P w = .ok (.value v) w' := by
  unfold execOp; rw [ho]; simp only [hx]; exact run_val h
end
end Go.Kt
