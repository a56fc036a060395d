/- PointsKnown answers true (the chapter's examples; by the document's answer every first byte with bytes at the bounds behind it, and numbers at the bounds), in any world in which the package's variables are laid. -/
import Derived.OrdersHeld
import Derived.WalkKit
import Derived.Test.YtpddpglccjbpfaaDoorQb
import Derived.Test.YtpddpglccjbpfaaDoorQc
import Derived.Test.YtpddpglccjbpfaaDoorW
import Derived.Test.YtpddpglccjbpfaaDoorQa
import Derived.LaidHandle
import Derived.Test.YtpddpglccjbpfaaDoorCards
/- What is the same of any program: a drawn region is gone through operation by operation, not order by order: each operation leaves in its slot what it is said to leave, whatever has come up ahead of it. -/
namespace Go.Kt
open Go

section
variable {P : Program} {ops : Array Oper} {Q : Exit → Act → World → Prop} {md : Region.Mode}

/-- No operation of the region has this slot. -/
def outside (ops : Array Oper) (k : Nat) : Bool := ops.all fun o => o.dst != some k
/-- All slots are different, and lie in the frame. -/
def apartB (ops : Array Oper) (n : Nat) : Bool :=
  (List.range ops.size).all fun i => match (ops.getD i default).dst with
    | none => true
    | some k => decide (k < n) && (List.range ops.size).all fun j => i == j || (ops.getD j default).dst != some k
/-- Operations wait for earlier ones alone. -/
def forwardB (md : Region.Mode) (ops : Array Oper) : Bool :=
  (List.range ops.size).all fun i => (ops.getD i default).after.all fun e => !Region.binds md e || decide (e.on < i)
/-- 'o' waits for operation number j. -/
def waitsB (md : Region.Mode) (o : Oper) (j : Nat) : Bool := o.after.any fun e => e.on == j && Region.binds md e
def slotB (ops : Array Oper) (j k : Nat) : Bool := match ops[j]? with | some o => o.dst == some k | none => false

/-- The frame at hand is the first one but for the region's slots. -/
structure Like (ops : Array Oper) (a0 a : Act) : Prop where
  defers : a.defers = a0.defers
  size : a.tmps.size = a0.tmps.size
  far : ∀ k, outside ops k = true → a.tmps.getD k undef = a0.tmps.getD k undef

/-- One operation: where those that it waits for have left what they are said to leave, it is wanted, and leaves what it is said to leave. -/
def SlotStep (P : Program) (md : Region.Mode) (ops : Array Oper) (Q : Exit → Act → World → Prop) (S : World → Prop) (R : World → World → Prop) (p : Nat → Value → World → Prop) (a0 : Act) (i : Nat) (o : Oper) : Prop :=
  ∀ a w, S w → Like ops a0 a → (∀ j k, waitsB md o j = true → slotB ops j k = true → p j (a.tmps.getD k undef) w) →
    Region.wanted o (yielded ops a.tmps) = true ∧ o.wp P a w (fun a' w' => ∃ v, a' = a.put o.dst v ∧ S w' ∧ R w w' ∧ p i v w') Q
def SlotSteps (P : Program) (md : Region.Mode) (ops : Array Oper) (Q : Exit → Act → World → Prop) (S : World → Prop) (R : World → World → Prop) (p : Nat → Value → World → Prop) (a0 : Act) : Nat → List Oper → Prop
  | _, [] => True
  | i, o :: r => SlotStep P md ops Q S R p a0 i o ∧ SlotSteps P md ops Q S R p a0 (i + 1) r
theorem SlotSteps.get {S : World → Prop} {R : World → World → Prop} {p : Nat → Value → World → Prop} {a0 : Act} : ∀ (l : List Oper) (i : Nat), SlotSteps P md ops Q S R p a0 i l → ∀ j o, l[j]? = some o → SlotStep P md ops Q S R p a0 (i + j) o
  | [], _, _, j, o, h => by simp at h
  | x :: r, i, hs, 0, o, h => by simp at h; subst h; exact hs.1
  | x :: r, i, hs, j + 1, o, h => by
    have := SlotSteps.get r (i + 1) hs.2 j o (by simpa using h)
    rw [show i + (j + 1) = i + 1 + j by omega]; exact this

def unlisted (listed : Array Bool) (n : Nat) : Nat := ((List.range n).filter fun i => !listed.getD i true).length
theorem filter_set_lt (listed : Array Bool) (i : Nat) (h : listed.getD i true = false) : ∀ (l : List Nat), i ∈ l →
    (l.filter fun j => !(listed.setIfInBounds i true).getD j true).length < (l.filter fun j => !listed.getD j true).length := by
  have hi : i < listed.size := by
    rcases Nat.lt_or_ge i listed.size with h' | h'
    · exact h'
    · simp [Array.getD, Nat.not_lt.2 h'] at h
  have hle : ∀ l : List Nat, (l.filter fun j => !(listed.setIfInBounds i true).getD j true).length ≤ (l.filter fun j => !listed.getD j true).length := by
    intro l
    induction l with
    | nil => simp
    | cons x r ih =>
      by_cases hx : x = i
      · subst hx
        have h1 : (listed.setIfInBounds x true).getD x true = true := by simp [Array.getD, hi]
        simp only [List.filter_cons, h1, h, Bool.not_true, Bool.not_false, if_true, Bool.false_eq_true, if_false, List.length_cons]
        omega
      · have h1 : (listed.setIfInBounds i true).getD x true = listed.getD x true := by
          simp only [Array.getD_eq_getD_getElem?, Array.getElem?_setIfInBounds, if_neg (Ne.symm hx)]
        simp only [List.filter_cons, h1]
        split
        · simp only [List.length_cons]; omega
        · exact ih
  intro l
  induction l with
  | nil => intro hm; cases hm
  | cons x r ih =>
    intro hm
    by_cases hx : x = i
    · subst hx
      have h1 : (listed.setIfInBounds x true).getD x true = true := by simp [Array.getD, hi]
      have := hle r
      simp only [List.filter_cons, h1, h, Bool.not_true, Bool.not_false, if_true, Bool.false_eq_true, if_false, List.length_cons]
      omega
    · have h1 : (listed.setIfInBounds i true).getD x true = listed.getD x true := by
        simp only [Array.getD_eq_getD_getElem?, Array.getElem?_setIfInBounds, if_neg (Ne.symm hx)]
      have hm' : i ∈ r := by
        rcases List.mem_cons.1 hm with h | h
        · exact absurd h.symm hx
        · exact h
      have := ih hm'
      simp only [List.filter_cons, h1]
      split
      · simp only [List.length_cons]; omega
      · exact this

theorem wpAny_inv (I : Array Bool → Act → World → Prop)
    (step : ∀ listed a w i, I listed a w → i ∈ Region.ready md ops listed → wpOp P ops Q i (I (listed.setIfInBounds i true)) a w)
    (done : ∀ listed a w, I listed a w → Region.ready md ops listed = [] → Q .normal a w) :
    ∀ fuel listed a w, unlisted listed ops.size ≤ fuel → I listed a w → wpAny P md ops Q fuel listed a w := by
  intro fuel
  induction fuel with
  | zero =>
    intro listed a w hf hI
    have hr : Region.ready md ops listed = [] := by
      rcases List.eq_nil_or_concat (Region.ready md ops listed) with h | ⟨l, i, h⟩
      · exact h
      · have hi : i ∈ Region.ready md ops listed := by rw [h]; simp
        obtain ⟨h1, o, ho, _⟩ := mem_ready.1 hi
        have hm : i ∈ (List.range ops.size).filter fun i => !listed.getD i true := by
          rw [List.mem_filter]
          exact ⟨List.mem_range.2 (Array.getElem?_eq_some_iff.1 ho).1, by rw [h1]; rfl⟩
        have := List.length_pos_of_mem hm
        unfold unlisted at hf
        omega
    exact ⟨hr, done _ _ _ hI hr⟩
  | succ fuel ih =>
    intro listed a w hf hI
    refine ⟨done _ _ _ hI, fun i hi => ?_⟩
    obtain ⟨h1, o, ho, _⟩ := mem_ready.1 hi
    have hlt := filter_set_lt listed i h1 (List.range ops.size) (List.mem_range.2 (Array.getElem?_eq_some_iff.1 ho).1)
    refine wpOp_mono (fun a' w' h' => ih _ a' w' ?_ h') (step listed a w i hI hi)
    unfold unlisted at hf ⊢
    omega

/-- A drawn region, operation by operation. S holds of each world that comes; R tells how a world goes over into the next; what a slot is said to hold stays so. -/
theorem wp_region_slots {id : Nat} {a0 : Act} {w0 : World} (S : World → Prop) (R : World → World → Prop) (p : Nat → Value → World → Prop) (hm : P.follows .mixedOrders = true) (hap : apartB ops a0.tmps.size = true) (hfw : forwardB .any ops = true)
    (hS : S w0.drew) (hp : ∀ i v w w', S w → S w' → R w w' → p i v w → p i v w') (hs : SlotSteps P .any ops Q S R p a0 0 ops.toList)
    (hd : ∀ a w, S w → Like ops a0 a → (∀ j k, slotB ops j k = true → p j (a.tmps.getD k undef) w) → (∀ j, j < ops.size → ∃ v, p j v w) → Q .normal a w) : (Code.region id ops true).wp P Q a0 w0 := by
  have hdst : ∀ (i : Nat) (o : Oper) (k : Nat), ops[i]? = some o → o.dst = some k → k < a0.tmps.size ∧ ∀ (j : Nat) (oj : Oper), ops[j]? = some oj → oj.dst = some k → i = j := by
    intro i o k ho hk
    have hi := (Array.getElem?_eq_some_iff.1 ho).1
    have h1 := List.all_eq_true.1 hap i (List.mem_range.2 hi)
    have h2 : ops.getD i default = o := by simp [Array.getD_eq_getD_getElem?, ho]
    rw [h2, hk] at h1
    simp only [Bool.and_eq_true, decide_eq_true_eq] at h1
    refine ⟨h1.1, fun j oj hj hjk => ?_⟩
    have hj' := (Array.getElem?_eq_some_iff.1 hj).1
    have h3 := List.all_eq_true.1 h1.2 j (List.mem_range.2 hj')
    have h4 : ops.getD j default = oj := by simp [Array.getD_eq_getD_getElem?, hj]
    rw [h4, hjk] at h3
    simpa using h3
  refine wp_region_any hm ?_
  refine wpAny_inv (fun listed a w => listed.size = ops.size ∧ S w ∧ Like ops a0 a ∧ (∀ j, listed.getD j false = true → ∃ v, p j v w) ∧ ∀ j k, listed.getD j false = true → slotB ops j k = true → p j (a.tmps.getD k undef) w) ?_ ?_ _ _ _ _ ?_ ⟨by simp, hS, ⟨rfl, rfl, fun _ _ => rfl⟩, ?_, ?_⟩
  · rintro listed a w i ⟨hz, hSw, hL, hE, hP⟩ hi
    obtain ⟨hjun, o, ho, hall⟩ := mem_ready.1 hi
    have hilt := (Array.getElem?_eq_some_iff.1 ho).1
    have hst := SlotSteps.get ops.toList 0 hs i o (by simpa using ho)
    rw [Nat.zero_add] at hst
    obtain ⟨hw, hx⟩ := hst a w hSw hL (fun j k hj hk => hP j k (by
      unfold waitsB at hj
      obtain ⟨e, he, h2⟩ := Array.any_eq_true'.1 hj
      simp only [Bool.and_eq_true, beq_iff_eq] at h2
      have := hall e he h2.2
      rw [h2.1] at this
      exact this) hk)
    unfold wpOp
    simp only [ho, hw, if_true]
    refine .inl (Oper.wp_mono ?_ hx)
    rintro a' w' ⟨v, rfl, hS', hR', hpv⟩
    refine ⟨by simpa using hz, hS', ⟨?_, ?_, fun k hk => ?_⟩, fun j hj => ?_, fun j k hj hk => ?_⟩
    · cases h : o.dst <;> exact hL.defers
    · cases h : o.dst
      · exact hL.size
      · simp only [Act.put, Array.size_setIfInBounds]; exact hL.size
    · cases h : o.dst with
      | none => exact hL.far k hk
      | some d =>
        have hne : d ≠ k := fun e => by
          subst e
          unfold outside at hk
          have := Array.all_eq_true.1 hk i hilt
          rw [(Array.getElem?_eq_some_iff.1 ho).2, h] at this
          simp at this
        simp only [Act.put, Array.getD_eq_getD_getElem?, Array.getElem?_setIfInBounds, if_neg hne]
        have := hL.far k hk
        simpa only [Array.getD_eq_getD_getElem?] using this
    · by_cases hji : j = i
      · subst hji; exact ⟨v, hpv⟩
      · have hjl : listed.getD j false = true := by
          simp only [Array.getD_eq_getD_getElem?, Array.getElem?_setIfInBounds, if_neg (Ne.symm hji)] at hj ⊢
          exact hj
        obtain ⟨u, hu⟩ := hE j hjl
        exact ⟨u, hp j _ w w' hSw hS' hR' hu⟩
    · obtain ⟨oj, hoj, hjk⟩ : ∃ oj, ops[j]? = some oj ∧ oj.dst = some k := by
        unfold slotB at hk
        cases h : ops[j]? with
        | none => rw [h] at hk; cases hk
        | some oj => rw [h] at hk; exact ⟨oj, rfl, by simpa using hk⟩
      by_cases hji : j = i
      · subst hji
        rw [hoj] at ho
        cases ho
        have hkz := (hdst j _ k hoj hjk).1
        rw [hjk]
        have : (a.put (some k) v).tmps.getD k undef = v := by
          have : k < a.tmps.size := by rw [hL.size]; exact hkz
          simp [Act.put, Array.getD_eq_getD_getElem?, this]
        rw [this]
        exact hpv
      · have hjl : listed.getD j false = true := by
          simp only [Array.getD_eq_getD_getElem?, Array.getElem?_setIfInBounds, if_neg (Ne.symm hji)] at hj ⊢
          exact hj
        have h1 := hp j _ w w' hSw hS' hR' (hP j k hjl hk)
        cases h : o.dst with
        | none => exact h1
        | some d =>
          have hne : d ≠ k := fun e => by
            subst e
            exact hji ((hdst i o d ho h).2 j oj hoj hjk).symm
          simp only [Act.put, Array.getD_eq_getD_getElem?, Array.getElem?_setIfInBounds, if_neg hne] at h1 ⊢
          exact h1
  · rintro listed a w ⟨hz, hSw, hL, hE, hP⟩ hr
    have hall : ∀ n j, j < n → j < ops.size → listed.getD j false = true := by
      intro n
      induction n with
      | zero => intro j h; omega
      | succ n ih =>
        intro j hjn hj
        cases hl : listed.getD j true with
        | true =>
          have : j < listed.size := by omega
          simpa [Array.getD_eq_getD_getElem?, this] using hl
        | false =>
          exfalso
          have hmem : j ∈ Region.ready .any ops listed := mem_ready.2 ⟨hl, ops[j], by simp [hj], fun e he hb => by
            have h1 := List.all_eq_true.1 hfw j (List.mem_range.2 hj)
            have h2 : ops.getD j default = ops[j] := by simp [Array.getD_eq_getD_getElem?, hj]
            rw [h2] at h1
            have h3 := Array.all_eq_true_iff_forall_mem.1 h1 e he
            rw [hb] at h3
            simp at h3
            exact ih e.on (by omega) (by omega)⟩
          rw [hr] at hmem
          cases hmem
    refine hd a w hSw hL (fun j k hk => hP j k (hall (j + 1) j (by omega) ?_) hk) (fun j hj => hE j (hall (j + 1) j (by omega) hj))
    unfold slotB at hk
    cases h : ops[j]? with
    | none => rw [h] at hk; cases hk
    | some oj => exact (Array.getElem?_eq_some_iff.1 h).1
  · unfold unlisted
    exact Nat.le_trans (List.length_filter_le _ _) (by simp)
  · intro j hj
    simp only [Array.getD_eq_getD_getElem?, Array.getElem?_replicate] at hj
    split at hj <;> simp at hj
  · intro j k hj
    simp only [Array.getD_eq_getD_getElem?, Array.getElem?_replicate] at hj
    split at hj <;> simp at hj
end
end Go.Kt
namespace Go.Kt
open Go
section
variable {P : Program} {ops : Array Oper} {Q : Exit → Act → World → Prop}
theorem SlotSteps.cons {S : World → Prop} {R : World → World → Prop} {p : Nat → Value → World → Prop} {a0 : Act} {md : Region.Mode} {i : Nat} {o : Oper} {r : List Oper}
    (h : SlotStep P md ops Q S R p a0 i o) (hr : SlotSteps P md ops Q S R p a0 (i + 1) r) : SlotSteps P md ops Q S R p a0 i (o :: r) := ⟨h, hr⟩
theorem SlotSteps.nil {S : World → Prop} {R : World → World → Prop} {p : Nat → Value → World → Prop} {a0 : Act} {md : Region.Mode} {i : Nat} : SlotSteps P md ops Q S R p a0 i [] := trivial
theorem wanted_true {o : Oper} {a : Act} {j : Nat} {b : Bool} (k : Nat) (hg : o.guard = some (j, b)) (hk : slotB ops j k = true) (h : a.tmps.getD k undef = .bool b) : Region.wanted o (yielded ops a.tmps) = true := by
  have h1 : a.tmps[k]? = some (.bool b) := by
    rw [Array.getD_eq_getD_getElem?] at h
    cases hx : a.tmps[k]? with
    | none => rw [hx] at h; cases h
    | some v => rw [hx] at h; simp at h; rw [h]
  unfold slotB at hk
  unfold Region.wanted yielded
  rw [hg]
  cases ho : ops[j]? with
  | none => rw [ho] at hk; cases hk
  | some oj =>
    rw [ho] at hk
    have : oj.dst = some k := by simpa using hk
    have h2 : (ops[j]?.bind fun x => x.dst).bind (fun x => a.tmps[x]?) = some (.bool b) := by rw [ho]; simp only [Option.bind_some, this, h1]
    simp only [h2]
    cases b <;> rfl
theorem wp_value {o : Oper} {a : Act} {w w' : World} {v : Value} {K : Act → World → Prop} (h : (execOp a.eval o).run P w = .ok (.value v) w') (hK : K (a.put o.dst v) w') : o.wp P a w K Q := by
  unfold Oper.wp; rw [h]; exact hK
theorem wp_enter {o : Oper} {a : Act} {w w' : World} {f : Nat} {args : Array Value} {K : Act → World → Prop} (h : (execOp a.eval o).run P w = .ok (.enter f args) w')
    (hK : Calls P f args w' fun e w'' => ∃ v, e = .returned v ∧ K (a.put o.dst v) w'') : o.wp P a w K Q := by
  unfold Oper.wp; rw [h]
  refine Calls.mono hK fun e w'' he => ?_
  obtain ⟨v, rfl, hv⟩ := he
  exact hv
theorem wp_skipped {o : Oper} {a : Act} {w w' : World} {K : Act → World → Prop} (h : (execOp a.eval o).run P w = .ok .skip w') (hK : K (a.put o.dst undef) w') : o.wp P a w K Q := by
  unfold Oper.wp; rw [h]; exact hK
theorem run_val {m : Sem Value} {w w' : World} {v : Value} (h : m.run P w = .ok v w') : (m >>= fun x => pure (Next.value x)).run P w = .ok (.value v) w' := by
  simp [h]
theorem exec_convert {o : Oper} {a : Act} {w w' : World} {src dst : TypeId} {x : Operand} {u v : Value} (ho : o.op = .convert src dst x) (hx : a.eval x = u) (h : (convert src dst u).run P w = .ok v w') : (execOp a.eval o).run P w = .ok (.value v) w' := by
  unfold execOp; rw [ho]; simp only [hx]; exact run_val h
end
end Go.Kt
namespace Go.Kt
open Go
section
variable {P : Program} {ops : Array Oper} {Q : Exit → Act → World → Prop} {o : Oper} {a : Act} {w w' : World}
theorem exec_load {t : TypeId} {x : Operand} {u v : Value} (ho : o.op = .load t x) (hx : a.eval x = u) (h : (Instr.loadAt t u).run P w = .ok v w') : (execOp a.eval o).run P w = .ok (.value v) w' := by
  unfold execOp; rw [ho]; simp only [hx]; exact run_val h
theorem exec_binop {op : BinOp} {t ty : TypeId} {x y : Operand} {u1 u2 v : Value} (ho : o.op = .binOp op t x y ty) (hx : a.eval x = u1) (hy : a.eval y = u2) (h : (do eqGuard op t x y u1 u2; binOp op t u1 u2 : Sem Value).run P w = .ok v w') : (execOp a.eval o).run P w = .ok (.value v) w' := by
  unfold execOp; rw [ho]; simp only [hx, hy]; exact run_val h
theorem exec_move {x : Operand} {u : Value} (ho : o.op = .move x) (hx : a.eval x = u) : (execOp a.eval o).run P w = .ok (.value u) w := by
  unfold execOp; rw [ho]; simp only [hx]; rfl
theorem exec_pick {c x y : Operand} {b : Bool} {u1 u2 : Value} (ho : o.op = .pick c x y) (hc : a.eval c = .bool b) (hx : a.eval x = u1) (hy : a.eval y = u2) : (execOp a.eval o).run P w = .ok (.value (if b then u1 else u2)) w := by
  unfold execOp; rw [ho]; simp only [hc, hx, hy]; rfl
theorem exec_store {t : TypeId} {x y : Operand} {u1 u2 : Value} (ho : o.op = .store t x y) (hx : a.eval x = u1) (hy : a.eval y = u2) (h : (Instr.storeAt t u1 u2).run P w = .ok () w') : (execOp a.eval o).run P w = .ok .skip w' := by
  unfold execOp; rw [ho]; simp only [hx, hy]; simp [h]
theorem exec_call {f : FuncId} {args : Array Operand} {ats : Array TypeId} {vs : Array Value} {fn : Func} (ho : o.op = .call ⟨.value (.func f), args, ats⟩) (hx : args.map a.eval = vs) (hf : P.funcs[f]? = some fn) (hn : (fn.name == "runtime.NumGoroutine") = false) (hb : fn.body.isNone = false) : (execOp a.eval o).run P w = .ok (.enter f vs) w := by
  unfold execOp; rw [ho]; simp only [resolve, hx, Act.eval, Deferred.ofValue, invoke, callFunc]
  have h1 : ¬ fn.name = "runtime.NumGoroutine" := fun h => by rw [h] at hn; exact absurd hn (by decide)
  have h2 : ¬ fn.body = none := fun h => by rw [h] at hb; cases hb
  simp [hf, h1, h2]
end
end Go.Kt
namespace Go.Kt
open Go
section
variable {P : Program} {ops : Array Oper} {o : Oper} {a : Act} {w w' : World}
/-- The region's slots. -/
def dsts (ops : Array Oper) : List Nat := ops.toList.filterMap (·.dst)
theorem foldl_set_size (f : Nat → Value) : ∀ (ks : List Nat) (t : Array Value), (ks.foldl (fun t k => t.setIfInBounds k (f k)) t).size = t.size
  | [], _ => rfl
  | k :: ks, t => by rw [List.foldl_cons, foldl_set_size f ks]; simp
theorem foldl_set_get (f : Nat → Value) : ∀ (ks : List Nat) (t : Array Value) (i : Nat), i < t.size → (ks.foldl (fun t k => t.setIfInBounds k (f k)) t).getD i undef = if i ∈ ks then f i else t.getD i undef
  | [], t, i, _ => by simp
  | k :: ks, t, i, h => by
    rw [List.foldl_cons, foldl_set_get f ks _ i (by simpa using h)]
    by_cases h1 : i ∈ ks
    · simp [h1]
    · by_cases h2 : k = i
      · subst h2
        simp [h1, Array.getD_eq_getD_getElem?, h]
      · simp [h1, Ne.symm h2, Array.getD_eq_getD_getElem?, h2]
/-- The frame at hand, written out: the first one with the region's slots anew. -/
theorem Like.out {a0 : Act} (h : Like ops a0 a) (ks : List Nat) (hk : dsts ops = ks) : ∃ f : Nat → Value, a = ⟨ks.foldl (fun t k => t.setIfInBounds k (f k)) a0.tmps, a0.defers⟩ ∧ ∀ k, f k = a.tmps.getD k undef := by
  refine ⟨fun k => a.tmps.getD k undef, ?_, fun _ => rfl⟩
  obtain ⟨t, d⟩ := a
  obtain ⟨h1, h2, h3⟩ := h
  simp only at h1 h2 h3 ⊢
  subst h1
  congr 1
  refine Array.ext (by rw [foldl_set_size]; exact h2) fun i hi hi' => ?_
  have hlt : i < a0.tmps.size := by rw [← h2]; exact hi
  have e1 : t[i] = t.getD i undef := by simp [Array.getD_eq_getD_getElem?, hi]
  have e2 : ∀ (x : Array Value) (hx : i < x.size), x[i] = x.getD i undef := fun x hx => by simp [Array.getD_eq_getD_getElem?, hx]
  rw [e1, e2 _ hi', foldl_set_get _ _ _ _ hlt]
  by_cases hno : i ∈ ks
  · rw [if_pos hno]
  · rw [if_neg hno]
    refine h3 i ?_
    unfold outside
    rw [Array.all_eq_true_iff_forall_mem]
    intro x hx
    have : x.dst ≠ some i := fun e => hno (by
      rw [← hk]
      exact List.mem_filterMap.2 ⟨x, by simpa using hx, e⟩)
    simpa using this
theorem exec_unop {op : UnOp} {t : TypeId} {x : Operand} {u v : Value} (ho : o.op = .unOp op t x) (hx : a.eval x = u) (h : (Op.unary op u).run P w = .ok v w') : (execOp a.eval o).run P w = .ok (.value v) w' := by
  unfold execOp; rw [ho]; simp only [hx]; exact run_val h
end
end Go.Kt
/- What is the same of any program: more single operations of a drawn region. -/
namespace Go.Kt
open Go
section
variable {P : Program} {o : Oper} {a : Act} {w w' : World}
theorem exec_indexAddr {t : TypeId} {x y : Operand} {u1 u2 v : Value} (ho : o.op = .indexAddr t x y) (hx : a.eval x = u1) (hy : a.eval y = u2) (h : (Instr.indexAt t u1 u2).run P w = .ok v w') : (execOp a.eval o).run P w = .ok (.value v) w' := by
  unfold execOp; rw [ho]; simp only [hx, hy]; exact run_val h
theorem exec_fieldAddr {t : TypeId} {x : Operand} {f : Nat} {u v : Value} (ho : o.op = .fieldAddr t x f) (hx : a.eval x = u) (h : (Instr.fieldAt t u f).run P w = .ok v w') : (execOp a.eval o).run P w = .ok (.value v) w' := by
  unfold execOp; rw [ho]; simp only [hx]; exact run_val h
theorem exec_buildSlice {t : TypeId} {n : Nat} {parts : Array (Nat × Operand)} {ps : Array (Nat × Value)} {v : Value} (ho : o.op = .buildSlice t n parts) (hp : parts.map (fun p => (p.1, a.eval p.2)) = ps) (h : (Instr.buildSlice t n ps).run P w = .ok v w') : (execOp a.eval o).run P w = .ok (.value v) w' := by
  unfold execOp; rw [ho]; simp only []; subst hp; exact run_val h
theorem exec_build {t : TypeId} {parts : Array (Nat × Operand)} {ps : Array (Nat × Value)} {v : Value} (ho : o.op = .build t parts) (hp : parts.map (fun p => (p.1, a.eval p.2)) = ps) (h : (Instr.build t ps).run P w = .ok v w') : (execOp a.eval o).run P w = .ok (.value v) w' := by
  unfold execOp; rw [ho]; simp only []; subst hp; exact run_val h
theorem exec_box {t : TypeId} {x : Operand} {u v : Value} (ho : o.op = .box t x) (hx : a.eval x = u) (h : (Instr.box t u).run P w = .ok v w') : (execOp a.eval o).run P w = .ok (.value v) w' := by
  unfold execOp; rw [ho]; simp only [hx]; exact run_val h
theorem exec_makeSlice {t : TypeId} {x y : Operand} {u1 u2 v : Value} (ho : o.op = .makeSlice t x y) (hx : a.eval x = u1) (hy : a.eval y = u2) (h : (Instr.makeSlice t u1 u2).run P w = .ok v w') : (execOp a.eval o).run P w = .ok (.value v) w' := by
  unfold execOp; rw [ho]; simp only [hx, hy]; exact run_val h
theorem exec_nilCheck {x : Operand} {p : Addr} (ho : o.op = .nilCheck x) (hx : a.eval x = .pointer (some p)) : (execOp a.eval o).run P w = .ok (.value (.pointer (some p))) w := by
  unfold execOp; rw [ho]; simp only [hx]; rfl
end
end Go.Kt
/- PointsKnown's second helper: every first byte with bytes at the bounds behind it, numbers at the bounds. -/
namespace Go.Proofs.YtpddpglccjbpfaaDoor
open Go Go.RowKit Go.Kt Go.Shelf Go.Kt.Bits

/-- The world of PointsKnown: tables lie; what was there is as it was. -/
def ESt (w V : World) : Prop := Below w.heap.size w V ∧ EnvB V
theorem ESt.next {w V V' : World} (h : ESt w V) (hb : Below V.heap.size V V') : ESt w V' := ⟨h.1.trans (hb.mono h.1.size), h.2.next hb⟩
theorem ESt.start {w : World} (h : EnvB w) : ESt w w := ⟨Below.refl _ _, h⟩
def LSt (k : IntKind) (v : Value) (l : List Int) (w V : World) : Prop := ESt w V ∧ Slg k V v l
theorem LSt.next {k : IntKind} {v : Value} {l : List Int} {w V V' : World} (h : LSt k v l w V) (hb : Below V.heap.size V V') : LSt k v l w V' := ⟨h.1.next hb, h.2.below hb⟩
theorem LSt.alloc {k : IntKind} {v : Value} {l : List Int} {w V : World} (h : LSt k v l w V) (o : Obj) : LSt k v l w (V.alloc o) := h.next ((Below.refl _ V).alloc (Nat.le_refl _) o)
theorem ESt.alloc {w V : World} (h : ESt w V) (o : Obj) : ESt w (V.alloc o) := h.next ((Below.refl _ V).alloc (Nat.le_refl _) o)
theorem slg_lit {k : IntKind} (W : World) (e : TypeId) (l : List Int) (cs : Array Value) (m : Nat) (hc : (l.map fun x => Value.int k x).toArray = cs) (hm : l.length = m) : Slg k (W.alloc (.cells cs e)) (.slice (some ⟨W.heap.size, 0, none⟩) m m) l := by
  subst hm; subst hc
  refine ⟨_, _, rfl, .inr ⟨⟨W.heap.size, 0, none⟩, rfl, fun i x hx => ?_⟩⟩
  rw [Addr.add_lit, Lib.cell_of_heap (World.alloc_heap_new W _)]
  simp [hx]
def nextsL : List Int := [0, 127, 128, 143, 144, 159, 160, 191, 192, 255]
def boundsL : List Int := [-2147483648, -1, 0, 127, 128, 2047, 2048, 55295, 55296, 56319, 56320, 57343, 57344, 65533, 65535, 65536, 1114111, 1114112, 1114239, 1114240, 1114367, 1114368, 2147483647, 65533]
def numsL : List Int := [-9223372036854775808, -1, 0, 1, 2, 3, 4, 5, 6, 9223372036854775807]
/-- Five bytes. -/
def five (c x y : Int) : ByteArray := ⟨#[UInt8.ofNat c.toNat, UInt8.ofNat x.toNat, UInt8.ofNat y.toNat, 128, 97]⟩
theorem five_size (c x y : Int) : (five c x y).size = 5 := rfl
theorem conv5 (W : World) (c x y : Int) (hc : 0 ≤ c ∧ c < 256) (hx : 0 ≤ x ∧ x < 256) (hy : 0 ≤ y ∧ y < 256) :
    (convert 61 9 (.slice (some ⟨W.heap.size, 0, none⟩) 5 5)).run Tryd.prog (W.alloc (.cells #[.int .u8 c, .int .u8 x, .int .u8 y, .int .u8 128, .int .u8 97] 5)) = .ok (.string (five c x y)) (W.alloc (.cells #[.int .u8 c, .int .u8 x, .int .u8 y, .int .u8 128, .int .u8 97] 5)) := by
  have := run_convert_bytes_back (P := Tryd.prog) (W.alloc (.cells #[.int .u8 c, .int .u8 x, .int .u8 y, .int .u8 128, .int .u8 97] 5)) 61 9 5 ⟨W.heap.size, 0, none⟩ 5 [UInt8.ofNat c.toNat, UInt8.ofNat x.toNat, UInt8.ofNat y.toNat, 128, 97] Tryd.underlying61 Tryd.underlying5 Tryd.underlying9 (fun j hj => by
    simp at hj
    rw [Addr.add_lit, Lib.cell_of_heap (World.alloc_heap_new W _)]
    rcases (by omega : j = 0 ∨ j = 1 ∨ j = 2 ∨ j = 3 ∨ j = 4) with rfl | rfl | rfl | rfl | rfl <;> simp <;> omega)
  simpa [five] using this
theorem nexts_bd : ∀ x ∈ nextsL, 0 ≤ x ∧ x < 256 := by decide
theorem bounds_bd : ∀ x ∈ boundsL, -2147483648 ≤ x ∧ x ≤ 2147483647 := by decide
theorem nums_bd : ∀ x ∈ numsL, -9223372036854775808 ≤ x ∧ x ≤ 9223372036854775807 := by decide

theorem ebounds_any (w : World) : Calls Tryd.prog 36 #[] w fun e w' => e = .returned (.slice (some ⟨w.heap.size, 0, none⟩) 24 24) ∧ Slg .i32 w' (.slice (some ⟨w.heap.size, 0, none⟩) 24 24) boundsL ∧ Below w.heap.size w w' := by
  go_enter Tryd.func36, Tryd.ntmps36
  go_wp2
  go_ret
  exact ⟨rfl, slg_lit w 21 boundsL _ 24 rfl rfl, (Below.refl _ _).alloc (Nat.le_refl _) _⟩

theorem run_bs1 (X : World) (x : Int) : (Instr.buildSlice 46 1 #[(0, .int .i32 x)]).run Tryd.prog X = .ok (.slice (some ⟨X.heap.size, 0, none⟩) 1 1) (X.alloc (.cells #[.int .i32 x] 21)) := by go_simp
theorem run_bs2 (X : World) (x : Int) : (Instr.buildSlice 46 2 #[(0, .int .i32 x), (1, .int .i32 120)]).run Tryd.prog X = .ok (.slice (some ⟨X.heap.size, 0, none⟩) 2 2) (X.alloc (.cells #[.int .i32 x, .int .i32 120] 21)) := by go_simp
theorem run_bs4 (X : World) (x : Int) : (Instr.buildSlice 46 4 #[(0, .int .i32 97), (1, .int .i32 x), (2, .int .i32 98), (3, .int .i32 x)]).run Tryd.prog X = .ok (.slice (some ⟨X.heap.size, 0, none⟩) 4 4) (X.alloc (.cells #[.int .i32 97, .int .i32 x, .int .i32 98, .int .i32 x] 21)) := by go_simp
def pK (B : Addr) (i : Nat) (x : Int) (jx : Nat) (v : Value) (W : World) : Prop := match jx with
  | 0 => v = .slice (some B) 24 24
  | 1 => v = .int .i64 (i : Nat)
  | 2 => v = .pointer (some (B.add i))
  | 3 => v = .int .i32 x
  | 4 => (fun v W => Slg .i32 W v [x]) v W
  | 5 => v = .bool true
  | 6 => v = .bool false
  | 7 => v = .bool false
  | 8 => v = .slice (some B) 24 24
  | 9 => v = .int .i64 (i : Nat)
  | 10 => v = .pointer (some (B.add i))
  | 11 => v = .int .i32 x
  | 12 => v = .slice (some B) 24 24
  | 13 => v = .int .i64 (i : Nat)
  | 14 => v = .pointer (some (B.add i))
  | 15 => v = .int .i32 x
  | 16 => (fun v W => Slg .i32 W v [97, x, 98, x]) v W
  | 17 => v = .bool true
  | 18 => v = .bool false
  | 19 => v = .bool false
  | 20 => v = .bool false
  | 21 => v = .slice (some B) 24 24
  | 22 => v = .int .i64 (i : Nat)
  | 23 => v = .pointer (some (B.add i))
  | 24 => v = .int .i32 x
  | 25 => (fun v W => Slg .i32 W v [x, 120]) v W
  | 26 => v = .bool true
  | 27 => v = .bool false
  | 28 => v = .bool false
  | _ => True
theorem pK_keep {B : Addr} {i : Nat} {x : Int} {j : Nat} {v : Value} {U V : World} (hb : Below U.heap.size U V) (h : pK B i x j v U) : pK B i x j v V := by
  unfold pK at h ⊢
  split at h <;> first | exact h | exact Slg.below h hb
/-- The world of the numbers at the bounds. -/
theorem LSt.calls {k : IntKind} {v : Value} {l : List Int} {w V : World} {f : FuncId} {args : Array Value} (h : LSt k v l w V) (hc : Calls Tryd.prog f args V fun e V' => e = .returned (.bool true) ∧ Below V.heap.size V V') :
    Calls Tryd.prog f args V fun e V' => e = .returned (.bool true) ∧ LSt k v l w V' ∧ Below V.heap.size V V' := hc.mono fun _ _ ⟨h1, h2⟩ => ⟨h1, h.next h2, h2⟩
theorem below_next {w V V' : World} (h : Below w.heap.size w V) (hb : Below V.heap.size V V') : Below w.heap.size w V' := h.trans (hb.mono h.size)

set_option maxRecDepth 100000 in
set_option maxHeartbeats 4000000 in
theorem edged_any (w : World) (hE : EnvB w) :
    Calls Tryd.prog 8 #[] w fun e w' => e = .returned (.bool true) ∧ Below w.heap.size w w' := by
  have HE := Lib.hid hE
  clear hE
  go_enter Tryd.func8, Tryd.ntmps8
  go_wp2
  obtain ⟨w0, hw0⟩ : ∃ w0, w.alloc (.cells #[.int .u8 0, .int .u8 127, .int .u8 128, .int .u8 143, .int .u8 144, .int .u8 159, .int .u8 160, .int .u8 191, .int .u8 192, .int .u8 255] 5) = w0 := ⟨_, rfl⟩
  have h0 : LSt .u8 (.slice (some ⟨w.heap.size, 0, none⟩) 10 10) nextsL w w0 := by rw [← hw0]; exact ⟨(ESt.start HE.out).alloc _, slg_lit w 5 nextsL _ 10 rfl rfl⟩
  rw [hw0]
  generalize (⟨w.heap.size, 0, none⟩ : Addr) = A at *
  have H0 := Lib.hid h0
  clear h0 hw0
  go_loopw [2] (fun x wr => ∃ c : Nat, x = .int .i64 c ∧ c ≤ 256 ∧ LSt .u8 (.slice (some A) 10 10) nextsL w wr) (fun x _ => 256 - (RowKit.intOf x).toNat)
  case atStart => exact ⟨0, rfl, by omega, H0.out⟩
  case round =>
    obtain ⟨c, rfl, hc, hst⟩ := hrel
    by_cases hlt : c < 256
    · have hlt' : (c : Int) < 256 := by omega
      have HS := Lib.hid hst
      obtain ⟨V, rfl⟩ : ∃ V : World, V = wr := ⟨_, rfl⟩
      clear hst
      go_wp2_with fail
      go_loopw [3] (fun x wr => ∃ j : Nat, x = .int .i64 j ∧ j ≤ 10 ∧ LSt .u8 (.slice (some A) 10 10) nextsL w wr) (fun x _ => 10 - (RowKit.intOf x).toNat)
      case atStart => exact ⟨0, rfl, by omega, HS.out⟩
      case round =>
        obtain ⟨j, rfl, hj, hst⟩ := hrel
        by_cases hj1 : j < 10
        · have hj1' : (j : Int) < 10 := by omega
          have HS2 := Lib.hid hst
          obtain ⟨V2, rfl⟩ : ∃ V2 : World, V2 = wr := ⟨_, rfl⟩
          clear hst
          go_wp2_with fail
          go_loopw [4] (fun x wr => ∃ k : Nat, x = .int .i64 k ∧ k ≤ 10 ∧ LSt .u8 (.slice (some A) 10 10) nextsL w wr) (fun x _ => 10 - (RowKit.intOf x).toNat)
          case atStart => exact ⟨0, rfl, by omega, HS2.out⟩
          case round =>
            obtain ⟨k, rfl, hk, hst⟩ := hrel
            by_cases hk1 : k < 10
            · have hk1' : (k : Int) < 10 := by omega
              obtain ⟨x, hx⟩ : ∃ x, nextsL[j]? = some x := ⟨_, List.getElem?_eq_getElem (show j < nextsL.length by simp [nextsL]; omega)⟩
              obtain ⟨y, hy⟩ : ∃ y, nextsL[k]? = some y := ⟨_, List.getElem?_eq_getElem (show k < nextsL.length by simp [nextsL]; omega)⟩
              have bx := nexts_bd x (List.mem_of_getElem? hx)
              have by' := nexts_bd y (List.mem_of_getElem? hy)
              obtain ⟨_, hA1, r1⟩ := slg_cell hst.2 j x hx
              obtain rfl := Option.some.inj hA1
              obtain ⟨_, hA2, r2⟩ := slg_cell hst.2 k y hy
              obtain rfl := Option.some.inj hA2
              have bc : (0 : Int) ≤ c ∧ (c : Int) < 256 := by omega
              have cv := fun W => conv5 W c x y bc bx by'
              obtain ⟨T, hT⟩ : ∃ T, five c x y = T := ⟨_, rfl⟩
              have hTs : T.size = 5 := by rw [← hT]; rfl
              simp only [hT] at cv
              have cvd : ∀ W : World, (convert 61 9 (.slice (some ⟨W.heap.size, 0, none⟩) 5 5)).run Tryd.prog (W.alloc (.cells #[.int .u8 c, .int .u8 x, .int .u8 y, .int .u8 128, .int .u8 97] 5)).drew = .ok (.string T) (W.alloc (.cells #[.int .u8 c, .int .u8 x, .int .u8 y, .int .u8 128, .int .u8 97] 5)).drew := fun W => cv W.drew
              clear cv
              have HS3 := Lib.hid hst
              clear hst hT hx hy hA1 hA2
              go_wp2_with fail
              go_region
              have hs4 := Lib.hid (HS3.out.next (below_drewN ((Below.refl _ wr).alloc (Nat.le_refl _) (.cells #[.int .u8 c, .int .u8 x, .int .u8 y, .int .u8 128, .int .u8 97] 5)) 1))
              go_wp2_with fail
              have hsT : ∀ a b, (T.extract a b).size ≤ 100 := fun a b => by rw [ByteArray.size_extract]; omega
              have PT := Lib.hid (fun (V : World) (a b : Nat) (h : LSt .u8 (.slice (some A) 10 10) nextsL w V) => h.calls (pof_walk T (T.extract a b) V h.1.2.env (by omega) (by have := hsT a b; omega)))
              have P0 := Lib.hid (fun (V : World) (h : LSt .u8 (.slice (some A) 10 10) nextsL w V) => h.calls (pnext_walk T 0 V h.1.2.env (by omega)))
              have PN := Lib.hid (fun (V : World) (a b : Nat) (h : LSt .u8 (.slice (some A) 10 10) nextsL w V) => h.calls (pnext_walk (T.extract a b) 0 V h.1.2.env (by have := hsT a b; omega)))
              clear cvd hsT HS3
              refine (PT.out _ 1 5 hs4.out).mono ?_
              rintro e v1 ⟨rfl, h1, _⟩
              have H1 := Lib.hid h1
              clear h1
              go_wp2_with fail
              refine (P0.out _ H1.out).mono ?_
              rintro e v2 ⟨rfl, h2, _⟩
              have H2 := Lib.hid h2
              clear h2
              go_wp2_with fail
              refine (PN.out _ _ _ H2.out).mono ?_
              rintro e v3 ⟨rfl, h3, _⟩
              have H3 := Lib.hid h3
              clear h3
              go_wp2_with fail
              refine (PN.out _ _ _ H3.out).mono ?_
              rintro e v4 ⟨rfl, h4, _⟩
              have H4 := Lib.hid h4
              clear h4
              go_wp2_with fail
              refine (PN.out _ _ _ H4.out).mono ?_
              rintro e v5 ⟨rfl, h5, _⟩
              have H5 := Lib.hid h5
              clear h5
              go_wp2_with fail
              go_roundw
              case rel => exact ⟨k + 1, by go_num, by omega, H5.out⟩
              case measure => simp [RowKit.intOf]; omega
            · have hk1' : ¬ (k : Int) < 10 := by omega
              have HS3 := Lib.hid hst
              clear hst
              go_wp2
              go_roundw
              case rel => exact ⟨j + 1, by go_num, by omega, HS3.out⟩
              case measure => simp [RowKit.intOf]; omega
        · have hj1' : ¬ (j : Int) < 10 := by omega
          have HS2 := Lib.hid hst
          clear hst
          go_wp2_with fail
          refine (HS2.out.next ((Below.refl _ wr).alloc (Nat.le_refl _) (.cells #[.int .i32 97, .int .i32 (1114112 + (c : Int)), .int .i32 98] 21))).calls (ptext_walk _ [97, 1114112 + (c : Int), 98] _ (HS2.out.next ((Below.refl _ wr).alloc (Nat.le_refl _) _)).1.2.env (slg_lit wr 21 [97, 1114112 + (c : Int), 98] _ 3 rfl rfl) (fun z hz => by simp at hz; omega) (by simp)) |>.mono ?_
          rintro e v1 ⟨rfl, h1, _⟩
          have H1 := Lib.hid h1
          clear h1
          go_wp2_with fail
          go_roundw
          case rel => exact ⟨c + 1, by go_num, by omega, H1.out⟩
          case measure => simp [RowKit.intOf]; omega
    · have hlt' : ¬ (c : Int) < 256 := by omega
      have HS := Lib.hid hst
      clear hst
      go_wp2_with fail
      refine (ebounds_any wr).mono ?_
      rintro e v1 ⟨rfl, hS1, hb1⟩
      have h1 : LSt .i32 (.slice (some ⟨wr.heap.size, 0, none⟩) 24 24) boundsL w v1 := ⟨HS.out.1.next hb1, hS1⟩
      generalize (⟨wr.heap.size, 0, none⟩ : Addr) = B at *
      have H1 := Lib.hid h1
      clear h1 hS1 hb1
      go_wp2_with fail
      go_loopw [7] (fun x V => ∃ i : Nat, x = .int .i64 i ∧ i ≤ 24 ∧ LSt .i32 (.slice (some B) 24 24) boundsL w V) (fun x _ => 24 - (RowKit.intOf x).toNat)
      case atStart => exact ⟨0, rfl, by omega, H1.out⟩
      case round =>
        obtain ⟨i, rfl, hi, hst⟩ := hrel
        by_cases hi1 : i < 24
        · have hi1' : (i : Int) < 24 := by omega
          obtain ⟨x, hx⟩ : ∃ x, boundsL[i]? = some x := ⟨_, List.getElem?_eq_getElem (show i < boundsL.length by simp [boundsL]; omega)⟩
          have bx := bounds_bd x (List.mem_of_getElem? hx)
          have HS2 := Lib.hid hst
          have HX := Lib.hid hx
          clear hst hx
          go_wp2_with fail
          obtain ⟨V0, rfl⟩ : ∃ V0 : World, V0 = wr := ⟨_, rfl⟩
          go_wp2_with fail
          have hix : ∀ X : World, (Instr.indexAt 46 (.slice (some B) 24 24) (.int .i64 (i : Nat))).run Tryd.prog X = .ok (.pointer (some (B.add i))) X := fun X => by go_simp
          have hld : ∀ X : World, LSt .i32 (.slice (some B) 24 24) boundsL w X → (Instr.loadAt 21 (.pointer (some (B.add i)))).run Tryd.prog X = .ok (.int .i32 x) X := fun X hX => by
            obtain ⟨_, hA1, r1⟩ := slg_cell hX.2 i x HX.out
            obtain rfl := Option.some.inj hA1
            go_simp
          have CT1 := Lib.hid (fun (X : World) (v : Value) (hX : LSt .i32 (.slice (some B) 24 24) boundsL w X) (hv : Slg .i32 X v [x]) => hX.calls (ptext_walk v [x] X hX.1.2.env hv (fun z hz => by simp at hz; omega) (by simp)))
          have CT4 := Lib.hid (fun (X : World) (v : Value) (hX : LSt .i32 (.slice (some B) 24 24) boundsL w X) (hv : Slg .i32 X v [97, x, 98, x]) => hX.calls (ptext_walk v [97, x, 98, x] X hX.1.2.env hv (fun z hz => by simp at hz; omega) (by simp)))
          have CR2 := Lib.hid (fun (X : World) (v : Value) (hX : LSt .i32 (.slice (some B) 24 24) boundsL w X) (hv : Slg .i32 X v [x, 120]) => hX.calls (prow_walk v [x, 120] X hX.1.2.env hv (fun z hz => by simp at hz; omega) (by simp)))
          refine wp_region_slots (fun X => LSt .i32 (.slice (some B) 24 24) boundsL w X) (fun U V => Below U.heap.size U V) (pK B i x) (by kernel_rfl) (by kernel_rfl) (by kernel_rfl) ?hS ?hp ?hs ?hd
          case hS => exact HS2.out.next (below_drewN (Below.refl _ _) 1)
          case hp => exact fun i v U V _ _ hk hv => pK_keep hk hv
          case hs =>
            refine SlotSteps.cons ?_ (SlotSteps.cons ?_ (SlotSteps.cons ?_ (SlotSteps.cons ?_ (SlotSteps.cons ?_ (SlotSteps.cons ?_ (SlotSteps.cons ?_ (SlotSteps.cons ?_ (SlotSteps.cons ?_ (SlotSteps.cons ?_ (SlotSteps.cons ?_ (SlotSteps.cons ?_ (SlotSteps.cons ?_ (SlotSteps.cons ?_ (SlotSteps.cons ?_ (SlotSteps.cons ?_ (SlotSteps.cons ?_ (SlotSteps.cons ?_ (SlotSteps.cons ?_ (SlotSteps.cons ?_ (SlotSteps.cons ?_ (SlotSteps.cons ?_ (SlotSteps.cons ?_ (SlotSteps.cons ?_ (SlotSteps.cons ?_ (SlotSteps.cons ?_ (SlotSteps.cons ?_ (SlotSteps.cons ?_ (SlotSteps.cons ?_ (SlotSteps.nil)))))))))))))))))))))))))))))
            · intro a X hX hL hd
              refine ⟨rfl, ?_⟩
              have e0 : a.eval (.tmp 6) = .slice (some B) 24 24 := hL.far 6 (by kernel_rfl)
              exact wp_value (exec_move rfl e0) ⟨_, rfl, hX, Below.refl _ _, rfl⟩
            · intro a X hX hL hd
              refine ⟨rfl, ?_⟩
              have e0 : a.eval (.tmp 7) = .int .i64 (i : Nat) := hL.far 7 (by kernel_rfl)
              exact wp_value (exec_move rfl e0) ⟨_, rfl, hX, Below.refl _ _, rfl⟩
            · intro a X hX hL hd
              refine ⟨rfl, ?_⟩
              have e0 : a.eval (.tmp 79) = .slice (some B) 24 24 := hd 0 79 (by kernel_rfl) (by kernel_rfl)
              have e1 : a.eval (.tmp 80) = .int .i64 (i : Nat) := hd 1 80 (by kernel_rfl) (by kernel_rfl)
              exact wp_value (exec_indexAddr rfl e0 e1 (hix X)) ⟨_, rfl, hX, Below.refl _ _, rfl⟩
            · intro a X hX hL hd
              refine ⟨rfl, ?_⟩
              have e0 : a.eval (.tmp 81) = .pointer (some (B.add i)) := hd 2 81 (by kernel_rfl) (by kernel_rfl)
              exact wp_value (exec_load rfl e0 (hld X hX)) ⟨_, rfl, hX, Below.refl _ _, rfl⟩
            · intro a X hX hL hd
              refine ⟨rfl, ?_⟩
              have e0 : a.eval (.tmp 82) = .int .i32 x := hd 3 82 (by kernel_rfl) (by kernel_rfl)
              refine wp_value (exec_buildSlice rfl (ps := #[(0, .int .i32 x)]) (by simp only [List.map_toArray, List.map_cons, List.map_nil, e0] <;> rfl) (run_bs1 X x)) ⟨_, rfl, hX.alloc _, (Below.refl _ X).alloc (Nat.le_refl _) _, slg_lit X 21 [x] _ 1 rfl rfl⟩
            · intro a X hX hL hd
              refine ⟨rfl, ?_⟩
              have q0 : (fun v W => Slg .i32 W v [x]) (a.eval (.tmp 83)) X := hd 4 83 (by kernel_rfl) (by kernel_rfl)
              refine wp_enter (exec_call (vs := #[a.eval (.tmp 83)]) rfl (by simp only [List.map_toArray, List.map_cons, List.map_nil]) Tryd.func35 rfl rfl) ?_
              refine (CT1.out X _ hX q0).mono ?_
              rintro e w' ⟨rfl, hX', hb⟩
              exact ⟨_, rfl, _, rfl, hX', hb, rfl⟩
            · intro a X hX hL hd
              refine ⟨rfl, ?_⟩
              have e0 : a.eval (.tmp 84) = .bool true := hd 5 84 (by kernel_rfl) (by kernel_rfl)
              exact wp_value (exec_unop rfl e0 rfl) ⟨_, rfl, hX, Below.refl _ _, rfl⟩
            · intro a X hX hL hd
              refine ⟨rfl, ?_⟩
              have e0 : a.eval (.tmp 85) = .bool false := hd 6 85 (by kernel_rfl) (by kernel_rfl)
              exact wp_value (exec_move rfl e0) ⟨_, rfl, hX, Below.refl _ _, rfl⟩
            · intro a X hX hL hd
              refine ⟨wanted_true 86 rfl (by kernel_rfl) (hd 7 86 (by kernel_rfl) (by kernel_rfl)), ?_⟩
              have e0 : a.eval (.tmp 6) = .slice (some B) 24 24 := hL.far 6 (by kernel_rfl)
              exact wp_value (exec_move rfl e0) ⟨_, rfl, hX, Below.refl _ _, rfl⟩
            · intro a X hX hL hd
              refine ⟨wanted_true 86 rfl (by kernel_rfl) (hd 7 86 (by kernel_rfl) (by kernel_rfl)), ?_⟩
              have e0 : a.eval (.tmp 7) = .int .i64 (i : Nat) := hL.far 7 (by kernel_rfl)
              exact wp_value (exec_move rfl e0) ⟨_, rfl, hX, Below.refl _ _, rfl⟩
            · intro a X hX hL hd
              refine ⟨wanted_true 86 rfl (by kernel_rfl) (hd 7 86 (by kernel_rfl) (by kernel_rfl)), ?_⟩
              have e0 : a.eval (.tmp 87) = .slice (some B) 24 24 := hd 8 87 (by kernel_rfl) (by kernel_rfl)
              have e1 : a.eval (.tmp 88) = .int .i64 (i : Nat) := hd 9 88 (by kernel_rfl) (by kernel_rfl)
              exact wp_value (exec_indexAddr rfl e0 e1 (hix X)) ⟨_, rfl, hX, Below.refl _ _, rfl⟩
            · intro a X hX hL hd
              refine ⟨wanted_true 86 rfl (by kernel_rfl) (hd 7 86 (by kernel_rfl) (by kernel_rfl)), ?_⟩
              have e0 : a.eval (.tmp 89) = .pointer (some (B.add i)) := hd 10 89 (by kernel_rfl) (by kernel_rfl)
              exact wp_value (exec_load rfl e0 (hld X hX)) ⟨_, rfl, hX, Below.refl _ _, rfl⟩
            · intro a X hX hL hd
              refine ⟨wanted_true 86 rfl (by kernel_rfl) (hd 7 86 (by kernel_rfl) (by kernel_rfl)), ?_⟩
              have e0 : a.eval (.tmp 6) = .slice (some B) 24 24 := hL.far 6 (by kernel_rfl)
              exact wp_value (exec_move rfl e0) ⟨_, rfl, hX, Below.refl _ _, rfl⟩
            · intro a X hX hL hd
              refine ⟨wanted_true 86 rfl (by kernel_rfl) (hd 7 86 (by kernel_rfl) (by kernel_rfl)), ?_⟩
              have e0 : a.eval (.tmp 7) = .int .i64 (i : Nat) := hL.far 7 (by kernel_rfl)
              exact wp_value (exec_move rfl e0) ⟨_, rfl, hX, Below.refl _ _, rfl⟩
            · intro a X hX hL hd
              refine ⟨wanted_true 86 rfl (by kernel_rfl) (hd 7 86 (by kernel_rfl) (by kernel_rfl)), ?_⟩
              have e0 : a.eval (.tmp 91) = .slice (some B) 24 24 := hd 12 91 (by kernel_rfl) (by kernel_rfl)
              have e1 : a.eval (.tmp 92) = .int .i64 (i : Nat) := hd 13 92 (by kernel_rfl) (by kernel_rfl)
              exact wp_value (exec_indexAddr rfl e0 e1 (hix X)) ⟨_, rfl, hX, Below.refl _ _, rfl⟩
            · intro a X hX hL hd
              refine ⟨wanted_true 86 rfl (by kernel_rfl) (hd 7 86 (by kernel_rfl) (by kernel_rfl)), ?_⟩
              have e0 : a.eval (.tmp 93) = .pointer (some (B.add i)) := hd 14 93 (by kernel_rfl) (by kernel_rfl)
              exact wp_value (exec_load rfl e0 (hld X hX)) ⟨_, rfl, hX, Below.refl _ _, rfl⟩
            · intro a X hX hL hd
              refine ⟨wanted_true 86 rfl (by kernel_rfl) (hd 7 86 (by kernel_rfl) (by kernel_rfl)), ?_⟩
              have e0 : a.eval (.tmp 90) = .int .i32 x := hd 11 90 (by kernel_rfl) (by kernel_rfl)
              have e1 : a.eval (.tmp 94) = .int .i32 x := hd 15 94 (by kernel_rfl) (by kernel_rfl)
              refine wp_value (exec_buildSlice rfl (ps := #[(0, .int .i32 97), (1, .int .i32 x), (2, .int .i32 98), (3, .int .i32 x)]) (by simp only [List.map_toArray, List.map_cons, List.map_nil, e0, e1] <;> rfl) (run_bs4 X x)) ⟨_, rfl, hX.alloc _, (Below.refl _ X).alloc (Nat.le_refl _) _, slg_lit X 21 [97, x, 98, x] _ 4 rfl rfl⟩
            · intro a X hX hL hd
              refine ⟨wanted_true 86 rfl (by kernel_rfl) (hd 7 86 (by kernel_rfl) (by kernel_rfl)), ?_⟩
              have q0 : (fun v W => Slg .i32 W v [97, x, 98, x]) (a.eval (.tmp 95)) X := hd 16 95 (by kernel_rfl) (by kernel_rfl)
              refine wp_enter (exec_call (vs := #[a.eval (.tmp 95)]) rfl (by simp only [List.map_toArray, List.map_cons, List.map_nil]) Tryd.func35 rfl rfl) ?_
              refine (CT4.out X _ hX q0).mono ?_
              rintro e w' ⟨rfl, hX', hb⟩
              exact ⟨_, rfl, _, rfl, hX', hb, rfl⟩
            · intro a X hX hL hd
              refine ⟨wanted_true 86 rfl (by kernel_rfl) (hd 7 86 (by kernel_rfl) (by kernel_rfl)), ?_⟩
              have e0 : a.eval (.tmp 96) = .bool true := hd 17 96 (by kernel_rfl) (by kernel_rfl)
              exact wp_value (exec_unop rfl e0 rfl) ⟨_, rfl, hX, Below.refl _ _, rfl⟩
            · intro a X hX hL hd
              refine ⟨rfl, ?_⟩
              have e0 : a.eval (.tmp 86) = .bool false := hd 7 86 (by kernel_rfl) (by kernel_rfl)
              have e1 : a.eval (.tmp 97) = .bool false := hd 18 97 (by kernel_rfl) (by kernel_rfl)
              exact wp_value (exec_pick rfl e0 rfl e1) ⟨_, rfl, hX, Below.refl _ _, rfl⟩
            · intro a X hX hL hd
              refine ⟨rfl, ?_⟩
              have e0 : a.eval (.tmp 98) = .bool false := hd 19 98 (by kernel_rfl) (by kernel_rfl)
              exact wp_value (exec_move rfl e0) ⟨_, rfl, hX, Below.refl _ _, rfl⟩
            · intro a X hX hL hd
              refine ⟨wanted_true 99 rfl (by kernel_rfl) (hd 20 99 (by kernel_rfl) (by kernel_rfl)), ?_⟩
              have e0 : a.eval (.tmp 6) = .slice (some B) 24 24 := hL.far 6 (by kernel_rfl)
              exact wp_value (exec_move rfl e0) ⟨_, rfl, hX, Below.refl _ _, rfl⟩
            · intro a X hX hL hd
              refine ⟨wanted_true 99 rfl (by kernel_rfl) (hd 20 99 (by kernel_rfl) (by kernel_rfl)), ?_⟩
              have e0 : a.eval (.tmp 7) = .int .i64 (i : Nat) := hL.far 7 (by kernel_rfl)
              exact wp_value (exec_move rfl e0) ⟨_, rfl, hX, Below.refl _ _, rfl⟩
            · intro a X hX hL hd
              refine ⟨wanted_true 99 rfl (by kernel_rfl) (hd 20 99 (by kernel_rfl) (by kernel_rfl)), ?_⟩
              have e0 : a.eval (.tmp 100) = .slice (some B) 24 24 := hd 21 100 (by kernel_rfl) (by kernel_rfl)
              have e1 : a.eval (.tmp 101) = .int .i64 (i : Nat) := hd 22 101 (by kernel_rfl) (by kernel_rfl)
              exact wp_value (exec_indexAddr rfl e0 e1 (hix X)) ⟨_, rfl, hX, Below.refl _ _, rfl⟩
            · intro a X hX hL hd
              refine ⟨wanted_true 99 rfl (by kernel_rfl) (hd 20 99 (by kernel_rfl) (by kernel_rfl)), ?_⟩
              have e0 : a.eval (.tmp 102) = .pointer (some (B.add i)) := hd 23 102 (by kernel_rfl) (by kernel_rfl)
              exact wp_value (exec_load rfl e0 (hld X hX)) ⟨_, rfl, hX, Below.refl _ _, rfl⟩
            · intro a X hX hL hd
              refine ⟨wanted_true 99 rfl (by kernel_rfl) (hd 20 99 (by kernel_rfl) (by kernel_rfl)), ?_⟩
              have e0 : a.eval (.tmp 103) = .int .i32 x := hd 24 103 (by kernel_rfl) (by kernel_rfl)
              refine wp_value (exec_buildSlice rfl (ps := #[(0, .int .i32 x), (1, .int .i32 120)]) (by simp only [List.map_toArray, List.map_cons, List.map_nil, e0] <;> rfl) (run_bs2 X x)) ⟨_, rfl, hX.alloc _, (Below.refl _ X).alloc (Nat.le_refl _) _, slg_lit X 21 [x, 120] _ 2 rfl rfl⟩
            · intro a X hX hL hd
              refine ⟨wanted_true 99 rfl (by kernel_rfl) (hd 20 99 (by kernel_rfl) (by kernel_rfl)), ?_⟩
              have q0 : (fun v W => Slg .i32 W v [x, 120]) (a.eval (.tmp 104)) X := hd 25 104 (by kernel_rfl) (by kernel_rfl)
              refine wp_enter (exec_call (vs := #[a.eval (.tmp 104)]) rfl (by simp only [List.map_toArray, List.map_cons, List.map_nil]) Tryd.func37 rfl rfl) ?_
              refine (CR2.out X _ hX q0).mono ?_
              rintro e w' ⟨rfl, hX', hb⟩
              exact ⟨_, rfl, _, rfl, hX', hb, rfl⟩
            · intro a X hX hL hd
              refine ⟨wanted_true 99 rfl (by kernel_rfl) (hd 20 99 (by kernel_rfl) (by kernel_rfl)), ?_⟩
              have e0 : a.eval (.tmp 105) = .bool true := hd 26 105 (by kernel_rfl) (by kernel_rfl)
              exact wp_value (exec_unop rfl e0 rfl) ⟨_, rfl, hX, Below.refl _ _, rfl⟩
            · intro a X hX hL hd
              refine ⟨rfl, ?_⟩
              have e0 : a.eval (.tmp 99) = .bool false := hd 20 99 (by kernel_rfl) (by kernel_rfl)
              have e1 : a.eval (.tmp 106) = .bool false := hd 27 106 (by kernel_rfl) (by kernel_rfl)
              exact wp_value (exec_pick rfl e0 rfl e1) ⟨_, rfl, hX, Below.refl _ _, rfl⟩
          case hd =>
            intro a X hX hL hd _
            have h107 : a.tmps.getD 107 undef = .bool false := hd 28 107 (by kernel_rfl)
            obtain ⟨f, ha, hf⟩ := hL.out [79, 80, 81, 82, 83, 84, 85, 86, 87, 88, 89, 90, 91, 92, 93, 94, 95, 96, 97, 98, 99, 100, 101, 102, 103, 104, 105, 106, 107] (by kernel_rfl)
            have h107' : f 107 = .bool false := (hf 107).trans h107
            simp only [List.foldl_cons, List.foldl_nil, List.setIfInBounds_toArray, List.set_cons_zero, List.set_cons_succ, h107'] at ha
            clear hf hd hL h107
            subst ha
            have HX' := Lib.hid hX
            clear hX
            go_wp2_with fail
            go_roundw
            case rel => exact ⟨i + 1, by go_num, by omega, HX'.out⟩
            case measure => simp [RowKit.intOf]; omega
        · have hi1' : ¬ (i : Int) < 24 := by omega
          have HS2 := Lib.hid hst
          clear hst
          go_wp2_with fail
          have h9 : LSt .i64 (.slice (some ⟨wr.heap.size, 0, none⟩) 10 10) numsL w (wr.alloc (.cells #[.int .i64 (-9223372036854775808), .int .i64 (-1), .int .i64 0, .int .i64 1, .int .i64 2, .int .i64 3, .int .i64 4, .int .i64 5, .int .i64 6, .int .i64 9223372036854775807] 3)) := ⟨HS2.out.1.alloc _, slg_lit wr 3 numsL _ 10 rfl rfl⟩
          have CP := Lib.hid (fun (V : World) (s t : ByteArray) (hs : s.size ≤ 100) (ht : t.size ≤ 100) (h : LSt .i64 (.slice (some ⟨wr.heap.size, 0, none⟩) 10 10) numsL w V) => h.calls (pplaces_walk s t _ numsL V h.1.2 (by omega) (by omega) h.2 nums_bd (by decide)))
          clear HS2 H1
          refine (CP.out _ _ _ (by decide) (by decide) h9).mono ?_
          clear h9
          generalize (⟨wr.heap.size, 0, none⟩ : Addr) = C at *
          rintro e v1 ⟨rfl, h1, _⟩
          have H1 := Lib.hid h1
          clear h1
          go_wp2_with fail
          refine (CP.out _ _ _ (by decide) (by decide) H1.out).mono ?_
          rintro e v2 ⟨rfl, h2, _⟩
          have H2 := Lib.hid h2
          clear h2
          go_wp2_with fail
          refine (CP.out _ _ _ (by decide) (by decide) H2.out).mono ?_
          rintro e v3 ⟨rfl, h3, _⟩
          have H3 := Lib.hid h3
          clear h3
          go_wp2
          go_ret
          exact ⟨rfl, H3.out.1.1⟩
end Go.Proofs.YtpddpglccjbpfaaDoor
/- PointsKnown: the chapter's examples, and the whole. -/
namespace Go.Proofs.YtpddpglccjbpfaaDoor
open Go Go.RowKit Go.Kt Go.Shelf Go.Kt.Bits

theorem of_st (s : ByteArray) (L : List Int) (hp : pts s = L) (hs : s.size ≤ 100) (V : World) (hE : EnvB V) :
    Calls Tryd.prog 23 #[.string s] V fun e V' => ∃ ao cap, e = .returned (.slice ao L.length cap) ∧ Sl .i32 V' (.slice ao L.length cap) L ∧ Below V.heap.size V V' := by
  subst hp
  have hul := units_len s
  refine (ptsOf_any s V hE.env.tabs (by have := hE.lt; omega) (by omega) (by omega)).mono ?_
  rintro e V' ⟨ao, cap, rfl, hown, hb⟩
  exact ⟨ao, cap, rfl, sl_of_own hown rfl, hb⟩
theorem text_st (l : List Int) (t : ByteArray) (v : Value) (V : World) (hS : Slg .i32 V v l) (hw : ∀ x ∈ l, -2147483648 ≤ x ∧ x ≤ 2147483647) (hl : l.length ≤ 100) (hp : ∀ x ∈ l, pointB x = true) (ht : (⟨(textP l).toArray⟩ : ByteArray) = t) :
    Calls Tryd.prog 24 #[v] V fun e V' => e = .returned (.tuple #[.string t, .nilIface]) ∧ Below V.heap.size V V' := by
  subst ht
  refine (ptsText_any v l l.length V hS hw (by omega) (firstBad_all hp)).mono ?_
  rintro e V' ⟨(⟨_, rfl⟩ | ⟨h, _⟩), hb⟩
  · exact ⟨rfl, hb⟩
  · omega
theorem text_no (x : Int) (v : Value) (V : World) (hS : Slg .i32 V v [x]) (hw : -2147483648 ≤ x ∧ x ≤ 2147483647) (hp : pointB x = false) :
    Calls Tryd.prog 24 #[v] V fun e V' => e = .returned (.tuple #[.string ⟨#[]⟩, .iface 81 (fv 8 0 0)]) ∧ Below V.heap.size V V' := by
  refine (ptsText_any v [x] 0 V hS (fun y hy => by simp at hy; subst hy; exact hw) (by simp) ⟨by simp, fun i y h _ => by omega, fun y hy => by simp at hy; subst hy; exact hp⟩).mono ?_
  rintro e V' ⟨(⟨h, _⟩ | ⟨_, rfl⟩), hb⟩
  · simp at h
  · exact ⟨rfl, hb⟩

abbrev sK : ByteArray := ⟨#[97, 240, 159, 145, 168, 10, 195, 169]⟩
theorem sK_units : (units sK).length = 4 := by kernel_rfl
theorem sK_pos0 : pos sK 0 = 0 := by kernel_rfl
theorem sK_pos1 : pos sK 1 = 1 := by kernel_rfl
theorem sK_pos2 : pos sK 2 = 5 := by kernel_rfl
theorem sK_pos3 : pos sK 3 = 6 := by kernel_rfl
theorem sK_pos4 : pos sK 4 = 8 := by kernel_rfl
theorem sK_pos9 : pos sK 9 = 8 := by kernel_rfl
theorem sK_w0 : cnt (isK sK 1) 0 = 0 := by kernel_rfl
theorem sK_w1 : cnt (isK sK 1) 1 = 0 := by kernel_rfl
theorem sK_w5 : cnt (isK sK 1) 5 = 1 := by kernel_rfl
theorem sK_w8 : cnt (isK sK 1) 8 = 1 := by kernel_rfl
theorem sK_l5 : cnt (isK sK 2) 5 = 0 := by kernel_rfl
theorem sK_l6 : cnt (isK sK 2) 6 = 1 := by kernel_rfl
theorem sK_l8 : cnt (isK sK 2) 8 = 1 := by kernel_rfl
theorem sK_f2 : lineF sK 2 = 0 := by kernel_rfl
theorem sK_f3 : lineF sK 3 = 3 := by kernel_rfl
theorem sK_f4 : lineF sK 4 = 3 := by kernel_rfl
theorem sK_size : sK.size = 8 := rfl
def atL : List Int := [1, 3, 5, 8, -1]
def unitL : List Int := [1, 1, 2, 4, 0]
def begL : List Bool := [true, false, true, true, true]
def wideL : List Int := [1, 1, 3, 5, 0]
theorem u_5 : UnitAt sK 5 2 true := .inr (.inr ⟨5, rfl, by decide, by rw [sK_units]; decide, by rw [sK_pos2]; decide, by rw [sK_pos3]; decide, by rw [sK_pos2]; rfl⟩)
theorem u_7 : UnitAt sK 7 3 false := .inr (.inr ⟨7, rfl, by decide, by rw [sK_units]; decide, by rw [sK_pos3]; decide, by rw [sK_pos4]; decide, by rw [sK_pos3]; rfl⟩)
theorem u_8 : UnitAt sK 8 4 true := .inr (.inl ⟨by decide, by rw [sK_units], rfl⟩)
theorem unitK : ∀ (i : Nat) (a u wd : Int) (t : Bool), atL[i]? = some a → unitL[i]? = some u → begL[i]? = some t → wideL[i]? = some wd →
    ∃ n : Nat, u = n ∧ UnitAt sK a n t ∧ (n : Int) + (cnt (isK sK 1) (pos sK n) : Nat) = wd
  | 0, a, u, wd, t, h1, h2, h3, h4 => by
    obtain rfl := Option.some.inj h1; obtain rfl := Option.some.inj h2; obtain rfl := Option.some.inj h3; obtain rfl := Option.some.inj h4
    exact ⟨1, rfl, .inr (.inr ⟨1, rfl, by decide, by rw [sK_units]; decide, by rw [sK_pos1]; decide, by rw [sK_pos2]; decide, by rw [sK_pos1]; rfl⟩), by rw [sK_pos1, sK_w1]; rfl⟩
  | 1, a, u, wd, t, h1, h2, h3, h4 => by
    obtain rfl := Option.some.inj h1; obtain rfl := Option.some.inj h2; obtain rfl := Option.some.inj h3; obtain rfl := Option.some.inj h4
    exact ⟨1, rfl, .inr (.inr ⟨3, rfl, by decide, by rw [sK_units]; decide, by rw [sK_pos1]; decide, by rw [sK_pos2]; decide, by rw [sK_pos1]; rfl⟩), by rw [sK_pos1, sK_w1]; rfl⟩
  | 2, a, u, wd, t, h1, h2, h3, h4 => by
    obtain rfl := Option.some.inj h1; obtain rfl := Option.some.inj h2; obtain rfl := Option.some.inj h3; obtain rfl := Option.some.inj h4
    exact ⟨2, rfl, u_5, by rw [sK_pos2, sK_w5]; rfl⟩
  | 3, a, u, wd, t, h1, h2, h3, h4 => by
    obtain rfl := Option.some.inj h1; obtain rfl := Option.some.inj h2; obtain rfl := Option.some.inj h3; obtain rfl := Option.some.inj h4
    exact ⟨4, rfl, u_8, by rw [sK_pos4, sK_w8]; rfl⟩
  | 4, a, u, wd, t, h1, h2, h3, h4 => by
    obtain rfl := Option.some.inj h1; obtain rfl := Option.some.inj h2; obtain rfl := Option.some.inj h3; obtain rfl := Option.some.inj h4
    exact ⟨0, rfl, .inl ⟨by decide, rfl, rfl⟩, by rw [sK_pos0, sK_w0]; rfl⟩
  | i + 5, a, u, wd, t, h1, _, _, _ => by simp [atL] at h1

structure ShSt (b : Nat) (A1 A2 A3 A4 : Addr) (w V : World) : Prop where
  st : PSt sK b w V
  a1 : Slg .i64 V (.slice (some A1) 5 5) atL
  a2 : Slg .i64 V (.slice (some A2) 5 5) unitL
  a3 : ∀ (i : Nat) (t : Bool), begL[i]? = some t → V.cell? (A3.add i) = some (.bool t)
  a4 : Slg .i64 V (.slice (some A4) 5 5) wideL
theorem ShSt.next {b : Nat} {A1 A2 A3 A4 : Addr} {w V V' : World} (h : ShSt b A1 A2 A3 A4 w V) (hb : Below V.heap.size V V') : ShSt b A1 A2 A3 A4 w V' :=
  ⟨h.st.next hb, h.a1.below hb, h.a2.below hb, fun i t ht => (hb.cell (lt_of_cell (h.a3 i t ht))).trans (h.a3 i t ht), h.a4.below hb⟩
theorem neqI_run (X : World) (x y : Operand) (z : Int) : (do eqGuard .neq 3 x y (.int .i64 z) (.int .i64 z); binOp .neq 3 (.int .i64 z) (.int .i64 z) : Sem Value).run Tryd.prog X = .ok (.bool false) X := by go_simp
theorem neqB_run (X : World) (x y : Operand) (z : Bool) : (do eqGuard .neq 4 x y (.bool z) (.bool z); binOp .neq 4 (.bool z) (.bool z) : Sem Value).run Tryd.prog X = .ok (.bool false) X := by cases z <;> go_simp
def pS (A1 A2 A3 A4 : Addr) (b i : Nat) (u a wd : Int) (t : Bool) (jx : Nat) (v : Value) (_W : World) : Prop := match jx with
  | 0 => v = .int .i64 u
  | 1 => v = .slice (some A2) 5 5
  | 2 => v = .int .i64 (i : Nat)
  | 3 => v = .pointer (some (A2.add i))
  | 4 => v = .int .i64 u
  | 5 => v = .bool false
  | 6 => v = .bool false
  | 7 => v = .bool t
  | 8 => v = .slice (some A3) 5 5
  | 9 => v = .int .i64 (i : Nat)
  | 10 => v = .pointer (some (A3.add i))
  | 11 => v = .bool t
  | 12 => v = .bool false
  | 13 => v = .bool false
  | 14 => v = .bool false
  | 15 => v = .pointer (some ⟨b, 0, none⟩)
  | 16 => v = .slice (some A1) 5 5
  | 17 => v = .int .i64 (i : Nat)
  | 18 => v = .pointer (some (A1.add i))
  | 19 => v = .int .i64 a
  | 20 => v = .int .i64 wd
  | 21 => v = .slice (some A4) 5 5
  | 22 => v = .int .i64 (i : Nat)
  | 23 => v = .pointer (some (A4.add i))
  | 24 => v = .int .i64 wd
  | 25 => v = .bool false
  | 26 => v = .bool false
  | _ => True
theorem pS_keep {A1 A2 A3 A4 : Addr} {b i : Nat} {u a wd : Int} {t : Bool} {j : Nat} {v : Value} {U V : World} (h : pS A1 A2 A3 A4 b i u a wd t j v U) : pS A1 A2 A3 A4 b i u a wd t j v V := by
  unfold pS at h ⊢
  split at h <;> exact h

set_option maxRecDepth 100000 in
set_option maxHeartbeats 4000000 in
theorem shown_any (w : World) (hE : EnvB w) :
    Calls Tryd.prog 7 #[] w fun e w' => e = .returned (.bool true) ∧ Below w.heap.size w w' := by
  have HE := Lib.hid (ESt.start hE)
  have CO := Lib.hid of_st
  have CT := Lib.hid text_st
  have CN := Lib.hid text_no
  clear hE
  go_enter Tryd.func7, Tryd.ntmps7
  go_wp2_with fail
  refine (CO.out _ [97, 233, 1114367, 1114338, 1114242, 8364, 1114349, 1114272, 1114240] (by kernel_rfl) (by decide) _ HE.out.2).mono ?_
  rintro e w1 ⟨aA, cA, rfl, hA, hb⟩
  have h1 := HE.out.next hb
  obtain ⟨w2, hw2⟩ : ∃ w2, w1.alloc (.cells #[.int .i32 97, .int .i32 233, .int .i32 1114367, .int .i32 1114338, .int .i32 1114242, .int .i32 8364, .int .i32 1114349, .int .i32 1114272, .int .i32 1114240] 21) = w2 := ⟨_, rfl⟩
  have hW : Slg .i32 w2 (.slice (some ⟨w1.heap.size, 0, none⟩) 9 9) [97, 233, 1114367, 1114338, 1114242, 8364, 1114349, 1114272, 1114240] := by rw [← hw2]; exact slg_lit w1 21 _ _ 9 rfl rfl
  have hb2 : Below w1.heap.size w1 w2 := by rw [← hw2]; exact (Below.refl _ _).alloc (Nat.le_refl _) _
  have h2 := h1.next hb2
  have S2 := Lib.hid (And.intro (hA.below hb2) (And.intro hW h2))
  have HW2 := Lib.hid hw2
  clear hA hb h1 hW hb2 h2 hw2
  go_wp2_with fail
  rw [HW2.out]
  generalize (⟨w1.heap.size, 0, none⟩ : Addr) = AW at *
  refine (CO.out _ [65533, 1114367] (by kernel_rfl) (by decide) _ S2.out.2.2.2).mono ?_
  rintro e w3 ⟨aB, cB, rfl, hB, hb⟩
  have S3 := Lib.hid (And.intro (S2.out.1.below hb) (And.intro (S2.out.2.1.below hb) (And.intro hB (S2.out.2.2.next hb))))
  clear hB hb S2 HW2
  go_wp2_with fail
  refine (CT.out [97, 1114367, 128104] ⟨#[97, 255, 240, 159, 145, 168]⟩ _ _ (slg_lit w3 21 _ _ 3 rfl rfl) (by decide) (by decide) (by decide +kernel) (by kernel_rfl)).mono ?_
  rintro e w4 ⟨rfl, hb⟩
  have hb4 : Below w3.heap.size w3 w4 := ((Below.refl _ _).alloc (Nat.le_refl _) _).trans (hb.mono (by simp))
  have S4 := Lib.hid (And.intro (S3.out.1.below hb4) (And.intro (S3.out.2.1.below hb4) (And.intro (S3.out.2.2.1.below hb4) (S3.out.2.2.2.next hb4))))
  clear hb hb4 S3
  go_wp2_with fail
  refine (CT.out [1114307, 1114281] ⟨#[195, 169]⟩ _ _ (slg_lit w4 21 _ _ 2 rfl rfl) (by decide) (by decide) (by decide +kernel) (by kernel_rfl)).mono ?_
  rintro e w5 ⟨rfl, hb⟩
  have hb5 : Below w4.heap.size w4 w5 := ((Below.refl _ _).alloc (Nat.le_refl _) _).trans (hb.mono (by simp))
  have S5 := Lib.hid (And.intro (S4.out.1.below hb5) (And.intro (S4.out.2.1.below hb5) (And.intro (S4.out.2.2.1.below hb5) (S4.out.2.2.2.next hb5))))
  clear hb hb5 S4
  go_wp2_with fail
  refine (CN.out 1114233 _ _ (slg_lit w5 21 _ _ 1 rfl rfl) (by decide) (by decide +kernel)).mono ?_
  rintro e w6 ⟨rfl, hb⟩
  have hb6 : Below w5.heap.size w5 w6 := ((Below.refl _ _).alloc (Nat.le_refl _) _).trans (hb.mono (by simp))
  have S6 := Lib.hid (And.intro (S5.out.1.below hb6) (And.intro (S5.out.2.1.below hb6) (And.intro (S5.out.2.2.1.below hb6) (S5.out.2.2.2.next hb6))))
  clear hb hb6 S5
  go_wp2_with fail
  refine (CN.out (-1) _ _ (slg_lit w6 21 _ _ 1 rfl rfl) (by decide) (by decide +kernel)).mono ?_
  rintro e w7 ⟨rfl, hb⟩
  have hb7 : Below w6.heap.size w6 w7 := ((Below.refl _ _).alloc (Nat.le_refl _) _).trans (hb.mono (by simp))
  have S7 := Lib.hid (And.intro (S6.out.1.below hb7) (And.intro (S6.out.2.1.below hb7) (And.intro (S6.out.2.2.1.below hb7) (S6.out.2.2.2.next hb7))))
  clear hb hb7 S6
  go_wp2_with fail
  refine (sameRunes_g _ _ _ _ w7 S7.out.1 S7.out.2.1 (by decide) (by decide)).mono ?_
  rintro e w8 ⟨rfl, hd⟩
  rw [show (decide (([97, 233, 1114367, 1114338, 1114242, 8364, 1114349, 1114272, 1114240] : List Int) = [97, 233, 1114367, 1114338, 1114242, 8364, 1114349, 1114272, 1114240])) = true from by decide]
  have hb8 := hd.below
  have S8 := Lib.hid (And.intro (S7.out.2.2.1.below hb8) (S7.out.2.2.2.next hb8))
  clear hd hb8 S7
  go_wp2_with fail
  have hB9 : Below w8.heap.size w8 (w8.alloc (.cells #[.int .i32 65533, .int .i32 1114367] 21)) := (Below.refl _ _).alloc (Nat.le_refl _) _
  refine (sameRunes_g _ _ _ _ _ (S8.out.1.below hB9) (slg_lit w8 21 [65533, 1114367] _ 2 rfl rfl) (by decide) (by decide)).mono ?_
  rintro e w9 ⟨rfl, hd⟩
  rw [show (decide (([65533, 1114367] : List Int) = [65533, 1114367])) = true from by decide]
  have H9 := Lib.hid (S8.out.2.next (hB9.trans (hd.below.mono (by simp))))
  have n1 : (ByteArray.toList ⟨#[97, 255, 240, 159, 145, 168]⟩ != ByteArray.toList ⟨#[97, 255, 240, 159, 145, 168]⟩) = false := by simp
  have n2 : (ByteArray.toList ⟨#[195, 169]⟩ != ByteArray.toList ⟨#[195, 169]⟩) = false := by simp
  clear hB9 hd S8
  go_wp2_with fail
  refine (at_fault 8 0 0 w9 (by decide) (by decide) H9.out.2.env.err).mono ?_
  rintro e v1 ⟨rfl, hb⟩
  have K1 := Lib.hid (H9.out.next hb)
  clear hb H9 n1 n2
  go_wp2_with fail
  refine (at_fault 8 0 0 v1 (by decide) (by decide) K1.out.2.env.err).mono ?_
  rintro e v2 ⟨rfl, hb⟩
  have K2 := Lib.hid (K1.out.next hb)
  clear hb K1
  go_wp2_with fail
  refine (measure_any sK v2 (by decide)).mono ?_
  rintro e v3 ⟨b, rfl, hM, hb⟩
  have K3 : Hid (PSt sK b w v3) := Lib.hid ⟨(K2.out.next hb).1, hM, (K2.out.next hb).2⟩
  have hu4 : (((4 : Nat) : Int) != 4) = false := by decide
  have CB : Hid (∀ (V : World) (n x : Int), PSt sK b w V → (-9223372036854775808 ≤ n ∧ n ≤ 9223372036854775807) → byteP sK n = x → Calls Tryd.prog 29 #[.pointer (some ⟨b, 0, none⟩), .int .i64 n] V fun e V' => e = .returned (.int .i64 x) ∧ PSt sK b w V') :=
    Lib.hid fun V n x h hn e => by subst e; exact (pbyte_any sK b n V h.2.1 h.2.2 (by decide) hn).mono fun _ _ ⟨h1, h2⟩ => ⟨h1, h.next h2⟩
  clear hM hb K2
  go_wp2_with fail
  refine (units_st sK b w v3 (by decide) K3.out).mono ?_
  rintro e v4 ⟨rfl, k4⟩
  rw [sK_units]
  have K4 := Lib.hid k4
  clear k4
  go_wp2_with fail
  refine (CB.out v4 1 1 K4.out (by decide) (by rw [show (1 : Int) = ((1 : Nat) : Int) from rfl, byteP_nat, sK_pos1])).mono ?_
  rintro e v5 ⟨rfl, k5⟩
  have K5 := Lib.hid k5
  clear k5
  go_wp2_with fail
  refine (CB.out v5 2 5 K5.out (by decide) (by rw [show (2 : Int) = ((2 : Nat) : Int) from rfl, byteP_nat, sK_pos2]; rfl)).mono ?_
  rintro e v6 ⟨rfl, k6⟩
  have K6 := Lib.hid k6
  clear k6
  go_wp2_with fail
  refine (CB.out v6 4 8 K6.out (by decide) (by rw [show (4 : Int) = ((4 : Nat) : Int) from rfl, byteP_nat, sK_pos4]; rfl)).mono ?_
  rintro e v7 ⟨rfl, k7⟩
  have K7 := Lib.hid k7
  clear k7
  go_wp2_with fail
  refine (CB.out v7 9 8 K7.out (by decide) (by rw [show (9 : Int) = ((9 : Nat) : Int) from rfl, byteP_nat, sK_pos9]; rfl)).mono ?_
  rintro e v8 ⟨rfl, k8⟩
  have K8 := Lib.hid k8
  clear k8
  go_wp2_with fail
  refine (CB.out v8 (-3) 0 K8.out (by decide) (by unfold byteP; rw [if_pos (by decide)])).mono ?_
  rintro e v9 ⟨rfl, k9⟩
  have K9 := Lib.hid k9
  clear k9 K8 K7 K6 K5 K4 K3
  go_wp2_with fail
  obtain ⟨x1, hx1⟩ : ∃ x1, v9.alloc (.cells #[.int .i64 1, .int .i64 3, .int .i64 5, .int .i64 8, .int .i64 (-1)] 3) = x1 := ⟨_, rfl⟩
  have z1 : x1.heap.size = v9.heap.size + 1 := by rw [← hx1]; simp
  obtain ⟨x2, hx2⟩ : ∃ x2, x1.alloc (.cells #[.int .i64 1, .int .i64 1, .int .i64 2, .int .i64 4, .int .i64 0] 3) = x2 := ⟨_, rfl⟩
  have z2 : x2.heap.size = v9.heap.size + 1 + 1 := by rw [← hx2]; simp [z1]
  obtain ⟨x3, hx3⟩ : ∃ x3, x2.alloc (.cells #[.bool true, .bool false, .bool true, .bool true, .bool true] 4) = x3 := ⟨_, rfl⟩
  have z3 : x3.heap.size = v9.heap.size + 1 + 1 + 1 := by rw [← hx3]; simp [z2]
  obtain ⟨x4, hx4⟩ : ∃ x4, x3.alloc (.cells #[.int .i64 1, .int .i64 1, .int .i64 3, .int .i64 5, .int .i64 0] 3) = x4 := ⟨_, rfl⟩
  have b1 : Below v9.heap.size v9 x1 := by rw [← hx1]; exact (Below.refl _ _).alloc (Nat.le_refl _) _
  have b2 : Below x1.heap.size x1 x2 := by rw [← hx2]; exact (Below.refl _ _).alloc (Nat.le_refl _) _
  have b3 : Below x2.heap.size x2 x3 := by rw [← hx3]; exact (Below.refl _ _).alloc (Nat.le_refl _) _
  have b4 : Below x3.heap.size x3 x4 := by rw [← hx4]; exact (Below.refl _ _).alloc (Nat.le_refl _) _
  have g1 : Slg .i64 x1 (.slice (some ⟨v9.heap.size, 0, none⟩) 5 5) atL := by rw [← hx1]; exact slg_lit v9 3 atL _ 5 rfl rfl
  have g2 : Slg .i64 x2 (.slice (some ⟨v9.heap.size + 1, 0, none⟩) 5 5) unitL := by rw [← hx2, ← z1]; exact slg_lit x1 3 unitL _ 5 rfl rfl
  have g3 : ∀ (i : Nat) (t : Bool), begL[i]? = some t → x3.cell? ((⟨v9.heap.size + 1 + 1, 0, none⟩ : Addr).add i) = some (.bool t) := fun i t ht => by
    rw [← hx3, ← z2, Addr.add_lit, Lib.cell_of_heap (World.alloc_heap_new x2 _)]
    match i, ht with
    | 0, h => obtain rfl := Option.some.inj h; rfl
    | 1, h => obtain rfl := Option.some.inj h; rfl
    | 2, h => obtain rfl := Option.some.inj h; rfl
    | 3, h => obtain rfl := Option.some.inj h; rfl
    | 4, h => obtain rfl := Option.some.inj h; rfl
    | i + 5, h => simp [begL] at h
  have g4 : Slg .i64 x4 (.slice (some ⟨v9.heap.size + 1 + 1 + 1, 0, none⟩) 5 5) wideL := by rw [← hx4, ← z3]; exact slg_lit x3 3 wideL _ 5 rfl rfl
  have L0 : ShSt b ⟨v9.heap.size, 0, none⟩ ⟨v9.heap.size + 1, 0, none⟩ ⟨v9.heap.size + 1 + 1, 0, none⟩ ⟨v9.heap.size + 1 + 1 + 1, 0, none⟩ w x4 :=
    ⟨(((K9.out.next b1).next b2).next b3).next b4, ((g1.below b2).below b3).below b4, (g2.below b3).below b4, fun i t ht => (b4.cell (lt_of_cell (g3 i t ht))).trans (g3 i t ht), g4⟩
  have HX := Lib.hid (show x4 = _ from hx4.symm)
  rw [hx1, hx2, hx3, hx4]
  have L := Lib.hid L0
  clear L0 g1 g2 g3 g4 b1 b2 b3 b4 z1 z2 z3 hx1 hx2 hx3 hx4 K9
  generalize (⟨v9.heap.size, 0, none⟩ : Addr) = A1 at *
  generalize (⟨v9.heap.size + 1, 0, none⟩ : Addr) = A2 at *
  generalize (⟨v9.heap.size + 1 + 1, 0, none⟩ : Addr) = A3 at *
  generalize (⟨v9.heap.size + 1 + 1 + 1, 0, none⟩ : Addr) = A4 at *
  clear HX
  go_loopw [17] (fun x V => ∃ i : Nat, x = .int .i64 i ∧ i ≤ 5 ∧ ShSt b A1 A2 A3 A4 w V) (fun x _ => 5 - (RowKit.intOf x).toNat)
  case atStart => exact ⟨0, rfl, by omega, L.out⟩
  case round =>
    obtain ⟨i, rfl, hi, hst⟩ := hrel
    by_cases hi1 : i < 5
    · have hi1' : (i : Int) < 5 := by omega
      obtain ⟨a, ha⟩ : ∃ a, atL[i]? = some a := ⟨_, List.getElem?_eq_getElem (show i < atL.length by simp [atL]; omega)⟩
      obtain ⟨u, hu⟩ : ∃ u, unitL[i]? = some u := ⟨_, List.getElem?_eq_getElem (show i < unitL.length by simp [unitL]; omega)⟩
      obtain ⟨t, ht⟩ : ∃ t, begL[i]? = some t := ⟨_, List.getElem?_eq_getElem (show i < begL.length by simp [begL]; omega)⟩
      obtain ⟨wd, hwd⟩ : ∃ wd, wideL[i]? = some wd := ⟨_, List.getElem?_eq_getElem (show i < wideL.length by simp [wideL]; omega)⟩
      obtain ⟨n, hun, hua, hwn⟩ := unitK i a u wd t ha hu ht hwd
      have hab : -9223372036854775808 ≤ a ∧ a ≤ 9223372036854775807 := (show ∀ x ∈ atL, -9223372036854775808 ≤ x ∧ x ≤ 9223372036854775807 by decide) a (List.mem_of_getElem? ha)
      have CU := Lib.hid (fun (V : World) (h : ShSt b A1 A2 A3 A4 w V) => (show Calls Tryd.prog 30 #[.pointer (some ⟨b, 0, none⟩), .int .i64 a] V fun e V' => e = .returned (.tuple #[.int .i64 u, .bool t]) ∧ Below V.heap.size V V' by rw [hun]; exact punit_any sK b n a t V h.st.2.1 h.st.2.2 (by decide) hab hua))
      have CW := Lib.hid (fun (V : World) (h : ShSt b A1 A2 A3 A4 w V) => (show Calls Tryd.prog 31 #[.pointer (some ⟨b, 0, none⟩), .int .i64 a] V fun e V' => e = .returned (.int .i64 wd) ∧ Below V.heap.size V V' by rw [← hwn]; exact pwide_any sK b n a t V h.st.2.1 h.st.2.2 (by decide) hab hua))
      have hix1 : ∀ X : World, (Instr.indexAt 55 (.slice (some A1) 5 5) (.int .i64 (i : Nat))).run Tryd.prog X = .ok (.pointer (some (A1.add i))) X := fun X => by go_simp
      have hix2 : ∀ X : World, (Instr.indexAt 55 (.slice (some A2) 5 5) (.int .i64 (i : Nat))).run Tryd.prog X = .ok (.pointer (some (A2.add i))) X := fun X => by go_simp
      have hix3 : ∀ X : World, (Instr.indexAt 56 (.slice (some A3) 5 5) (.int .i64 (i : Nat))).run Tryd.prog X = .ok (.pointer (some (A3.add i))) X := fun X => by go_simp
      have hix4 : ∀ X : World, (Instr.indexAt 55 (.slice (some A4) 5 5) (.int .i64 (i : Nat))).run Tryd.prog X = .ok (.pointer (some (A4.add i))) X := fun X => by go_simp
      have hld1 : ∀ X : World, ShSt b A1 A2 A3 A4 w X → (Instr.loadAt 3 (.pointer (some (A1.add i)))).run Tryd.prog X = .ok (.int .i64 a) X := fun X hX => by
        obtain ⟨_, hA1, r1⟩ := slg_cell hX.a1 i a ha
        obtain rfl := Option.some.inj hA1
        go_simp
      have hld2 : ∀ X : World, ShSt b A1 A2 A3 A4 w X → (Instr.loadAt 3 (.pointer (some (A2.add i)))).run Tryd.prog X = .ok (.int .i64 u) X := fun X hX => by
        obtain ⟨_, hA1, r1⟩ := slg_cell hX.a2 i u hu
        obtain rfl := Option.some.inj hA1
        go_simp
      have hld3 : ∀ X : World, ShSt b A1 A2 A3 A4 w X → (Instr.loadAt 4 (.pointer (some (A3.add i)))).run Tryd.prog X = .ok (.bool t) X := fun X hX => by
        have r1 := hX.a3 i t ht
        go_simp
      have hld4 : ∀ X : World, ShSt b A1 A2 A3 A4 w X → (Instr.loadAt 3 (.pointer (some (A4.add i)))).run Tryd.prog X = .ok (.int .i64 wd) X := fun X hX => by
        obtain ⟨_, hA1, r1⟩ := slg_cell hX.a4 i wd hwd
        obtain rfl := Option.some.inj hA1
        go_simp
      obtain ⟨_, hA1, r1⟩ := slg_cell hst.a1 i a ha
      obtain rfl := Option.some.inj hA1
      have HS2 := Lib.hid hst
      have J := Lib.hid (And.intro hix1 (And.intro hix2 (And.intro hix3 (And.intro hix4 (And.intro hld1 (And.intro hld2 (And.intro hld3 hld4)))))))
      clear hst ha hu ht hwd hun hua hwn hix1 hix2 hix3 hix4 hld1 hld2 hld3 hld4 hA1
      go_wp2_with fail
      refine (CU.out _ HS2.out).mono ?_
      rintro e y1 ⟨rfl, hb⟩
      have HS3 := Lib.hid (HS2.out.next hb)
      clear hb r1
      go_wp2_with fail
      obtain ⟨hix1, hix2, hix3, hix4, hld1, hld2, hld3, hld4⟩ := J.out
      have hneqI := neqI_run
      have hneqB := neqB_run
      refine wp_region_slots (fun X => ShSt b A1 A2 A3 A4 w X) (fun U V => Below U.heap.size U V) (pS A1 A2 A3 A4 b i u a wd t) (by kernel_rfl) (by kernel_rfl) (by kernel_rfl) ?hS ?hp ?hs ?hd
      case hS => exact HS3.out.next (below_drewN (Below.refl _ _) 1)
      case hp => exact fun i v U V _ _ _ hv => pS_keep hv
      case hs =>
        refine SlotSteps.cons ?_ (SlotSteps.cons ?_ (SlotSteps.cons ?_ (SlotSteps.cons ?_ (SlotSteps.cons ?_ (SlotSteps.cons ?_ (SlotSteps.cons ?_ (SlotSteps.cons ?_ (SlotSteps.cons ?_ (SlotSteps.cons ?_ (SlotSteps.cons ?_ (SlotSteps.cons ?_ (SlotSteps.cons ?_ (SlotSteps.cons ?_ (SlotSteps.cons ?_ (SlotSteps.cons ?_ (SlotSteps.cons ?_ (SlotSteps.cons ?_ (SlotSteps.cons ?_ (SlotSteps.cons ?_ (SlotSteps.cons ?_ (SlotSteps.cons ?_ (SlotSteps.cons ?_ (SlotSteps.cons ?_ (SlotSteps.cons ?_ (SlotSteps.cons ?_ (SlotSteps.cons ?_ (SlotSteps.nil)))))))))))))))))))))))))))
        · intro ac X hX hL hd
          refine ⟨rfl, ?_⟩
          have e0 : ac.eval (.tmp 18) = .int .i64 u := hL.far 18 (by kernel_rfl)
          exact wp_value (exec_move rfl e0) ⟨_, rfl, hX, Below.refl _ _, rfl⟩
        · intro ac X hX hL hd
          refine ⟨rfl, ?_⟩
          have e0 : ac.eval (.tmp 14) = .slice (some A2) 5 5 := hL.far 14 (by kernel_rfl)
          exact wp_value (exec_move rfl e0) ⟨_, rfl, hX, Below.refl _ _, rfl⟩
        · intro ac X hX hL hd
          refine ⟨rfl, ?_⟩
          have e0 : ac.eval (.tmp 17) = .int .i64 (i : Nat) := hL.far 17 (by kernel_rfl)
          exact wp_value (exec_move rfl e0) ⟨_, rfl, hX, Below.refl _ _, rfl⟩
        · intro ac X hX hL hd
          refine ⟨rfl, ?_⟩
          have e0 : ac.eval (.tmp 136) = .slice (some A2) 5 5 := hd 1 136 (by kernel_rfl) (by kernel_rfl)
          have e1 : ac.eval (.tmp 137) = .int .i64 (i : Nat) := hd 2 137 (by kernel_rfl) (by kernel_rfl)
          exact wp_value (exec_indexAddr rfl e0 e1 (hix2 X)) ⟨_, rfl, hX, Below.refl _ _, rfl⟩
        · intro ac X hX hL hd
          refine ⟨rfl, ?_⟩
          have e0 : ac.eval (.tmp 138) = .pointer (some (A2.add i)) := hd 3 138 (by kernel_rfl) (by kernel_rfl)
          exact wp_value (exec_load rfl e0 (hld2 X hX)) ⟨_, rfl, hX, Below.refl _ _, rfl⟩
        · intro ac X hX hL hd
          refine ⟨rfl, ?_⟩
          have e0 : ac.eval (.tmp 135) = .int .i64 u := hd 0 135 (by kernel_rfl) (by kernel_rfl)
          have e1 : ac.eval (.tmp 139) = .int .i64 u := hd 4 139 (by kernel_rfl) (by kernel_rfl)
          exact wp_value (exec_binop rfl e0 e1 (hneqI X _ _ _)) ⟨_, rfl, hX, Below.refl _ _, rfl⟩
        · intro ac X hX hL hd
          refine ⟨rfl, ?_⟩
          have e0 : ac.eval (.tmp 140) = .bool false := hd 5 140 (by kernel_rfl) (by kernel_rfl)
          exact wp_value (exec_move rfl e0) ⟨_, rfl, hX, Below.refl _ _, rfl⟩
        · intro ac X hX hL hd
          refine ⟨wanted_true 141 rfl (by kernel_rfl) (hd 6 141 (by kernel_rfl) (by kernel_rfl)), ?_⟩
          have e0 : ac.eval (.tmp 19) = .bool t := hL.far 19 (by kernel_rfl)
          exact wp_value (exec_move rfl e0) ⟨_, rfl, hX, Below.refl _ _, rfl⟩
        · intro ac X hX hL hd
          refine ⟨wanted_true 141 rfl (by kernel_rfl) (hd 6 141 (by kernel_rfl) (by kernel_rfl)), ?_⟩
          have e0 : ac.eval (.tmp 15) = .slice (some A3) 5 5 := hL.far 15 (by kernel_rfl)
          exact wp_value (exec_move rfl e0) ⟨_, rfl, hX, Below.refl _ _, rfl⟩
        · intro ac X hX hL hd
          refine ⟨wanted_true 141 rfl (by kernel_rfl) (hd 6 141 (by kernel_rfl) (by kernel_rfl)), ?_⟩
          have e0 : ac.eval (.tmp 17) = .int .i64 (i : Nat) := hL.far 17 (by kernel_rfl)
          exact wp_value (exec_move rfl e0) ⟨_, rfl, hX, Below.refl _ _, rfl⟩
        · intro ac X hX hL hd
          refine ⟨wanted_true 141 rfl (by kernel_rfl) (hd 6 141 (by kernel_rfl) (by kernel_rfl)), ?_⟩
          have e0 : ac.eval (.tmp 143) = .slice (some A3) 5 5 := hd 8 143 (by kernel_rfl) (by kernel_rfl)
          have e1 : ac.eval (.tmp 144) = .int .i64 (i : Nat) := hd 9 144 (by kernel_rfl) (by kernel_rfl)
          exact wp_value (exec_indexAddr rfl e0 e1 (hix3 X)) ⟨_, rfl, hX, Below.refl _ _, rfl⟩
        · intro ac X hX hL hd
          refine ⟨wanted_true 141 rfl (by kernel_rfl) (hd 6 141 (by kernel_rfl) (by kernel_rfl)), ?_⟩
          have e0 : ac.eval (.tmp 145) = .pointer (some (A3.add i)) := hd 10 145 (by kernel_rfl) (by kernel_rfl)
          exact wp_value (exec_load rfl e0 (hld3 X hX)) ⟨_, rfl, hX, Below.refl _ _, rfl⟩
        · intro ac X hX hL hd
          refine ⟨wanted_true 141 rfl (by kernel_rfl) (hd 6 141 (by kernel_rfl) (by kernel_rfl)), ?_⟩
          have e0 : ac.eval (.tmp 142) = .bool t := hd 7 142 (by kernel_rfl) (by kernel_rfl)
          have e1 : ac.eval (.tmp 146) = .bool t := hd 11 146 (by kernel_rfl) (by kernel_rfl)
          exact wp_value (exec_binop rfl e0 e1 (hneqB X _ _ _)) ⟨_, rfl, hX, Below.refl _ _, rfl⟩
        · intro ac X hX hL hd
          refine ⟨rfl, ?_⟩
          have e0 : ac.eval (.tmp 141) = .bool false := hd 6 141 (by kernel_rfl) (by kernel_rfl)
          have e1 : ac.eval (.tmp 147) = .bool false := hd 12 147 (by kernel_rfl) (by kernel_rfl)
          exact wp_value (exec_pick rfl e0 rfl e1) ⟨_, rfl, hX, Below.refl _ _, rfl⟩
        · intro ac X hX hL hd
          refine ⟨rfl, ?_⟩
          have e0 : ac.eval (.tmp 148) = .bool false := hd 13 148 (by kernel_rfl) (by kernel_rfl)
          exact wp_value (exec_move rfl e0) ⟨_, rfl, hX, Below.refl _ _, rfl⟩
        · intro ac X hX hL hd
          refine ⟨wanted_true 149 rfl (by kernel_rfl) (hd 14 149 (by kernel_rfl) (by kernel_rfl)), ?_⟩
          have e0 : ac.eval (.tmp 12) = .pointer (some ⟨b, 0, none⟩) := hL.far 12 (by kernel_rfl)
          exact wp_value (exec_move rfl e0) ⟨_, rfl, hX, Below.refl _ _, rfl⟩
        · intro ac X hX hL hd
          refine ⟨wanted_true 149 rfl (by kernel_rfl) (hd 14 149 (by kernel_rfl) (by kernel_rfl)), ?_⟩
          have e0 : ac.eval (.tmp 13) = .slice (some A1) 5 5 := hL.far 13 (by kernel_rfl)
          exact wp_value (exec_move rfl e0) ⟨_, rfl, hX, Below.refl _ _, rfl⟩
        · intro ac X hX hL hd
          refine ⟨wanted_true 149 rfl (by kernel_rfl) (hd 14 149 (by kernel_rfl) (by kernel_rfl)), ?_⟩
          have e0 : ac.eval (.tmp 17) = .int .i64 (i : Nat) := hL.far 17 (by kernel_rfl)
          exact wp_value (exec_move rfl e0) ⟨_, rfl, hX, Below.refl _ _, rfl⟩
        · intro ac X hX hL hd
          refine ⟨wanted_true 149 rfl (by kernel_rfl) (hd 14 149 (by kernel_rfl) (by kernel_rfl)), ?_⟩
          have e0 : ac.eval (.tmp 151) = .slice (some A1) 5 5 := hd 16 151 (by kernel_rfl) (by kernel_rfl)
          have e1 : ac.eval (.tmp 152) = .int .i64 (i : Nat) := hd 17 152 (by kernel_rfl) (by kernel_rfl)
          exact wp_value (exec_indexAddr rfl e0 e1 (hix1 X)) ⟨_, rfl, hX, Below.refl _ _, rfl⟩
        · intro ac X hX hL hd
          refine ⟨wanted_true 149 rfl (by kernel_rfl) (hd 14 149 (by kernel_rfl) (by kernel_rfl)), ?_⟩
          have e0 : ac.eval (.tmp 153) = .pointer (some (A1.add i)) := hd 18 153 (by kernel_rfl) (by kernel_rfl)
          exact wp_value (exec_load rfl e0 (hld1 X hX)) ⟨_, rfl, hX, Below.refl _ _, rfl⟩
        · intro ac X hX hL hd
          refine ⟨wanted_true 149 rfl (by kernel_rfl) (hd 14 149 (by kernel_rfl) (by kernel_rfl)), ?_⟩
          have e0 : ac.eval (.tmp 150) = .pointer (some ⟨b, 0, none⟩) := hd 15 150 (by kernel_rfl) (by kernel_rfl)
          have e1 : ac.eval (.tmp 154) = .int .i64 a := hd 19 154 (by kernel_rfl) (by kernel_rfl)
          refine wp_enter (exec_call (vs := #[.pointer (some ⟨b, 0, none⟩), .int .i64 a]) rfl (by simp only [List.map_toArray, List.map_cons, List.map_nil, e0, e1]) Tryd.func31 rfl rfl) ?_
          refine (CW.out X hX).mono ?_
          rintro e w' ⟨rfl, hb⟩
          exact ⟨_, rfl, _, rfl, hX.next hb, hb, rfl⟩
        · intro ac X hX hL hd
          refine ⟨wanted_true 149 rfl (by kernel_rfl) (hd 14 149 (by kernel_rfl) (by kernel_rfl)), ?_⟩
          have e0 : ac.eval (.tmp 16) = .slice (some A4) 5 5 := hL.far 16 (by kernel_rfl)
          exact wp_value (exec_move rfl e0) ⟨_, rfl, hX, Below.refl _ _, rfl⟩
        · intro ac X hX hL hd
          refine ⟨wanted_true 149 rfl (by kernel_rfl) (hd 14 149 (by kernel_rfl) (by kernel_rfl)), ?_⟩
          have e0 : ac.eval (.tmp 17) = .int .i64 (i : Nat) := hL.far 17 (by kernel_rfl)
          exact wp_value (exec_move rfl e0) ⟨_, rfl, hX, Below.refl _ _, rfl⟩
        · intro ac X hX hL hd
          refine ⟨wanted_true 149 rfl (by kernel_rfl) (hd 14 149 (by kernel_rfl) (by kernel_rfl)), ?_⟩
          have e0 : ac.eval (.tmp 156) = .slice (some A4) 5 5 := hd 21 156 (by kernel_rfl) (by kernel_rfl)
          have e1 : ac.eval (.tmp 157) = .int .i64 (i : Nat) := hd 22 157 (by kernel_rfl) (by kernel_rfl)
          exact wp_value (exec_indexAddr rfl e0 e1 (hix4 X)) ⟨_, rfl, hX, Below.refl _ _, rfl⟩
        · intro ac X hX hL hd
          refine ⟨wanted_true 149 rfl (by kernel_rfl) (hd 14 149 (by kernel_rfl) (by kernel_rfl)), ?_⟩
          have e0 : ac.eval (.tmp 158) = .pointer (some (A4.add i)) := hd 23 158 (by kernel_rfl) (by kernel_rfl)
          exact wp_value (exec_load rfl e0 (hld4 X hX)) ⟨_, rfl, hX, Below.refl _ _, rfl⟩
        · intro ac X hX hL hd
          refine ⟨wanted_true 149 rfl (by kernel_rfl) (hd 14 149 (by kernel_rfl) (by kernel_rfl)), ?_⟩
          have e0 : ac.eval (.tmp 155) = .int .i64 wd := hd 20 155 (by kernel_rfl) (by kernel_rfl)
          have e1 : ac.eval (.tmp 159) = .int .i64 wd := hd 24 159 (by kernel_rfl) (by kernel_rfl)
          exact wp_value (exec_binop rfl e0 e1 (hneqI X _ _ _)) ⟨_, rfl, hX, Below.refl _ _, rfl⟩
        · intro ac X hX hL hd
          refine ⟨rfl, ?_⟩
          have e0 : ac.eval (.tmp 149) = .bool false := hd 14 149 (by kernel_rfl) (by kernel_rfl)
          have e1 : ac.eval (.tmp 160) = .bool false := hd 25 160 (by kernel_rfl) (by kernel_rfl)
          exact wp_value (exec_pick rfl e0 rfl e1) ⟨_, rfl, hX, Below.refl _ _, rfl⟩
      case hd =>
        intro ac X hX hL hd _
        have hl : ac.tmps.getD 161 undef = .bool false := hd 26 161 (by kernel_rfl)
        obtain ⟨f, haa, hf⟩ := hL.out [135, 136, 137, 138, 139, 140, 141, 142, 143, 144, 145, 146, 147, 148, 149, 150, 151, 152, 153, 154, 155, 156, 157, 158, 159, 160, 161] (by kernel_rfl)
        have hl' : f 161 = .bool false := (hf 161).trans hl
        simp only [List.foldl_cons, List.foldl_nil, List.setIfInBounds_toArray, List.set_cons_zero, List.set_cons_succ, hl'] at haa
        clear hf hd hL hl hix1 hix2 hix3 hix4 hld1 hld2 hld3 hld4 hneqI hneqB
        subst haa
        have HX' := Lib.hid hX
        clear hX
        go_wp2_with fail
        go_roundw
        case rel => exact ⟨i + 1, by go_num, by omega, HX'.out⟩
        case measure => simp [RowKit.intOf]; omega
    · have hi1' : ¬ (i : Int) < 5 := by omega
      have HS2 := Lib.hid hst.st
      clear hst
      have CL : Hid (∀ (V : World) (a : Int) (n : Nat) (t : Bool) (x y : Int), PSt sK b w V → (-9223372036854775808 ≤ a ∧ a ≤ 9223372036854775807) → UnitAt sK a n t → (1 : Int) + (cnt (isK sK 2) (pos sK n) : Nat) = x → (1 : Int) + n - (lineF sK n : Nat) = y →
          Calls Tryd.prog 32 #[.pointer (some ⟨b, 0, none⟩), .int .i64 a] V fun e V' => e = .returned (.tuple #[.int .i64 x, .int .i64 y]) ∧ PSt sK b w V') :=
        Lib.hid fun V a n t x y h ha hu e1 e2 => by subst e1; subst e2; exact (pline_any sK b n a t V h.2.1 h.2.2 (by decide) ha hu).mono fun _ _ ⟨h1, h2⟩ => ⟨h1, h.next h2⟩
      go_wp2_with fail
      refine (CL.out _ 5 2 true 1 3 HS2.out (by decide) u_5 (by rw [sK_pos2, sK_l5]; rfl) (by rw [sK_f2]; rfl)).mono ?_
      rintro e y1 ⟨rfl, k1⟩
      have K1 := Lib.hid k1
      clear k1
      go_wp2_with fail
      refine (CL.out _ 7 3 false 2 1 K1.out (by decide) u_7 (by rw [sK_pos3, sK_l6]; rfl) (by rw [sK_f3]; rfl)).mono ?_
      rintro e y2 ⟨rfl, k2⟩
      have K2 := Lib.hid k2
      clear k2
      go_wp2_with fail
      refine (CL.out _ 8 4 true 2 2 K2.out (by decide) u_8 (by rw [sK_pos4, sK_l8]; rfl) (by rw [sK_f4]; rfl)).mono ?_
      rintro e y3 ⟨rfl, k3⟩
      have K3 := Lib.hid k3
      clear k3
      go_wp2
      go_ret
      exact ⟨rfl, K3.out.1⟩

set_option maxRecDepth 100000 in
theorem pknown_walk (w : World) (hE : EnvB w) :
    Calls Tryd.prog 3 #[] w fun e w' => e = .returned (.bool true) ∧ Below w.heap.size w w' := by
  have HE := Lib.hid hE
  have C := Lib.hid (shown_any w hE)
  clear hE
  go_enter Tryd.func3, Tryd.ntmps3
  go_wp2_with fail
  refine C.out.mono ?_
  rintro e w1 ⟨rfl, hb⟩
  have HB := Lib.hid hb
  clear hb
  go_wp2_with fail
  refine (edged_any w1 (HE.out.next HB.out)).mono ?_
  rintro e w2 ⟨rfl, hb2⟩
  go_wp2
  go_ret
  exact ⟨rfl, HB.out.trans (hb2.mono HB.out.size)⟩
end Go.Proofs.YtpddpglccjbpfaaDoor
/- What the listed variables of layer 2 give the walks, and the worlds that the witnesses start in. -/
namespace Go.Proofs.YtpddpglccjbpfaaDoor
open Go.Lib Go.Shelf
set_option maxRecDepth 100000

/-- The rows' lists. -/
noncomputable def theLaid3 : List (String × DataW Unit) := [("unicode/utf8.acceptRanges", Rows.laid_unicode_utf8_acceptRanges), ("errors.errorType", Rows.laid_errors_errorType), ("unicode/utf8.first", Rows.laid_unicode_utf8_first)]

theorem errIx : Tryd.prog.globalNamed "errors.errorType" = some 1 := by kernel_rfl
theorem rtypeIx : (Tryd.prog.cutTypes.find? (·.1 == "internal/reflectlite.rtype")).map (·.2) = some 187 := by kernel_rfl
theorem typesN : Tryd.prog.types.size = 261 := by kernel_rfl
theorem errRow : ((List.range 261).filter fun t => Tryd.prog.rowNamed t [101, 114, 114, 111, 114]) = [33] := by kernel_rfl

theorem errT_of_handles {W : World} (h : handlesMet Tryd.prog [("errors.errorType", Rows.laid_errors_errorType)] W) : ErrT W := by
  obtain ⟨name, u, ty, e1, e2, e3, e4, e5⟩ := h _ (List.mem_singleton.2 rfl)
  have en : name = [101, 114, 114, 111, 114] := (Option.some.inj e1).symm
  subst en
  obtain rfl := Option.some.inj (rtypeIx.symm.trans e2)
  have hm : ty ∈ (List.range 261).filter fun t => Tryd.prog.rowNamed t [101, 114, 114, 111, 114] := List.mem_filter.2 ⟨List.mem_range.2 (by rw [← typesN]; exact e3), e4⟩
  rw [errRow] at hm
  obtain rfl := List.mem_singleton.1 hm
  have hh : typeHandle Tryd.prog 33 = tyH 33 := by kernel_rfl
  rw [hh] at e5
  simpa using World.var?_cell errIx e5 0

theorem of_laid3 {W : World} (h : laidMetH Tryd.prog theLaid3 W) : Env W := by
  have h' : laidMet Tryd.prog theLaid W ∧ handlesMet Tryd.prog [("errors.errorType", Rows.laid_errors_errorType)] W := h
  exact ⟨tabs_of_laid h'.1, errT_of_handles h'.2⟩

/-- The settled world, errors.errorType laid. -/
noncomputable def errWorld (os : Os) : World :=
  let w0 := World.holding Tryd.prog os ⟨#[], #[], []⟩
  { w0 with heap := w0.heap.modify 1 fun
      | .cells _ t frozen => .cells #[.iface 187 (.agg #[tyH 33])] t frozen
      | o => o }
theorem laidMet_on {P : Program} {w0 : World} {laid : List (String × DataW Unit)} (args : Array Value) (hf : w0.layFits P laid [] = true) (hi : w0.layIfaces P laid (w0.layVars P laid) = true) :
    laidMet P laid ((w0.layVars P laid).forCall (fun _ _ => 0) ⟨#[], args, []⟩).memory := by
  have e1 : (laid.filter fun x => (laid.map (·.1)).contains x.1) = laid := List.filter_eq_self.2 fun x hx => List.contains_iff_mem.2 (List.mem_map.2 ⟨x, hx, rfl⟩)
  have e2 : (laid.filter fun x => !(laid.map (·.1)).contains x.1) = [] := List.filter_eq_nil_iff.2 fun x hx => by rw [List.contains_iff_mem.2 (List.mem_map.2 ⟨x, hx, rfl⟩)]; simp
  have h : laidMet P laid (w0.layVars P laid) := laidMet_layVars (w0 := w0) (laid.map (·.1)) [] (by rw [e1]) (by rw [e1]; exact hf) (by rw [e1]; exact hi) (by rw [e2]; exact LaidIn.none)
  exact h.of_heap (by simp [World.memory, World.forCall, Input.heap])

/-- The witnesses' world. -/
noncomputable def world3 (os : Os) : World := (errWorld os).layVars Tryd.prog theLaid
theorem world3_os (os : Os) : (world3 os).os = os := World.layVars_os _ _ _
theorem laid_met3 (os : Os) (args : Array Value) : laidMetH Tryd.prog theLaid3 ((world3 os).forCall (fun _ _ => 0) ⟨#[], args, []⟩).memory :=
  laidMetH_of_parts (show laidMet Tryd.prog theLaid _ from laidMet_on args (by kernel_rfl) (by kernel_rfl)) (by kernel_rfl)
end Go.Proofs.YtpddpglccjbpfaaDoor
/- What the listed variables of layer 2's rows over Places give the walks, and the worlds that the witnesses start in. -/
namespace Go.Proofs.YtpddpglccjbpfaaDoor
open Go.Lib Go.Shelf Go.Kt.Bits
set_option maxRecDepth 100000

/-- The rows' lists. -/
noncomputable def theLaid4 : List (String × DataW Unit) := [("math/bits.deBruijn64tab", Rows.laid_math_bits_deBruijn64tab), ("unicode/utf8.acceptRanges", Rows.laid_unicode_utf8_acceptRanges), ("errors.errorType", Rows.laid_errors_errorType), ("unicode/utf8.first", Rows.laid_unicode_utf8_first)]
noncomputable def theLaidD : List (String × DataW Unit) := [("math/bits.deBruijn64tab", Rows.laid_math_bits_deBruijn64tab), ("unicode/utf8.acceptRanges", Rows.laid_unicode_utf8_acceptRanges), ("unicode/utf8.first", Rows.laid_unicode_utf8_first)]

theorem bruijn_eq : (Rows.laid_math_bits_deBruijn64tab : DataW Unit) = tabData .u8 (bruijnTab.map fun x : Nat => (x : Int)) := by kernel_rfl
theorem btab_of_reads {W : World} (h3 : VarReads Tryd.prog W "math/bits.deBruijn64tab" (tabData .u8 (bruijnTab.map fun x : Nat => (x : Int)))) : BTab W := by
  have c5 : Tryd.prog.cellsOf 5 = 1 := by kernel_rfl
  have c64 : Tryd.prog.cellsOf 165 = 64 := by kernel_rfl
  intro k hk
  obtain ⟨g, t, cs, fuel, p, hg, hty, hvar, hd⟩ := h3
  obtain rfl := Option.some.inj ((show Tryd.prog.globalNamed "math/bits.deBruijn64tab" = some 2 by kernel_rfl).symm.trans hg)
  obtain rfl := Option.some.inj ((show (Tryd.prog.globals[2]?).map (·.type) = some 165 by kernel_rfl).symm.trans hty)
  have hcs := cells_of_tab Tryd.underlying165 Tryd.underlying5 c5 c64 hd
  have := World.var?_cell hg hvar k
  rw [this, ← Array.getElem?_toList, hcs]
  have hl : bruijnTab.length = 64 := rfl
  simp [List.getD_eq_getElem?_getD, hl, hk]

theorem of_laid4 {W : World} (h : laidMetH Tryd.prog theLaid4 W) : EnvB W := by
  have h' : laidMet Tryd.prog theLaidD W ∧ handlesMet Tryd.prog [("errors.errorType", Rows.laid_errors_errorType)] W := h
  exact ⟨⟨tabs_of_reads (accept_eq ▸ laidMet.reads h'.1 (.tail _ (.head _))) (Pinned.utf8First_eq ▸ laidMet.reads h'.1 (.tail _ (.tail _ (.head _)))), errT_of_handles h'.2⟩, btab_of_reads (bruijn_eq ▸ laidMet.reads h'.1 (.head _))⟩

/-- The witnesses' world. -/
noncomputable def world4 (os : Os) : World := (errWorld os).layVars Tryd.prog theLaidD
theorem world4_os (os : Os) : (world4 os).os = os := World.layVars_os _ _ _
theorem laid_met4 (os : Os) (args : Array Value) : laidMetH Tryd.prog theLaid4 ((world4 os).forCall (fun _ _ => 0) ⟨#[], args, []⟩).memory :=
  laidMetH_of_parts (show laidMet Tryd.prog theLaidD _ from laidMet_on args (by kernel_rfl) (by kernel_rfl)) (by kernel_rfl)
end Go.Proofs.YtpddpglccjbpfaaDoor
/- PointsKnown answers true (the chapter's examples; by the document's answer every first byte with bytes at the bounds behind it, numbers at the bounds), in any world in which the package's variables are laid: the row and the card. -/
namespace Go.Proofs.YtpddpglccjbpfaaDoor
open Go.ChangeShapes Go.WideShapes Go.ChangeAt Go.RowKit Go.Kt
set_option maxRecDepth 100000

theorem pointsKnown_lifted (os : Os) (started : os.Started) (H : Type) (enc : TypeId × Value → H) (F : Stop.Interp) :
    ReturnsInHanded {} Tryd.checked os 3 .any ((OpenSpec.ofChange Rows.pointsKnownSpec).preRow enc Tryd.prog Tryd.f3 Rows.pointsKnownRow.domain false Rows.pointsKnownRow.laid) (((OpenSpec.ofChange Rows.pointsKnownSpec).at F).post enc Tryd.prog Tryd.f3 false true false false) := by
  refine returnsInHanded_of_row (C := Tryd.checked) (s := OpenSpec.ofChange Rows.pointsKnownSpec) own started (by kernel_rfl) Tryd.func3
    (witness_row_at (enc := enc) (C := Tryd.checked) false (world4 os) #[] (world4_os _) (by kernel_rfl) (by kernel_rfl) (by kernel_rfl)
      (OpenSpec.preRow_of_cond (x := ([], [], [])) 8 (by kernel_rfl) (by kernel_rfl) (fun k hk => by cases hk) (by kernel_rfl) (laid_met4 os _))) ?_
  intro W base args ds gs before hval0 hW _ _ hz hL _ _
  have hval : ∀ (j : Nat) t v, Tryd.f3.params[j]? = some t → args[j]? = some v → Value.okWide Tryd.prog W .any base t v := hval0
  have hW' := hW
  obtain ⟨p, q, hA0, hV, rfl, _, _⟩ := hW
  have hA : DataW.TrodAll enc Tryd.prog W 0 (fun _ => true) true Tryd.f3.params.toList args.toList ds p := hA0
  rw [Tryd.params3] at hA hval
  obtain ⟨hargs, rfl, rfl⟩ := trodAll_nil hA
  obtain rfl : args = #[] := by simpa using hargs
  obtain ⟨rfl, rfl⟩ := trodVars_none hV
  have hE := of_laid4 hL
  clear hA0 hval0
  simp only [List.append_nil] at hW'
  refine (pknown_walk  W hE ).mono fun e W' ⟨he, hb⟩ => ?_
  subst he
  exact ⟨_, rfl, _, _, _, [], [], [], hW', trodAll_mk1 (shut_bool Tryd.underlying4 _), trodAll_mk0, rfl, hb.frame _, fun h => by cases h⟩

theorem pointsKnown_said : Rows.PointsKnownSaid :=
  OpenClaim.holds_of_cond 3 Tryd.f3 rfl rfl rfl rfl rfl rfl rfl ⟨rfl, rfl, rfl, rfl, rfl⟩ rfl rfl rfl rfl rfl (by kernel_rfl) Tryd.func3 (by kernel_rfl)
    (of_decide_eq_true (by kernel_rfl)) (by unfold Func.isWrapper; first | (rw [if_pos (by decide +kernel)]; kernel_rfl) | (rw [if_neg (by decide +kernel)]; exact ⟨rfl, rfl⟩))
    (fun os started H enc _ F => by rw [OpenClaim.pre_eq_preRow]; exact pointsKnown_lifted os started H enc F)

theorem pointsKnown_plain (f : FuncId) (fn : Func) (hf : Tryd.pinned.checked.prog.funcNamed "glossary/glossarylaw02.PointsKnown" = some f) (hfn : Tryd.pinned.checked.prog.funcs[f]? = some fn) :
    true = Tryd.pinned.checked.prog.looks [] ∧ ∀ (j : Nat) t, fn.params[j]? = some t → Tryd.pinned.checked.prog.wantsStandIn t = false := by
  obtain rfl : f = 3 := Option.some.inj ((show Tryd.prog.funcNamed "glossary/glossarylaw02.PointsKnown" = some 3 by kernel_rfl).symm.trans hf) |>.symm
  obtain rfl : fn = Tryd.f3 := (Option.some.inj (Tryd.func3.symm.trans hfn)).symm
  refine ⟨by kernel_rfl, fun j t ht => ?_⟩
  rw [Tryd.params3] at ht
  simp at ht

theorem pointsKnown_card : Rows.PointsKnownCardSaid :=
  Claim7.holds_tied_plain_at .later [] _ _ _ _ pointsKnown_said (fun _ h => by cases h) (by kernel_rfl) (fun _ h => by cases h) pointsKnown_row_tie rfl ⟨rfl, rfl⟩ (by kernel_rfl) rfl pointsKnown_plain (by kernel_rfl)

end Go.Proofs.YtpddpglccjbpfaaDoor
