/- Parts of the proof of what the last text says. -/
import Derived.OrdersHeld
import Derived.WalkKit
import Derived.Test.YtjbkpcdpdifpnaaGreatDoorCk6
import Derived.Lib.AppendZeros
import Derived.Test.YtjbkpcdpdifpnaaGreatDoorCk4
import Derived.StillTailTactics
import Derived.Test.YtjbkpcdpdifpnaaGreatDoorCk5
import Derived.Deep.QuietTactic
import Derived.BigQuiet
import Derived.Test.YtjbkpcdpdifpnaaGreatDoorCk3
/- What is the same of any program: a drawn region is gone through operation by operation, not order by order: each operation leaves in its slot what it is said to leave, whatever has come up ahead of it. -/
namespace Go.Kt
open Go

section
variable {P : Program} {ops : Array Oper} {Q : Exit → Act → World → Prop} {md : Region.Mode}

def outside (ops : Array Oper) (k : Nat) : Bool := ops.all fun o => o.dst != some k
def apartB (ops : Array Oper) (n : Nat) : Bool :=
  (List.range ops.size).all fun i => match (ops.getD i default).dst with
    | none => true
    | some k => decide (k < n) && (List.range ops.size).all fun j => i == j || (ops.getD j default).dst != some k
def forwardB (md : Region.Mode) (ops : Array Oper) : Bool :=
  (List.range ops.size).all fun i => (ops.getD i default).after.all fun e => !Region.binds md e || decide (e.on < i)
def waitsB (md : Region.Mode) (o : Oper) (j : Nat) : Bool := o.after.any fun e => e.on == j && Region.binds md e
def slotB (ops : Array Oper) (j k : Nat) : Bool := match ops[j]? with | some o => o.dst == some k | none => false

structure Like (ops : Array Oper) (a0 a : Act) : Prop where
  defers : a.defers = a0.defers
  size : a.tmps.size = a0.tmps.size
  far : ∀ k, outside ops k = true → a.tmps.getD k undef = a0.tmps.getD k undef

def SlotStep (P : Program) (md : Region.Mode) (ops : Array Oper) (Q : Exit → Act → World → Prop) (S : World → Prop) (R : World → World → Prop) (p : Nat → Value → World → Prop) (a0 : Act) (i : Nat) (o : Oper) : Prop :=
  ∀ a w, S w → Like ops a0 a → (∀ j k, waitsB md o j = true → slotB ops j k = true → p j (a.tmps.getD k undef) w) →
    Region.wanted o (yielded ops a.tmps) = true ∧ o.wp P a w (fun a' w' => ∃ v, a' = a.put o.dst v ∧ S w' ∧ R w w' ∧ p i v w') Q
def SlotSteps (P : Program) (md : Region.Mode) (ops : Array Oper) (Q : Exit → Act → World → Prop) (S : World → Prop) (R : World → World → Prop) (p : Nat → Value → World → Prop) (a0 : Act) : Nat → List Oper → Prop
  | _, [] => True
  | i, o :: r => SlotStep P md ops Q S R p a0 i o ∧ SlotSteps P md ops Q S R p a0 (i + 1) r
theorem SlotSteps.get {S : World → Prop} {R : World → World → Prop} {p : Nat → Value → World → Prop} {a0 : Act} : ∀ (l : List Oper) (i : Nat), SlotSteps P md ops Q S R p a0 i l → ∀ j o, l[j]? = some o → SlotStep P md ops Q S R p a0 (i + j) o
  | [], _, _, j, o, h => by simp at h
  | x :: r, i, hs, 0, o, h => by simp at h; subst h; exact hs.1
  | x :: r, i, hs, j + 1, o, h => by
    have := SlotSteps.get r (i + 1) hs.2 j o (by simpa using h)
    rw [show i + (j + 1) = i + 1 + j by omega]; exact this

def unlisted (listed : Array Bool) (n : Nat) : Nat := ((List.range n).filter fun i => !listed.getD i true).length
theorem filter_set_lt (listed : Array Bool) (i : Nat) (h : listed.getD i true = false) : ∀ (l : List Nat), i ∈ l →
    (l.filter fun j => !(listed.setIfInBounds i true).getD j true).length < (l.filter fun j => !listed.getD j true).length := by
  have hi : i < listed.size := by
    rcases Nat.lt_or_ge i listed.size with h' | h'
    · exact h'
    · simp [Array.getD, Nat.not_lt.2 h'] at h
  have hle : ∀ l : List Nat, (l.filter fun j => !(listed.setIfInBounds i true).getD j true).length ≤ (l.filter fun j => !listed.getD j true).length := by
    intro l
    induction l with
    | nil => simp
    | cons x r ih =>
      by_cases hx : x = i
      · subst hx
        have h1 : (listed.setIfInBounds x true).getD x true = true := by simp [Array.getD, hi]
        simp only [List.filter_cons, h1, h, Bool.not_true, Bool.not_false, if_true, Bool.false_eq_true, if_false, List.length_cons]
        omega
      · have h1 : (listed.setIfInBounds i true).getD x true = listed.getD x true := by
          simp only [Array.getD_eq_getD_getElem?, Array.getElem?_setIfInBounds, if_neg (Ne.symm hx)]
        simp only [List.filter_cons, h1]
        split
        · simp only [List.length_cons]; omega
        · exact ih
  intro l
  induction l with
  | nil => intro hm; cases hm
  | cons x r ih =>
    intro hm
    by_cases hx : x = i
    · subst hx
      have h1 : (listed.setIfInBounds x true).getD x true = true := by simp [Array.getD, hi]
      have := hle r
      simp only [List.filter_cons, h1, h, Bool.not_true, Bool.not_false, if_true, Bool.false_eq_true, if_false, List.length_cons]
      omega
    · have h1 : (listed.setIfInBounds i true).getD x true = listed.getD x true := by
        simp only [Array.getD_eq_getD_getElem?, Array.getElem?_setIfInBounds, if_neg (Ne.symm hx)]
      have hm' : i ∈ r := by
        rcases List.mem_cons.1 hm with h | h
        · exact absurd h.symm hx
        · exact h
      have := ih hm'
      simp only [List.filter_cons, h1]
      split
      · simp only [List.length_cons]; omega
      · exact this

theorem wpAny_inv (I : Array Bool → Act → World → Prop)
    (step : ∀ listed a w i, I listed a w → i ∈ Region.ready md ops listed → wpOp P ops Q i (I (listed.setIfInBounds i true)) a w)
    (done : ∀ listed a w, I listed a w → Region.ready md ops listed = [] → Q .normal a w) :
    ∀ fuel listed a w, unlisted listed ops.size ≤ fuel → I listed a w → wpAny P md ops Q fuel listed a w := by
  intro fuel
  induction fuel with
  | zero =>
    intro listed a w hf hI
    have hr : Region.ready md ops listed = [] := by
      rcases List.eq_nil_or_concat (Region.ready md ops listed) with h | ⟨l, i, h⟩
      · exact h
      · have hi : i ∈ Region.ready md ops listed := by rw [h]; simp
        obtain ⟨h1, o, ho, _⟩ := mem_ready.1 hi
        have hm : i ∈ (List.range ops.size).filter fun i => !listed.getD i true := by
          rw [List.mem_filter]
          exact ⟨List.mem_range.2 (Array.getElem?_eq_some_iff.1 ho).1, by rw [h1]; rfl⟩
        have := List.length_pos_of_mem hm
        unfold unlisted at hf
        omega
    exact ⟨hr, done _ _ _ hI hr⟩
  | succ fuel ih =>
    intro listed a w hf hI
    refine ⟨done _ _ _ hI, fun i hi => ?_⟩
    obtain ⟨h1, o, ho, _⟩ := mem_ready.1 hi
    have hlt := filter_set_lt listed i h1 (List.range ops.size) (List.mem_range.2 (Array.getElem?_eq_some_iff.1 ho).1)
    refine wpOp_mono (fun a' w' h' => ih _ a' w' ?_ h') (step listed a w i hI hi)
    unfold unlisted at hf ⊢
    omega

end
end Go.Kt
namespace Go.Kt
open Go
section
variable {P : Program} {ops : Array Oper} {Q : Exit → Act → World → Prop}
theorem SlotSteps.cons {S : World → Prop} {R : World → World → Prop} {p : Nat → Value → World → Prop} {a0 : Act} {md : Region.Mode} {i : Nat} {o : Oper} {r : List Oper}
    (h : SlotStep P md ops Q S R p a0 i o) (hr : SlotSteps P md ops Q S R p a0 (i + 1) r) : SlotSteps P md ops Q S R p a0 i (o :: r) := ⟨h, hr⟩
theorem SlotSteps.nil {S : World → Prop} {R : World → World → Prop} {p : Nat → Value → World → Prop} {a0 : Act} {md : Region.Mode} {i : Nat} : SlotSteps P md ops Q S R p a0 i [] := trivial
theorem wanted_true {o : Oper} {a : Act} {j : Nat} {b : Bool} (k : Nat) (hg : o.guard = some (j, b)) (hk : slotB ops j k = true) (h : a.tmps.getD k undef = .bool b) : Region.wanted o (yielded ops a.tmps) = true := by
  have h1 : a.tmps[k]? = some (.bool b) := by
    rw [Array.getD_eq_getD_getElem?] at h
    cases hx : a.tmps[k]? with
    | none => rw [hx] at h; cases h
    | some v => rw [hx] at h; simp at h; rw [h]
  unfold slotB at hk
  unfold Region.wanted yielded
  rw [hg]
  cases ho : ops[j]? with
  | none => rw [ho] at hk; cases hk
  | some oj =>
    rw [ho] at hk
    have : oj.dst = some k := by simpa using hk
    have h2 : (ops[j]?.bind fun x => x.dst).bind (fun x => a.tmps[x]?) = some (.bool b) := by rw [ho]; simp only [Option.bind_some, this, h1]
    simp only [h2]
    cases b <;> rfl
theorem wp_value {o : Oper} {a : Act} {w w' : World} {v : Value} {K : Act → World → Prop} (h : (execOp a.eval o).run P w = .ok (.value v) w') (hK : K (a.put o.dst v) w') : o.wp P a w K Q := by
  unfold Oper.wp; rw [h]; exact hK
theorem wp_enter {o : Oper} {a : Act} {w w' : World} {f : Nat} {args : Array Value} {K : Act → World → Prop} (h : (execOp a.eval o).run P w = .ok (.enter f args) w')
    (hK : Calls P f args w' fun e w'' => ∃ v, e = .returned v ∧ K (a.put o.dst v) w'') : o.wp P a w K Q := by
  unfold Oper.wp; rw [h]
  refine Calls.mono hK fun e w'' he => ?_
  obtain ⟨v, rfl, hv⟩ := he
  exact hv
theorem wp_skipped {o : Oper} {a : Act} {w w' : World} {K : Act → World → Prop} (h : (execOp a.eval o).run P w = .ok .skip w') (hK : K (a.put o.dst undef) w') : o.wp P a w K Q := by
  unfold Oper.wp; rw [h]; exact hK
theorem run_val {m : Sem Value} {w w' : World} {v : Value} (h : m.run P w = .ok v w') : (m >>= fun x => pure (Next.value x)).run P w = .ok (.value v) w' := by
  simp [h]
theorem exec_convert {o : Oper} {a : Act} {w w' : World} {src dst : TypeId} {x : Operand} {u v : Value} (ho : o.op = .convert src dst x) (hx : a.eval x = u) (h : (convert src dst u).run P w = .ok v w') : (execOp a.eval o).run P w = .ok (.value v) w' := by
  unfold execOp; rw [ho]; simp only [hx]; exact run_val h
end
end Go.Kt
namespace Go.Kt
open Go
section
variable {P : Program} {ops : Array Oper} {Q : Exit → Act → World → Prop} {o : Oper} {a : Act} {w w' : World}
theorem exec_load {t : TypeId} {x : Operand} {u v : Value} (ho : o.op = .load t x) (hx : a.eval x = u) (h : (Instr.loadAt t u).run P w = .ok v w') : (execOp a.eval o).run P w = .ok (.value v) w' := by
  unfold execOp; rw [ho]; simp only [hx]; exact run_val h
theorem exec_binop {op : BinOp} {t ty : TypeId} {x y : Operand} {u1 u2 v : Value} (ho : o.op = .binOp op t x y ty) (hx : a.eval x = u1) (hy : a.eval y = u2) (h : (do eqGuard op t x y u1 u2; binOp op t u1 u2 : Sem Value).run P w = .ok v w') : (execOp a.eval o).run P w = .ok (.value v) w' := by
  unfold execOp; rw [ho]; simp only [hx, hy]; exact run_val h
theorem exec_move {x : Operand} {u : Value} (ho : o.op = .move x) (hx : a.eval x = u) : (execOp a.eval o).run P w = .ok (.value u) w := by
  unfold execOp; rw [ho]; simp only [hx]; rfl
theorem exec_pick {c x y : Operand} {b : Bool} {u1 u2 : Value} (ho : o.op = .pick c x y) (hc : a.eval c = .bool b) (hx : a.eval x = u1) (hy : a.eval y = u2) : (execOp a.eval o).run P w = .ok (.value (if b then u1 else u2)) w := by
  unfold execOp; rw [ho]; simp only [hc, hx, hy]; rfl
theorem exec_store {t : TypeId} {x y : Operand} {u1 u2 : Value} (ho : o.op = .store t x y) (hx : a.eval x = u1) (hy : a.eval y = u2) (h : (Instr.storeAt t u1 u2).run P w = .ok () w') : (execOp a.eval o).run P w = .ok .skip w' := by
  unfold execOp; rw [ho]; simp only [hx, hy]; simp [h]
theorem exec_call {f : FuncId} {args : Array Operand} {ats : Array TypeId} {vs : Array Value} {fn : Func} (ho : o.op = .call ⟨.value (.func f), args, ats⟩) (hx : args.map a.eval = vs) (hf : P.funcs[f]? = some fn) (hn : (fn.name == "runtime.NumGoroutine") = false) (hb : fn.body.isNone = false) : (execOp a.eval o).run P w = .ok (.enter f vs) w := by
  unfold execOp; rw [ho]; simp only [resolve, hx, Act.eval, Deferred.ofValue, invoke, callFunc]
  have h1 : ¬ fn.name = "runtime.NumGoroutine" := fun h => by rw [h] at hn; exact absurd hn (by decide)
  have h2 : ¬ fn.body = none := fun h => by rw [h] at hb; cases hb
  simp [hf, h1, h2]
end
end Go.Kt
namespace Go.Kt
open Go
section
variable {P : Program} {ops : Array Oper} {o : Oper} {a : Act} {w w' : World}
def dsts (ops : Array Oper) : List Nat := ops.toList.filterMap (·.dst)
theorem foldl_set_size (f : Nat → Value) : ∀ (ks : List Nat) (t : Array Value), (ks.foldl (fun t k => t.setIfInBounds k (f k)) t).size = t.size
  | [], _ => rfl
  | k :: ks, t => by rw [List.foldl_cons, foldl_set_size f ks]; simp
theorem foldl_set_get (f : Nat → Value) : ∀ (ks : List Nat) (t : Array Value) (i : Nat), i < t.size → (ks.foldl (fun t k => t.setIfInBounds k (f k)) t).getD i undef = if i ∈ ks then f i else t.getD i undef
  | [], t, i, _ => by simp
  | k :: ks, t, i, h => by
    rw [List.foldl_cons, foldl_set_get f ks _ i (by simpa using h)]
    by_cases h1 : i ∈ ks
    · simp [h1]
    · by_cases h2 : k = i
      · subst h2
        simp [h1, Array.getD_eq_getD_getElem?, h]
      · simp [h1, Ne.symm h2, Array.getD_eq_getD_getElem?, h2]
theorem Like.out {a0 : Act} (h : Like ops a0 a) (ks : List Nat) (hk : dsts ops = ks) : ∃ f : Nat → Value, a = ⟨ks.foldl (fun t k => t.setIfInBounds k (f k)) a0.tmps, a0.defers⟩ ∧ ∀ k, f k = a.tmps.getD k undef := by
  refine ⟨fun k => a.tmps.getD k undef, ?_, fun _ => rfl⟩
  obtain ⟨t, d⟩ := a
  obtain ⟨h1, h2, h3⟩ := h
  simp only at h1 h2 h3 ⊢
  subst h1
  congr 1
  refine Array.ext (by rw [foldl_set_size]; exact h2) fun i hi hi' => ?_
  have hlt : i < a0.tmps.size := by rw [← h2]; exact hi
  have e1 : t[i] = t.getD i undef := by simp [Array.getD_eq_getD_getElem?, hi]
  have e2 : ∀ (x : Array Value) (hx : i < x.size), x[i] = x.getD i undef := fun x hx => by simp [Array.getD_eq_getD_getElem?, hx]
  rw [e1, e2 _ hi', foldl_set_get _ _ _ _ hlt]
  by_cases hno : i ∈ ks
  · rw [if_pos hno]
  · rw [if_neg hno]
    refine h3 i ?_
    unfold outside
    rw [Array.all_eq_true_iff_forall_mem]
    intro x hx
    have : x.dst ≠ some i := fun e => hno (by
      rw [← hk]
      exact List.mem_filterMap.2 ⟨x, by simpa using hx, e⟩)
    simpa using this
theorem exec_unop {op : UnOp} {t : TypeId} {x : Operand} {u v : Value} (ho : o.op = .unOp op t x) (hx : a.eval x = u) (h : (Op.unary op u).run P w = .ok v w') : (execOp a.eval o).run P w = .ok (.value v) w' := by
  unfold execOp; rw [ho]; simp only [hx]; exact run_val h
end
end Go.Kt
/- What is the same of any program: more single operations of a drawn region. -/
namespace Go.Kt
open Go
section
variable {P : Program} {o : Oper} {a : Act} {w w' : World}
theorem exec_indexAddr {t : TypeId} {x y : Operand} {u1 u2 v : Value} (ho : o.op = .indexAddr t x y) (hx : a.eval x = u1) (hy : a.eval y = u2) (h : (Instr.indexAt t u1 u2).run P w = .ok v w') : (execOp a.eval o).run P w = .ok (.value v) w' := by
  unfold execOp; rw [ho]; simp only [hx, hy]; exact run_val h
theorem exec_fieldAddr {t : TypeId} {x : Operand} {f : Nat} {u v : Value} (ho : o.op = .fieldAddr t x f) (hx : a.eval x = u) (h : (Instr.fieldAt t u f).run P w = .ok v w') : (execOp a.eval o).run P w = .ok (.value v) w' := by
  unfold execOp; rw [ho]; simp only [hx]; exact run_val h
theorem exec_buildSlice {t : TypeId} {n : Nat} {parts : Array (Nat × Operand)} {ps : Array (Nat × Value)} {v : Value} (ho : o.op = .buildSlice t n parts) (hp : parts.map (fun p => (p.1, a.eval p.2)) = ps) (h : (Instr.buildSlice t n ps).run P w = .ok v w') : (execOp a.eval o).run P w = .ok (.value v) w' := by
  unfold execOp; rw [ho]; simp only []; subst hp; exact run_val h
theorem exec_build {t : TypeId} {parts : Array (Nat × Operand)} {ps : Array (Nat × Value)} {v : Value} (ho : o.op = .build t parts) (hp : parts.map (fun p => (p.1, a.eval p.2)) = ps) (h : (Instr.build t ps).run P w = .ok v w') : (execOp a.eval o).run P w = .ok (.value v) w' := by
  unfold execOp; rw [ho]; simp only []; subst hp; exact run_val h
end
end Go.Kt
/- slices.Concat of two rows of runs; Join. -/
namespace Go.Proofs.YtjbkpcdpdifpnaaGreatDoor
open Go Go.RowKit Go.Kt Go.Kt.Rg

theorem base_own {B : Nat} {e : TypeId} {size n : Nat} {v : Value} {xs : List Value} {W : World} (h : W.ownsRow B e size v n xs) : OwnS (fun b => B ≤ b) e size v n xs W := by
  refine ⟨⟨h.1, ?_⟩, fun g hg => ?_⟩
  · rcases h.2 with h1 | ⟨g, cap, cur, rfl, _, rest⟩
    · exact .inl h1
    · exact .inr ⟨g, cap, cur, rfl, Nat.zero_le _, rest⟩
  · rcases h.2 with ⟨rfl, _⟩ | ⟨g', cap, cur, rfl, hb, _⟩
    · cases hg
    · cases hg; exact hb
theorem own_slice {Y : Nat → Prop} {e : TypeId} {size n : Nat} {v : Value} {xs : List Value} {W : World} (h : OwnS Y e size v n xs W) : ∃ ao cap, v = .slice ao n cap := by
  rcases h.1.2 with ⟨rfl, rfl⟩ | ⟨g, cap, cur, rfl, _⟩
  · exact ⟨_, _, rfl⟩
  · exact ⟨_, _, rfl⟩
theorem run_append_owned_none' {w : World} {base : Nat} {P : Program} (t ty e : TypeId) (i : TypeInfo) (size : Nat) (ht : P.underlying t = some (.slice e)) (hi : P.info? e = some i)
    (v : Value) (n : Nat) (xs : List Value) (hown : w.ownsRow base e size v n xs) (c : Nat) :
    (Builtin.append_ #[t, t] ty #[v, .slice none 0 c]).run P w = .ok v w := by
  rcases hown.2 with ⟨rfl, rfl⟩ | ⟨g, cap, cur, rfl, _, _, hnc, _⟩
  · simp [Builtin.append_, run_underlying ht, sizeOf, typeInfo, hi, Builtin.lenOf, Builtin.firstCells]
  · simp [Builtin.append_, run_underlying ht, sizeOf, typeInfo, hi, Builtin.lenOf, Builtin.firstCells, hnc, storeCells]
theorem encR_append (l m : List Run) : encR (l ++ m) = encR l ++ encR m := by simp [encR]

theorem append_slr {B : Nat} {v x : Value} {l m : List Run} {W : World} (hown : OwnS (fun b => B ≤ b) 98 2 v l.length (encR l) W) (hBW : B ≤ W.heap.size) (hS : SlR W x m) (hn : l.length + m.length ≤ 2199023255552) :
    ∃ v' w', (∀ ty, (Builtin.append_ #[91, 91] ty #[v, x]).run Tryz.prog W = .ok v' w') ∧ OwnS (fun b => B ≤ b) 98 2 v' (l ++ m).length (encR (l ++ m)) w' ∧ Keep (fun b => v.ownBlock = some b) W w' := by
  obtain ⟨i, hi, hz, hs1, hb1⟩ := info_parts tinfoRun
  obtain ⟨ao, cap, rfl, h⟩ := hS
  cases ao with
  | none =>
    have hm : m = [] := by
      rcases h with h | ⟨g, e, _⟩
      · exact h
      · cases e
    subst hm
    refine ⟨v, W, fun ty => run_append_owned_none' _ ty _ i 2 Tryz.underlying91 hi v _ _ hown.1 cap, ?_, Keep.refl _ _⟩
    rw [List.append_nil]; exact hown
  | some a =>
    have hcell : ∀ j u, (encR m)[j]? = some u → W.cell? (a.add j) = some u := by
      intro j u hj
      rcases h with h | ⟨g, e, h⟩
      · subst h; simp [encR] at hj
      · obtain rfl := Option.some.inj e
        have hjl : j < m.length * 2 := by rw [← encR_len]; exact (List.getElem?_eq_some_iff.1 hj).1
        obtain ⟨y, hy⟩ : ∃ y, m[j / 2]? = some y := ⟨_, List.getElem?_eq_getElem (by omega)⟩
        have e := encR_get m _ y hy
        have c := h _ y hy
        rw [Addr.add_lit, Nat.zero_add]
        rcases (by omega : j % 2 = 0 ∨ j % 2 = 1) with k | k
        · rw [show j / 2 * 2 = j by omega] at e c
          rw [e.1] at hj
          rw [c.1]; exact hj
        · rw [show j / 2 * 2 + 1 = j by omega] at e c
          rw [e.2] at hj
          rw [c.2]; exact hj
    have h1 : ∀ u ∈ encR m, u.oneCell' = true := by
      intro u hu
      simp only [encR, List.mem_flatMap] at hu
      obtain ⟨y, _, hy⟩ := hu
      simp at hy
      rcases hy with rfl | rfl <;> rfl
    obtain ⟨v', w', hrun, r1, r2, _⟩ := run_append_own (P := Tryz.prog) W B 91 0 98 i _ 2 16 Tryz.underlying91 hi hz hs1 hb1 rfl (by omega) v l.length (encR l) (own_base hown (fun _ h => h)) a m.length cap (encR m) (encR_len m) hcell h1
      (by unfold maxLen; omega) (by omega) hBW
    refine ⟨v', w', fun ty => hrun, ?_, keep_grown r2⟩
    rw [List.length_append, encR_append]
    exact base_own r1

set_option maxRecDepth 100000 in
theorem rgrow_any (n : Nat) (w : World) (hn : n ≤ 2199023255552) :
    Calls Tryz.prog 130 #[.slice none 0 0, .int .i64 n] w fun e w' => ∃ v, e = .returned v ∧ OwnS (fun b => w.heap.size ≤ b) 98 2 v 0 (encR []) w' ∧ Below w.heap.size w w' := by
  obtain ⟨i, hi, hz, hs1, hb1⟩ := info_parts tinfoRun
  by_cases h0 : n = 0
  · subst h0
    go_enter Tryz.func130, Tryz.ntmps130
    go_wp2
    go_ret
    exact ⟨_, rfl, own_nil _ _ _ _, Below.refl _ _⟩
  · have hn0 : 0 < (n : Int) := by omega
    have happ := Lib.run_append_nil_zeros (P := Tryz.prog) w 91 3 0 98 i _ .i64 .i64 Tryz.underlying91 Tryz.underlying3 hi hz n (by omega) (by rw [hs1]; omega) (by omega) (by rw [hb1]; omega)
    have hge := grownCap_ge w n 0 98
    have hcm : grownCap w n 0 98 ≤ maxLen := grownCap_le_maxLen w n 0 98 (by unfold maxLen; omega)
    have hml : maxLen ≤ 9223372036854775807 := by unfold maxLen; omega
    generalize grownCap w n 0 98 = C at *
    have HR : Hid (∀ ty, (Builtin.append_ #[91, 3] ty #[.slice none 0 0, .int .i64 n]).run Tryz.prog w = _) := Lib.hid fun ty => happ
    obtain ⟨V, hV⟩ : ∃ V, w.drew.alloc (.cells (Builtin.zeroCells (Value.agg #[.int .i64 0, .int .i64 0]).cells n ++ Builtin.zeroCells (Value.agg #[.int .i64 0, .int .i64 0]).cells (C - n)) 98) = V := ⟨_, rfl⟩
    rw [hV] at HR
    have ho : OwnS (fun b => w.heap.size ≤ b) 98 2 (.slice (some ⟨w.heap.size, 0, none⟩) 0 C) 0 (encR []) V := by
      refine ⟨⟨rfl, .inr ⟨w.heap.size, C, _, rfl, Nat.zero_le _, by rw [← hV]; exact heap_alloc_new w.drew _, Nat.zero_le _, hcm, ?_, rfl⟩⟩, fun g hg => by cases hg; exact Nat.le_refl _⟩
      rw [Array.size_append, size_zeroCells, size_zeroCells]
      show n * 2 + (C - n) * 2 = C * 2
      omega
    have hb : Below w.heap.size w V := by rw [← hV]; exact (show Below w.heap.size w w.drew from below_drewN (Below.refl _ w) 1).alloc (Nat.le_refl _) _
    have HO := Lib.hid (And.intro ho hb)
    have hC : (C : Int) ≤ 9223372036854775807 := by omega
    clear happ hV ho hb hcm hml
    go_enter Tryz.func130, Tryz.ntmps130
    go_wp2_with (at_builtin; refine wpList_append_eq rfl rfl rfl rfl HR.out ?_)
    go_ret
    exact ⟨_, rfl, HO.out.1, HO.out.2⟩
end Go.Proofs.YtjbkpcdpdifpnaaGreatDoor
/- slices.Concat of two rows of runs; Join. -/
namespace Go.Proofs.YtjbkpcdpdifpnaaGreatDoor
open Go Go.RowKit Go.Kt Go.Kt.Rg

def catL (l1 l2 : List Run) : Nat → List Run
  | 0 => []
  | 1 => l1
  | _ => l1 ++ l2
set_option maxRecDepth 100000 in
set_option maxHeartbeats 2000000 in
theorem rconcat_any (l1 l2 : List Run) (v1 v2 : Value) (h : Nat) (w : World) (c1 : w.cell? ⟨h, 0, none⟩ = some v1) (c2 : w.cell? ⟨h, 1, none⟩ = some v2) (h1 : SlR w v1 l1) (h2 : SlR w v2 l2) (m1 : l1.length ≤ 1112192) (m2 : l2.length ≤ 1112192) :
    Calls Tryz.prog 90 #[.slice (some ⟨h, 0, none⟩) 2 2] w fun e w' => ∃ v, e = .returned v ∧ OwnS (fun b => w.heap.size ≤ b) 98 2 v (l1 ++ l2).length (encR (l1 ++ l2)) w' ∧ Below w.heap.size w w' := by
  have H1 := Lib.hid h1
  have H2 := Lib.hid h2
  obtain ⟨a1, cp1, rfl, _⟩ := h1
  obtain ⟨a2, cp2, rfl, _⟩ := h2
  obtain ⟨n1, hn1⟩ : ∃ n, l1.length = n := ⟨_, rfl⟩
  obtain ⟨n2, hn2⟩ : ∃ n, l2.length = n := ⟨_, rfl⟩
  rw [hn1] at c1 m1 H1
  rw [hn2] at c2 m2 H2
  have HN := Lib.hid (And.intro hn1 hn2)
  have CG0 := rgrow_any (n1 + n2) w (by omega)
  rw [Int.natCast_add] at CG0
  have CG := Lib.hid CG0
  clear CG0
  have lh := lt_of_cell c1
  clear hn1 hn2
  go_enter Tryz.func90, Tryz.ntmps90
  go_wp2
  go_loop [3, 11] (fun a x => ∃ k : Nat, x = .int .i64 k ∧ ((k = 0 ∧ a = .int .i64 0) ∨ (k = 1 ∧ a = .int .i64 n1) ∨ (k = 2 ∧ a = .int .i64 ((n1 : Int) + n2)))) (fun _ x => 2 - (RowKit.intOf x).toNat)
  case atStart => exact ⟨0, rfl, .inl ⟨rfl, rfl⟩⟩
  case round =>
    obtain ⟨k, rfl, hk⟩ := hrel
    rcases hk with ⟨rfl, rfl⟩ | ⟨rfl, rfl⟩ | ⟨rfl, rfl⟩
    · go_wp2
      go_round
      case rel => exact ⟨1, by go_num, .inr (.inl ⟨rfl, by go_num⟩)⟩
      case measure => simp [RowKit.intOf]
    · go_wp2
      go_round
      case rel => exact ⟨2, by go_num, .inr (.inr ⟨rfl, by go_num⟩)⟩
      case measure => simp [RowKit.intOf]
    · go_wp2_with fail
      refine CG.out.mono ?_
      rintro e w1 ⟨v0, rfl, ho, hb⟩
      have q1 := (hb.cell lh).trans c1
      have q2 := (hb.cell lh).trans c2
      have HO := Lib.hid (And.intro ho hb)
      clear ho hb
      go_wp2_with fail
      go_loopw [6, 27] (fun s x wr => ∃ k : Nat, x = .int .i64 k ∧ k ≤ 2 ∧ OwnS (fun b => w.heap.size ≤ b) 98 2 s (catL l1 l2 k).length (encR (catL l1 l2 k)) wr ∧ Below w.heap.size w wr) (fun _ x _ => 2 - (RowKit.intOf x).toNat)
      case atStart => exact ⟨0, rfl, by omega, HO.out.1, HO.out.2⟩
      case round =>
        obtain ⟨k, rfl, hk, ho2, hb2⟩ := hrel
        have HI := Lib.hid (And.intro ho2 hb2)
        have z1 := (hb2.cell lh).trans c1
        have z2 := (hb2.cell lh).trans c2
        clear ho2 hb2 q1 q2
        rcases (by omega : k = 0 ∨ k = 1 ∨ k = 2) with rfl | rfl | rfl
        · obtain ⟨v', w', hrun, hown, hkp⟩ := append_slr HI.out.1 HI.out.2.size (H1.out.below HI.out.2) (by show 0 + l1.length ≤ _; rw [HN.out.1]; omega)
          have hbb := HI.out.2.trans (hkp.below HI.out.2.size fun b h => HI.out.1.2 b h)
          have HRun := Lib.hid hrun
          have HG := Lib.hid (And.intro hown hbb)
          clear hrun hown hkp hbb
          go_wp2_with (at_builtin; refine wpList_append_eq rfl rfl rfl rfl HRun.out ?_)
          go_roundw
          case rel => exact ⟨1, by go_num, by omega, HG.out.1, HG.out.2⟩
          case measure => simp [RowKit.intOf]
        · obtain ⟨v', w', hrun, hown, hkp⟩ := append_slr HI.out.1 HI.out.2.size (H2.out.below HI.out.2) (by show l1.length + l2.length ≤ _; rw [HN.out.1, HN.out.2]; omega)
          have hbb := HI.out.2.trans (hkp.below HI.out.2.size fun b h => HI.out.1.2 b h)
          have HRun := Lib.hid hrun
          have HG := Lib.hid (And.intro hown hbb)
          clear hrun hown hkp hbb
          go_wp2_with (at_builtin; refine wpList_append_eq rfl rfl rfl rfl HRun.out ?_)
          go_roundw
          case rel => exact ⟨2, by go_num, by omega, HG.out.1, HG.out.2⟩
          case measure => simp [RowKit.intOf]
        · go_wp2
          go_ret
          exact ⟨_, rfl, HI.out.1, HI.out.2⟩
end Go.Proofs.YtjbkpcdpdifpnaaGreatDoor
/- A set of spans: what numbers it has, what is wrong with one: the mathematics. -/
namespace Go.Proofs.YtjbkpcdpdifpnaaGreatDoor
open Go Go.Kt Go.Kt.Rg

def numsR (l : List (Int × Int)) : List Run := l.map fun x => ((numB x.1).1, (numB x.2).1 + 1)
def badR (x : Int × Int) : Int := if (numB x.1).2 = false ∨ (numB x.2).2 = false then 8 else if (numB x.2).1 < (numB x.1).1 then 1 else 0
theorem good_fit {l : List (Int × Int)} (h : ∀ x ∈ l, badR x = 0) : Fit (numsR l) := by
  intro y hy
  simp only [numsR, List.mem_map] at hy
  obtain ⟨x, hx, rfl⟩ := hy
  have h1 := h x hx
  have b1 := numB_bd x.1
  have b2 := numB_bd x.2
  unfold badR at h1
  split at h1
  · omega
  · split at h1
    · omega
    · simp only; omega
end Go.Proofs.YtjbkpcdpdifpnaaGreatDoor
/- Join, Of. -/
namespace Go.Proofs.YtjbkpcdpdifpnaaGreatDoor
open Go Go.RowKit Go.Kt Go.Kt.Rg

theorem slr_slice {W : World} {v : Value} {l : List Run} (h : SlR W v l) : ∃ ao cap, v = .slice ao l.length cap := by
  obtain ⟨ao, cap, rfl, _⟩ := h
  exact ⟨_, _, rfl⟩

set_option maxRecDepth 100000 in
set_option maxHeartbeats 2000000 in
theorem rjoin_any (s t : List Run) (b c : Nat) (w : World) (h : SetAt s b w) (k : SetAt t c w) (hs : Canon s) (ht : Canon t) :
    Calls Tryz.prog 31 #[ptrV b, ptrV c] w (MadeS (joinL s t) w) := by
  have hlen := canon_len hs (Int.le_refl _)
  have hlen2 := canon_len ht (Int.le_refl _)
  have hl : s.length ≤ 1112192 := by unfold allN at hlen; omega
  have hl2 : t.length ≤ 1112192 := by unfold allN at hlen2; omega
  obtain ⟨v1, h1, h2⟩ := h
  obtain ⟨v2, k1, k2⟩ := k
  have l1 : b < w.heap.size := lt_of_cell h1
  have l2 : c < w.heap.size := lt_of_cell k1
  obtain ⟨a1, d1, rfl⟩ := slr_slice h2
  obtain ⟨a2, d2, rfl⟩ := slr_slice k2
  obtain ⟨n1, hn1⟩ : ∃ n, s.length = n := ⟨_, rfl⟩
  obtain ⟨n2, hn2⟩ : ∃ n, t.length = n := ⟨_, rfl⟩
  rw [hn1] at h1 h2 hl
  rw [hn2] at k1 k2 hl2
  obtain ⟨nL, hnL⟩ : ∃ nL, (s ++ t).length = nL := ⟨_, rfl⟩
  have CC : Hid (Calls Tryz.prog 90 #[.slice (some ⟨w.heap.size, 0, none⟩) 2 2] ((w.alloc (.cells #[.slice a1 n1 d1, .slice a2 n2 d2] 91)).drew) fun e w' => ∃ ao cp, e = .returned (.slice ao nL cp) ∧ OwnS (fun b => w.heap.size ≤ b) 98 2 (.slice ao nL cp) nL (encR (s ++ t)) w' ∧ Below w.heap.size w w') := Lib.hid (by
    have hbA : Below w.heap.size w ((w.alloc (.cells #[.slice a1 n1 d1, .slice a2 n2 d2] 91)).drew) := below_drewN ((Below.refl _ w).alloc (Nat.le_refl _) _) 1
    have hh : ((w.alloc (.cells #[.slice a1 n1 d1, .slice a2 n2 d2] 91)).drew).heap[w.heap.size]? = _ := World.alloc_heap_new w (.cells #[.slice a1 n1 d1, .slice a2 n2 d2] 91)
    rw [← hnL]
    refine (rconcat_any s t _ _ w.heap.size _ (by rw [Lib.cell_of_heap hh]; rfl) (by rw [Lib.cell_of_heap hh]; rfl) (h2.below hbA) (k2.below hbA) (by rw [hn1]; exact hl) (by rw [hn2]; exact hl2)).mono ?_
    rintro e w' ⟨v, rfl, ho, hb⟩
    obtain ⟨ao, cp, rfl⟩ := own_slice ho
    exact ⟨ao, cp, rfl, ho.weaken (fun b hb => Nat.le_trans hbA.size hb), hbA.trans (hb.mono hbA.size)⟩)
  have CM : Hid (∀ (ao : Option Addr) (cp : Nat) (V : World), OwnS (fun b => w.heap.size ≤ b) 98 2 (.slice ao nL cp) nL (encR (s ++ t)) V → Below w.heap.size w V →
      Calls Tryz.prog 42 #[.slice ao nL cp] V fun e w' => ∃ v, e = .returned v ∧ SlR w' v (joinL s t) ∧ Below w.heap.size w w') := Lib.hid fun ao cp V ho hb => by
    refine (rmelted_any (s ++ t) ao _ cp V ho hnL.symm (by rw [← hnL, List.length_append, hn1, hn2]; omega) (hs.fit.append ht.fit)).mono ?_
    rintro e w' ⟨ap, m, cap, rfl, hm, hown, hk⟩
    exact ⟨_, rfl, slr_of_own hown hm, hb.trans (hk.below hb.size fun b h => ho.2 b h)⟩
  have FIN : Hid (∀ (v : Value) (V : World), SlR V v (joinL s t) → Below w.heap.size w V → MadeS (joinL s t) w (.returned (.pointer (some ⟨V.heap.size, 0, none⟩))) (V.alloc (.cells #[v] 101))) :=
    Lib.hid fun v V hS hb => ⟨V.heap.size, rfl, set_box hS, hb.alloc hb.size _⟩
  clear h2 k2 hs ht hlen hlen2 hn1 hn2 hnL
  go_enter Tryz.func31, Tryz.ntmps31
  go_wp2
  go_still_tail 8, (by kernel_rfl)
  go_wp2_with fail
  refine CC.out.mono ?_
  rintro e w1 ⟨ao, cp, rfl, ho, hb⟩
  have C2 := Lib.hid (CM.out _ _ _ ho hb)
  clear ho hb
  go_wp2_with fail
  refine C2.out.mono ?_
  rintro e w2 ⟨v, rfl, hS, hb2⟩
  obtain ⟨a3, d3, rfl⟩ := slr_slice hS
  have HF := Lib.hid (FIN.out _ _ hS hb2)
  clear hS hb2
  go_wp2_with fail
  go_ret
  exact HF.out

def SpG (W : World) (v : Value) (l : List (Int × Int)) : Prop :=
  ∃ ao cap, v = .slice ao l.length cap ∧ (l = [] ∨ ∃ g off, ao = some ⟨g, off, none⟩ ∧ ∀ (i : Nat) (x : Int × Int), l[i]? = some x → W.cell? ⟨g, off + i * 2, none⟩ = some (.int .i32 x.1) ∧ W.cell? ⟨g, off + i * 2 + 1, none⟩ = some (.int .i32 x.2))
end Go.Proofs.YtjbkpcdpdifpnaaGreatDoor
/- glossaryref0.SameSpans of two equal slices. -/
namespace Go.Proofs.YtjbkpcdpdifpnaaGreatDoor
open Go Go.RowKit Go.Kt Go.Kt.Rg

theorem encSp_get : ∀ (l : List (Int × Int)) (i : Nat) (x : Int × Int), l[i]? = some x → (encSp l)[i * 2]? = some (.int .i32 x.1) ∧ (encSp l)[i * 2 + 1]? = some (.int .i32 x.2)
  | [], i, x, h => by simp at h
  | y :: t, 0, x, h => by simp at h; subst h; exact ⟨rfl, rfl⟩
  | y :: t, i + 1, x, h => by
    have := encSp_get t i x (by simpa using h)
    have e : encSp (y :: t) = .int .i32 y.1 :: .int .i32 y.2 :: encSp t := rfl
    rw [e, show (i + 1) * 2 = i * 2 + 1 + 1 by omega]
    exact ⟨by simpa using this.1, by simpa using this.2⟩

theorem spg_of_own {Y : Nat → Prop} {v : Value} {n : Nat} {l : List (Int × Int)} {W : World} (h : OwnS Y 27 2 v n (encSp l) W) (hn : n = l.length) : SpG W v l := by
  subst hn
  rcases h.1.2 with ⟨hv, hn⟩ | ⟨g, cap, cur, hv, rest⟩
  · exact ⟨none, 0, by rw [hv, hn], .inl (List.eq_nil_of_length_eq_zero hn)⟩
  · refine ⟨_, cap, hv, .inr ⟨g, 0, rfl, fun i x hx => ?_⟩⟩
    subst hv
    have e := encSp_get l i x hx
    have c1 := h.1.cells (g := g) rfl _ _ e.1
    have c2 := h.1.cells (g := g) rfl _ _ e.2
    rw [Addr.add_lit] at c1 c2
    rw [Nat.zero_add] at c1 c2 ⊢
    exact ⟨c1, c2⟩

theorem SpG.below {A B : World} {v : Value} {l : List (Int × Int)} (h : SpG A v l) (hb : Below A.heap.size A B) : SpG B v l := by
  obtain ⟨ao, cap, rfl, h⟩ := h
  refine ⟨ao, cap, rfl, ?_⟩
  rcases h with h | ⟨g, off, rfl, h⟩
  · exact .inl h
  · exact .inr ⟨g, off, rfl, fun i x hx => ⟨(hb.cell (lt_of_cell (h i x hx).1)).trans (h i x hx).1, (hb.cell (lt_of_cell (h i x hx).2)).trans (h i x hx).2⟩⟩

set_option maxRecDepth 100000 in
set_option maxHeartbeats 2000000 in
theorem sameSpans_yes (v1 v2 : Value) (l : List (Int × Int)) (w : World) (h1 : SpG w v1 l) (h2 : SpG w v2 l) (m1 : l.length ≤ 4611686018427387904) :
    Calls Tryz.prog 46 #[v1, v2] w fun e w' => e = .returned (.bool true) ∧ Drawn w w' := by
  obtain ⟨a1, c1, rfl, h1⟩ := h1
  obtain ⟨a2, c2, rfl, h2⟩ := h2
  obtain ⟨n, hn⟩ : ∃ n, l.length = n := ⟨_, rfl⟩
  rw [hn] at m1
  have HN := Lib.hid hn
  have H1 := Lib.hid h1
  have H2 := Lib.hid h2
  have hne : ((n : Int) != n) = false := by simp
  rw [hn]
  clear h1 h2 hn
  go_enter Tryz.func46, Tryz.ntmps46
  go_wp2
  go_loopw [5] (fun v wr => ∃ k : Nat, k ≤ n ∧ v = .int .i64 k ∧ Drawn w wr) (fun v _ => n - (RowKit.intOf v).toNat)
  case atStart => exact ⟨0, by omega, rfl, Drawn.refl _⟩
  case round =>
    obtain ⟨k, hk, rfl, hb⟩ := hrel
    by_cases hlt : k < n
    · obtain ⟨x, e1⟩ : ∃ x, l[k]? = some x := ⟨_, List.getElem?_eq_getElem (by rw [HN.out]; exact hlt)⟩
      obtain ⟨g1, o1, rfl, k1⟩ : ∃ g off, a1 = some ⟨g, off, none⟩ ∧ ∀ (i : Nat) (x : Int × Int), l[i]? = some x → w.cell? ⟨g, off + i * 2, none⟩ = some (.int .i32 x.1) ∧ w.cell? ⟨g, off + i * 2 + 1, none⟩ = some (.int .i32 x.2) := by
        rcases H1.out with h | h
        · subst h; simp at e1
        · exact h
      obtain ⟨g2, o2, rfl, k2⟩ : ∃ g off, a2 = some ⟨g, off, none⟩ ∧ ∀ (i : Nat) (x : Int × Int), l[i]? = some x → w.cell? ⟨g, off + i * 2, none⟩ = some (.int .i32 x.1) ∧ w.cell? ⟨g, off + i * 2 + 1, none⟩ = some (.int .i32 x.2) := by
        rcases H2.out with h | h
        · subst h; simp at e1
        · exact h
      obtain ⟨p1, p2⟩ := k1 k x e1
      obtain ⟨p3, p4⟩ := k2 k x e1
      have hlt' : (k : Int) < n := by omega
      have q : ∀ V, Drawn w V → V.cell? ⟨g1, o1 + k * 2, none⟩ = some (.int .i32 x.1) ∧ V.cell? ⟨g1, o1 + k * 2 + 1, none⟩ = some (.int .i32 x.2) ∧ V.cell? ⟨g2, o2 + k * 2, none⟩ = some (.int .i32 x.1) ∧ V.cell? ⟨g2, o2 + k * 2 + 1, none⟩ = some (.int .i32 x.2) :=
        fun V hV => ⟨(hV.cell _).trans p1, (hV.cell _).trans p2, (hV.cell _).trans p3, (hV.cell _).trans p4⟩
      obtain ⟨q1, q2, q3, q4⟩ := q wr hb
      have hxx : (x.1 != x.1) = false := by simp
      have hxy : (x.2 != x.2) = false := by simp
      clear k1 k2 p1 p2 p3 p4 q e1
      go_wp2
      go_quiet (fail)
      go_wp2
      go_roundw
      case rel => exact ⟨k + 1, by omega, by go_num, hb.more _⟩
      case measure => simp [RowKit.intOf]; omega
    · have hke : k = n := by omega
      clear hke
      have hlt' : ¬ (k : Int) < n := by omega
      go_wp2
      go_ret
      exact ⟨rfl, hb⟩
end Go.Proofs.YtjbkpcdpdifpnaaGreatDoor
/- The law's own: same. -/
namespace Go.Proofs.YtjbkpcdpdifpnaaGreatDoor
open Go Go.RowKit Go.Kt Go.Kt.Rg

def REnv (w : World) : Prop := PTab w ∧ BTab w ∧ 7 < w.heap.size
theorem REnv.below {w w' : World} (h : REnv w) (hb : Below w.heap.size w w') : REnv w' :=
  ⟨h.1.next hb, fun k hk => (hb.cell (p := ⟨7, k, none⟩) h.2.2).trans (h.2.1 k hk), Nat.lt_of_lt_of_le h.2.2 hb.size⟩

set_option maxRecDepth 100000 in
set_option maxHeartbeats 2000000 in
theorem same_yes (l : List Run) (a b : Nat) (w : World) (ha : SetAt l a w) (hb : SetAt l b w) (hc : Canon l) (hE : REnv w) :
    Calls Tryz.prog 26 #[ptrV a, ptrV b] w fun e w' => e = .returned (.bool true) ∧ Below w.heap.size w w' := by
  have hlen := canon_len hc (Int.le_refl _)
  have hsl : (spansL l).length = l.length := by simp [spansL]
  have hl : (spansL l).length ≤ 1112192 := by unfold allN at hlen; omega
  obtain ⟨S, hS⟩ : ∃ S : ByteArray, (⟨(91 :: printL (spansL l) ++ [93]).toArray⟩ : ByteArray) = S := ⟨_, rfl⟩
  have C1 := Lib.hid (rSpans_any l a w ha hc hE.1)
  have C2 : Hid (∀ V, Below w.heap.size w V → Calls Tryz.prog 21 #[ptrV b] V fun e w' => ∃ ao cp, e = .returned (.slice ao l.length cp) ∧ OwnS (fun b => V.heap.size ≤ b) 27 2 (.slice ao l.length cp) l.length (encSp (spansL l)) w' ∧ Below V.heap.size V w') := Lib.hid fun V hV => rSpans_any l b V (hb.below hV) hc (hE.1.next hV)
  have C3 : Hid (∀ V c, SetAt l c w → Below w.heap.size w V → Calls Tryz.prog 25 #[ptrV c] V fun e w' => e = .returned (.string S) ∧ Below V.heap.size V w') := Lib.hid fun V c h hV => by
    have hE2 := hE.below hV
    rw [← hS]
    exact rPrint_any l c V (h.below hV) hc hE2.1 hE2.2.1 hE2.2.2
  have CS : Hid (∀ V v1 v2, SpG V v1 (spansL l) → SpG V v2 (spansL l) → Calls Tryz.prog 46 #[v1, v2] V fun e w' => e = .returned (.bool true) ∧ Drawn V w') := Lib.hid fun V v1 v2 h1 h2 => sameSpans_yes v1 v2 _ V h1 h2 (by omega)
  have HA := Lib.hid ha
  have HB := Lib.hid hb
  have SG : Hid (∀ (Y : Nat → Prop) v V, OwnS Y 27 2 v l.length (encSp (spansL l)) V → SpG V v (spansL l)) := Lib.hid fun Y v V h => spg_of_own h hsl.symm
  clear ha hb hc hE hlen hsl hl hS
  go_enter Tryz.func26, Tryz.ntmps26
  go_wp2_with fail
  refine C1.out.mono ?_
  rintro e w1 ⟨ao1, cp1, rfl, ho1, hb1⟩
  have C2' := Lib.hid (C2.out w1 hb1)
  have H1 := Lib.hid (And.intro (SG.out _ _ _ ho1) hb1)
  clear ho1 hb1
  go_wp2_with fail
  refine C2'.out.mono ?_
  rintro e w2 ⟨ao2, cp2, rfl, ho2, hb2⟩
  have hb12 := H1.out.2.trans (hb2.mono H1.out.2.size)
  have CS' := Lib.hid (CS.out w2 _ _ (H1.out.1.below hb2) (SG.out _ _ _ ho2))
  have H2 := Lib.hid hb12
  clear ho2 hb2 hb12
  go_wp2_with fail
  refine CS'.out.mono ?_
  rintro e w3 ⟨rfl, hd3⟩
  have hb3 := H2.out.trans (hd3.below.mono H2.out.size)
  have C3a := Lib.hid (C3.out w3 a HA.out hb3)
  have H3 := Lib.hid hb3
  clear hd3 hb3
  go_wp2_with fail
  refine C3a.out.mono ?_
  rintro e w4 ⟨rfl, hb4⟩
  have hb4' := H3.out.trans (hb4.mono H3.out.size)
  have C3b := Lib.hid (C3.out w4 b HB.out hb4')
  have H4 := Lib.hid hb4'
  clear hb4 hb4'
  go_wp2_with fail
  refine C3b.out.mono ?_
  rintro e w5 ⟨rfl, hb5⟩
  have hb5' := H4.out.trans (hb5.mono H4.out.size)
  have H5 := Lib.hid hb5'
  clear hb5 hb5'
  go_wp2
  go_ret
  exact ⟨rfl, H5.out⟩
end Go.Proofs.YtjbkpcdpdifpnaaGreatDoor
/- What the listed variables of RangesLaws' row give the walk, and the world that its witness starts in. -/
namespace Go.Proofs.YtjbkpcdpdifpnaaGreatDoor
open Go.Lib Go.Shelf Go.Kt.Bits
set_option maxRecDepth 100000

noncomputable def theLaid5 : List (String × DataW Unit) := [("math/bits.deBruijn32tab", Rows.laid_math_bits_deBruijn32tab), ("math/bits.deBruijn64tab", Rows.laid_math_bits_deBruijn64tab), ("internal/strconv.uint64pow10", Rows.laid_internal_strconv_uint64pow10), ("glossary/ranges.parts", Rows.laid_glossary_ranges_parts)]

def partL : List (Int × Int) := [(0, 55295), (57344, 1114111), (1114240, 1114367)]
theorem parts_eq : (Rows.laid_glossary_ranges_parts : DataW Unit) = .agg (partL.map fun x => .agg [.lit (.int .i32 x.1), .lit (.int .i32 x.2)]) := rfl
theorem ptab_of_reads {W : World} (h3 : VarReads Tryz.prog W "glossary/ranges.parts" (.agg (partL.map fun x => .agg [.lit (.int .i32 x.1), .lit (.int .i32 x.2)]))) : PTab W := by
  have c4 : Tryz.prog.cellsOf 21 = 1 := by kernel_rfl
  have c80 : Tryz.prog.cellsOf 27 = 2 := by kernel_rfl
  have key : ∀ (i : Nat) (x : Int × Int), i < 3 → partL[i]? = some x → W.cell? ⟨0, 2 * i, none⟩ = some (.int .i32 x.1) ∧ W.cell? ⟨0, 2 * i + 1, none⟩ = some (.int .i32 x.2) := by
    intro i x hi hx
    obtain ⟨g, t, cs, fuel, p, hg, hty, hvar, hd⟩ := h3
    obtain rfl := Option.some.inj ((show Tryz.prog.globalNamed "glossary/ranges.parts" = some 0 by kernel_rfl).symm.trans hg)
    obtain rfl := Option.some.inj ((show (Tryz.prog.globals[0]?).map (·.type) = some 157 by kernel_rfl).symm.trans hty)
    obtain ⟨fuel', d, q, hdi, he⟩ := array_elem Tryz.underlying157 hd i hi
    rw [List.getElem?_map, hx] at hdi
    simp only [Option.map_some, Option.some.injEq] at hdi
    subst hdi
    rw [c80] at he
    have eL : DataW.agg [DataW.lit (H := Unit) (Lit.int .i32 x.1), DataW.lit (Lit.int .i32 x.2)] = DataW.agg (([x.1, x.2] : List Int).map fun z => DataW.lit (Lit.int .i32 z)) := rfl
    rw [eL] at he
    have hcs := ints_of_struct Tryz.underlying27 (fun j f hj => by
      match j, hj with
      | 0, hj => simp at hj; subst hj; exact ⟨Tryz.underlying21, rfl, c4⟩
      | 1, hj => simp at hj; subst hj; exact ⟨Tryz.underlying21, rfl, c4⟩
      | j + 2, hj => simp at hj) (by rw [c80]; rfl) he
    have e0 := congrArg (·[0]?) hcs
    have e1 := congrArg (·[1]?) hcs
    simp only [List.getElem?_take, List.getElem?_drop] at e0 e1
    constructor
    · rw [World.var?_cell hg hvar (2 * i), ← Array.getElem?_toList]
      simpa [Nat.mul_comm] using e0
    · rw [World.var?_cell hg hvar (2 * i + 1), ← Array.getElem?_toList]
      simpa [Nat.mul_comm] using e1
  exact ⟨(key 0 _ (by decide) rfl).1, (key 0 _ (by decide) rfl).2, (key 1 _ (by decide) rfl).1, (key 1 _ (by decide) rfl).2, (key 2 _ (by decide) rfl).1, (key 2 _ (by decide) rfl).2⟩

noncomputable def world5 (os : Os) : World := World.laidAll Tryz.prog os theLaid5
end Go.Proofs.YtjbkpcdpdifpnaaGreatDoor
