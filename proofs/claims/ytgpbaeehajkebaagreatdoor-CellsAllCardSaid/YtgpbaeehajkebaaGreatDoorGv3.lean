/- Parts of the proof of what the last text says. -/
import Derived.Shelf.Strings.Builder1
import Derived.Shelf.Small.Utf8
import Derived.Shelf.Strings.BuilderF
import Derived.Shelf.Strings.BuilderK
import Derived.Shelf.Unicode.DecodeSlow
import Derived.Shelf.Unicode.DecodeAny
import Derived.Shelf.Unicode.DecodeLast
import Derived.Shelf.Strings.BuilderCap
import Derived.Test.YtgpbaeehajkebaaGreatDoorProg
import Derived.OrdersHeld
import Derived.WalkKit
import Derived.OrdersIn
import Derived.OwnWalkIn
namespace Go.Proofs
open Go.Shelf
def Tryz.lays120_ren:Go.Shelf.Ren:=⟨fun|120=>84|n=>n,fun|5=>5|4=>4|n=>n,fun|n=>n⟩
def Tryz.lays260_ren:Go.Shelf.Ren:=⟨fun|260=>115|n=>n,fun|9=>9|21=>21|3=>3|4=>4|5=>5|119=>187|0=>0|46=>183|139=>190|138=>189|n=>n,fun|3=>3|4=>4|n=>n⟩
def Tryz.lays197_ren:Go.Shelf.Ren:=⟨fun|197=>82|260=>115|n=>n,fun|9=>9|21=>21|3=>3|4=>4|5=>5|105=>59|119=>187|0=>0|46=>183|139=>190|138=>189|n=>n,fun|3=>3|4=>4|n=>n⟩
theorem Tryz.lays197:Go.Proofs.Lays.n197 Tryz.prog Tryz.lays197_ren:={
 mixed:=by kernel_rfl
 f197:=Tryz.func82.trans (congrArg some (by kernel_rfl))
 f260:=Tryz.func115.trans (congrArg some (by kernel_rfl))
 t0:=Tryz.underlying0
 a0:=Tryz.isAgg0
 z0:=Tryz.sizeOf0
 v0:=Tryz.zeroValue0
 t3:=Tryz.underlying3
 a3:=Tryz.isAgg3
 z3:=Tryz.sizeOf3
 v3:=Tryz.zeroValue3
 t4:=Tryz.underlying4
 a4:=Tryz.isAgg4
 z4:=Tryz.sizeOf4
 v4:=Tryz.zeroValue4
 t5:=Tryz.underlying5
 a5:=Tryz.isAgg5
 z5:=Tryz.sizeOf5
 v5:=Tryz.zeroValue5
 t9:=Tryz.underlying9
 a9:=Tryz.isAgg9
 z9:=Tryz.sizeOf9
 v9:=Tryz.zeroValue9
 t21:=Tryz.underlying21
 a21:=Tryz.isAgg21
 z21:=Tryz.sizeOf21
 v21:=Tryz.zeroValue21
 t46:=Tryz.underlying183
 a46:=Tryz.isAgg183
 z46:=Tryz.sizeOf183
 v46:=Tryz.zeroValue183
 t105:=Tryz.underlying59
 a105:=Tryz.isAgg59
 z105:=Tryz.sizeOf59
 v105:=Tryz.zeroValue59
 t119:=Tryz.underlying187
 a119:=Tryz.isAgg187
 z119:=Tryz.sizeOf187
 t138:=Tryz.underlying189
 a138:=Tryz.isAgg189
 z138:=Tryz.sizeOf189
 v138:=Tryz.zeroValue189
 t139:=Tryz.underlying190
 a139:=Tryz.isAgg190
 z139:=Tryz.sizeOf190
 v139:=Tryz.zeroValue190
 g3:=by kernel_rfl
 g4:=by kernel_rfl }
open Go.RowKit Go.Lib in
theorem Tryz.utf8_DecodeRuneInString (s:ByteArray) (w:World) (hT:Lib.Utf8Tabs 3 4 w) :
 Calls Tryz.prog 82 #[.string s] w fun e w'=>e = .returned (.tuple #[.int .i32 (Lib.decodeGo s).1,.int .i64 (Lib.decodeGo s).2])∧Below w.heap.size w w':=Any.utf8_DecodeRuneInString Tryz.lays197 s w hT
def Tryz.lays271_ren:Go.Shelf.Ren:=⟨fun|271=>50|120=>84|197=>82|260=>115|n=>n,fun|9=>9|21=>21|3=>3|4=>4|5=>5|105=>59|119=>187|0=>0|46=>183|139=>190|138=>189|n=>n,fun|3=>3|4=>4|n=>n⟩
theorem Tryz.lays271:Go.Proofs.Lays.n271 Tryz.prog Tryz.lays271_ren:={
 mixed:=by kernel_rfl
 f120:=Tryz.func84.trans (congrArg some (by kernel_rfl))
 f197:=Tryz.func82.trans (congrArg some (by kernel_rfl))
 f260:=Tryz.func115.trans (congrArg some (by kernel_rfl))
 f271:=Tryz.func50.trans (congrArg some (by kernel_rfl))
 t0:=Tryz.underlying0
 a0:=Tryz.isAgg0
 z0:=Tryz.sizeOf0
 v0:=Tryz.zeroValue0
 t3:=Tryz.underlying3
 a3:=Tryz.isAgg3
 z3:=Tryz.sizeOf3
 v3:=Tryz.zeroValue3
 t4:=Tryz.underlying4
 a4:=Tryz.isAgg4
 z4:=Tryz.sizeOf4
 v4:=Tryz.zeroValue4
 t5:=Tryz.underlying5
 a5:=Tryz.isAgg5
 z5:=Tryz.sizeOf5
 v5:=Tryz.zeroValue5
 t9:=Tryz.underlying9
 a9:=Tryz.isAgg9
 z9:=Tryz.sizeOf9
 v9:=Tryz.zeroValue9
 t21:=Tryz.underlying21
 a21:=Tryz.isAgg21
 z21:=Tryz.sizeOf21
 v21:=Tryz.zeroValue21
 t46:=Tryz.underlying183
 a46:=Tryz.isAgg183
 z46:=Tryz.sizeOf183
 v46:=Tryz.zeroValue183
 t105:=Tryz.underlying59
 a105:=Tryz.isAgg59
 z105:=Tryz.sizeOf59
 v105:=Tryz.zeroValue59
 t119:=Tryz.underlying187
 a119:=Tryz.isAgg187
 z119:=Tryz.sizeOf187
 t138:=Tryz.underlying189
 a138:=Tryz.isAgg189
 z138:=Tryz.sizeOf189
 v138:=Tryz.zeroValue189
 t139:=Tryz.underlying190
 a139:=Tryz.isAgg190
 z139:=Tryz.sizeOf190
 v139:=Tryz.zeroValue190
 g3:=by kernel_rfl
 g4:=by kernel_rfl }
open Go.RowKit Go.Lib in
theorem Tryz.utf8_DecodeLastRuneInString (s:ByteArray) (w:World) (hs:s.size≤9223372036854775807) (hT:Lib.Utf8Tabs 3 4 w) :
 Calls Tryz.prog 50 #[.string s] w fun e w'=>e = .returned (.tuple #[.int .i32 (Lib.decodeLastL s.data.toList).1,.int .i64 (Lib.decodeLastL s.data.toList).2])∧Below w.heap.size w w':=Any.utf8_DecodeLastRuneInString Tryz.lays271 s w hs hT
end Go.Proofs
namespace Go.Kt
open Go

section
variable {P : Program} {ops : Array Oper} {Q : Exit → Act → World → Prop} {md : Region.Mode}

def outside (ops : Array Oper) (k : Nat) : Bool := ops.all fun o => o.dst != some k
def apartB (ops : Array Oper) (n : Nat) : Bool :=
  (List.range ops.size).all fun i => match (ops.getD i default).dst with
    | none => true
    | some k => decide (k < n) && (List.range ops.size).all fun j => i == j || (ops.getD j default).dst != some k
def forwardB (md : Region.Mode) (ops : Array Oper) : Bool :=
  (List.range ops.size).all fun i => (ops.getD i default).after.all fun e => !Region.binds md e || decide (e.on < i)
def waitsB (md : Region.Mode) (o : Oper) (j : Nat) : Bool := o.after.any fun e => e.on == j && Region.binds md e
def slotB (ops : Array Oper) (j k : Nat) : Bool := match ops[j]? with | some o => o.dst == some k | none => false

structure Like (ops : Array Oper) (a0 a : Act) : Prop where
  defers : a.defers = a0.defers
  size : a.tmps.size = a0.tmps.size
  far : ∀ k, outside ops k = true → a.tmps.getD k undef = a0.tmps.getD k undef

def SlotStep (P : Program) (md : Region.Mode) (ops : Array Oper) (Q : Exit → Act → World → Prop) (S : World → Prop) (R : World → World → Prop) (p : Nat → Value → World → Prop) (a0 : Act) (i : Nat) (o : Oper) : Prop :=
  ∀ a w, S w → Like ops a0 a → (∀ j k, waitsB md o j = true → slotB ops j k = true → p j (a.tmps.getD k undef) w) →
    Region.wanted o (yielded ops a.tmps) = true ∧ o.wp P a w (fun a' w' => ∃ v, a' = a.put o.dst v ∧ S w' ∧ R w w' ∧ p i v w') Q
def SlotSteps (P : Program) (md : Region.Mode) (ops : Array Oper) (Q : Exit → Act → World → Prop) (S : World → Prop) (R : World → World → Prop) (p : Nat → Value → World → Prop) (a0 : Act) : Nat → List Oper → Prop
  | _, [] => True
  | i, o :: r => SlotStep P md ops Q S R p a0 i o ∧ SlotSteps P md ops Q S R p a0 (i + 1) r
theorem SlotSteps.get {S : World → Prop} {R : World → World → Prop} {p : Nat → Value → World → Prop} {a0 : Act} : ∀ (l : List Oper) (i : Nat), SlotSteps P md ops Q S R p a0 i l → ∀ j o, l[j]? = some o → SlotStep P md ops Q S R p a0 (i + j) o
  | [], _, _, j, o, h => by simp at h
  | x :: r, i, hs, 0, o, h => by simp at h; subst h; exact hs.1
  | x :: r, i, hs, j + 1, o, h => by
    have := SlotSteps.get r (i + 1) hs.2 j o (by simpa using h)
    rw [show i + (j + 1) = i + 1 + j by omega]; exact this

def unlisted (listed : Array Bool) (n : Nat) : Nat := ((List.range n).filter fun i => !listed.getD i true).length
theorem filter_set_lt (listed : Array Bool) (i : Nat) (h : listed.getD i true = false) : ∀ (l : List Nat), i ∈ l →
    (l.filter fun j => !(listed.setIfInBounds i true).getD j true).length < (l.filter fun j => !listed.getD j true).length := by
  have hi : i < listed.size := by
    rcases Nat.lt_or_ge i listed.size with h' | h'
    · exact h'
    · simp [Array.getD, Nat.not_lt.2 h'] at h
  have hle : ∀ l : List Nat, (l.filter fun j => !(listed.setIfInBounds i true).getD j true).length ≤ (l.filter fun j => !listed.getD j true).length := by
    intro l
    induction l with
    | nil => simp
    | cons x r ih =>
      by_cases hx : x = i
      · subst hx
        have h1 : (listed.setIfInBounds x true).getD x true = true := by simp [Array.getD, hi]
        simp only [List.filter_cons, h1, h, Bool.not_true, Bool.not_false, if_true, Bool.false_eq_true, if_false, List.length_cons]
        omega
      · have h1 : (listed.setIfInBounds i true).getD x true = listed.getD x true := by
          simp only [Array.getD_eq_getD_getElem?, Array.getElem?_setIfInBounds, if_neg (Ne.symm hx)]
        simp only [List.filter_cons, h1]
        split
        · simp only [List.length_cons]; omega
        · exact ih
  intro l
  induction l with
  | nil => intro hm; cases hm
  | cons x r ih =>
    intro hm
    by_cases hx : x = i
    · subst hx
      have h1 : (listed.setIfInBounds x true).getD x true = true := by simp [Array.getD, hi]
      have := hle r
      simp only [List.filter_cons, h1, h, Bool.not_true, Bool.not_false, if_true, Bool.false_eq_true, if_false, List.length_cons]
      omega
    · have h1 : (listed.setIfInBounds i true).getD x true = listed.getD x true := by
        simp only [Array.getD_eq_getD_getElem?, Array.getElem?_setIfInBounds, if_neg (Ne.symm hx)]
      have hm' : i ∈ r := by
        rcases List.mem_cons.1 hm with h | h
        · exact absurd h.symm hx
        · exact h
      have := ih hm'
      simp only [List.filter_cons, h1]
      split
      · simp only [List.length_cons]; omega
      · exact this

theorem wpAny_inv (I : Array Bool → Act → World → Prop)
    (step : ∀ listed a w i, I listed a w → i ∈ Region.ready md ops listed → wpOp P ops Q i (I (listed.setIfInBounds i true)) a w)
    (done : ∀ listed a w, I listed a w → Region.ready md ops listed = [] → Q .normal a w) :
    ∀ fuel listed a w, unlisted listed ops.size ≤ fuel → I listed a w → wpAny P md ops Q fuel listed a w := by
  intro fuel
  induction fuel with
  | zero =>
    intro listed a w hf hI
    have hr : Region.ready md ops listed = [] := by
      rcases List.eq_nil_or_concat (Region.ready md ops listed) with h | ⟨l, i, h⟩
      · exact h
      · have hi : i ∈ Region.ready md ops listed := by rw [h]; simp
        obtain ⟨h1, o, ho, _⟩ := mem_ready.1 hi
        have hm : i ∈ (List.range ops.size).filter fun i => !listed.getD i true := by
          rw [List.mem_filter]
          exact ⟨List.mem_range.2 (Array.getElem?_eq_some_iff.1 ho).1, by rw [h1]; rfl⟩
        have := List.length_pos_of_mem hm
        unfold unlisted at hf
        omega
    exact ⟨hr, done _ _ _ hI hr⟩
  | succ fuel ih =>
    intro listed a w hf hI
    refine ⟨done _ _ _ hI, fun i hi => ?_⟩
    obtain ⟨h1, o, ho, _⟩ := mem_ready.1 hi
    have hlt := filter_set_lt listed i h1 (List.range ops.size) (List.mem_range.2 (Array.getElem?_eq_some_iff.1 ho).1)
    refine wpOp_mono (fun a' w' h' => ih _ a' w' ?_ h') (step listed a w i hI hi)
    unfold unlisted at hf ⊢
    omega

end
end Go.Kt
namespace Go.Kt
open Go
section
variable {P : Program} {ops : Array Oper} {Q : Exit → Act → World → Prop}
theorem wp_value {o : Oper} {a : Act} {w w' : World} {v : Value} {K : Act → World → Prop} (h : (execOp a.eval o).run P w = .ok (.value v) w') (hK : K (a.put o.dst v) w') : o.wp P a w K Q := by
  unfold Oper.wp; rw [h]; exact hK
theorem wp_enter {o : Oper} {a : Act} {w w' : World} {f : Nat} {args : Array Value} {K : Act → World → Prop} (h : (execOp a.eval o).run P w = .ok (.enter f args) w')
    (hK : Calls P f args w' fun e w'' => ∃ v, e = .returned v ∧ K (a.put o.dst v) w'') : o.wp P a w K Q := by
  unfold Oper.wp; rw [h]
  refine Calls.mono hK fun e w'' he => ?_
  obtain ⟨v, rfl, hv⟩ := he
  exact hv
theorem wp_skipped {o : Oper} {a : Act} {w w' : World} {K : Act → World → Prop} (h : (execOp a.eval o).run P w = .ok .skip w') (hK : K (a.put o.dst undef) w') : o.wp P a w K Q := by
  unfold Oper.wp; rw [h]; exact hK
theorem run_val {m : Sem Value} {w w' : World} {v : Value} (h : m.run P w = .ok v w') : (m >>= fun x => pure (Next.value x)).run P w = .ok (.value v) w' := by
  simp [h]
end
end Go.Kt
namespace Go.Kt
open Go
section
variable {P : Program} {ops : Array Oper} {Q : Exit → Act → World → Prop} {o : Oper} {a : Act} {w w' : World}
theorem exec_load {t : TypeId} {x : Operand} {u v : Value} (ho : o.op = .load t x) (hx : a.eval x = u) (h : (Instr.loadAt t u).run P w = .ok v w') : (execOp a.eval o).run P w = .ok (.value v) w' := by
  unfold execOp; rw [ho]; simp only [hx]; exact run_val h
theorem exec_binop {op : BinOp} {t ty : TypeId} {x y : Operand} {u1 u2 v : Value} (ho : o.op = .binOp op t x y ty) (hx : a.eval x = u1) (hy : a.eval y = u2) (h : (do eqGuard op t x y u1 u2; binOp op t u1 u2 : Sem Value).run P w = .ok v w') : (execOp a.eval o).run P w = .ok (.value v) w' := by
  unfold execOp; rw [ho]; simp only [hx, hy]; exact run_val h
theorem exec_move {x : Operand} {u : Value} (ho : o.op = .move x) (hx : a.eval x = u) : (execOp a.eval o).run P w = .ok (.value u) w := by
  unfold execOp; rw [ho]; simp only [hx]; rfl
theorem exec_store {t : TypeId} {x y : Operand} {u1 u2 : Value} (ho : o.op = .store t x y) (hx : a.eval x = u1) (hy : a.eval y = u2) (h : (Instr.storeAt t u1 u2).run P w = .ok () w') : (execOp a.eval o).run P w = .ok .skip w' := by
  unfold execOp; rw [ho]; simp only [hx, hy]; simp [h]
theorem exec_call {f : FuncId} {args : Array Operand} {ats : Array TypeId} {vs : Array Value} {fn : Func} (ho : o.op = .call ⟨.value (.func f), args, ats⟩) (hx : args.map a.eval = vs) (hf : P.funcs[f]? = some fn) (hn : (fn.name == "runtime.NumGoroutine") = false) (hb : fn.body.isNone = false) : (execOp a.eval o).run P w = .ok (.enter f vs) w := by
  unfold execOp; rw [ho]; simp only [resolve, hx, Act.eval, Deferred.ofValue, invoke, callFunc]
  have h1 : ¬ fn.name = "runtime.NumGoroutine" := fun h => by rw [h] at hn; exact absurd hn (by decide)
  have h2 : ¬ fn.body = none := fun h => by rw [h] at hb; cases hb
  simp [hf, h1, h2]
end
end Go.Kt
namespace Go.Kt
open Go
section
variable {P : Program} {ops : Array Oper} {o : Oper} {a : Act} {w w' : World}
def dsts (ops : Array Oper) : List Nat := ops.toList.filterMap (·.dst)
theorem foldl_set_size (f : Nat → Value) : ∀ (ks : List Nat) (t : Array Value), (ks.foldl (fun t k => t.setIfInBounds k (f k)) t).size = t.size
  | [], _ => rfl
  | k :: ks, t => by rw [List.foldl_cons, foldl_set_size f ks]; simp
theorem foldl_set_get (f : Nat → Value) : ∀ (ks : List Nat) (t : Array Value) (i : Nat), i < t.size → (ks.foldl (fun t k => t.setIfInBounds k (f k)) t).getD i undef = if i ∈ ks then f i else t.getD i undef
  | [], t, i, _ => by simp
  | k :: ks, t, i, h => by
    rw [List.foldl_cons, foldl_set_get f ks _ i (by simpa using h)]
    by_cases h1 : i ∈ ks
    · simp [h1]
    · by_cases h2 : k = i
      · subst h2
        simp [h1, Array.getD_eq_getD_getElem?, h]
      · simp [h1, Ne.symm h2, Array.getD_eq_getD_getElem?, h2]
theorem Like.out {a0 : Act} (h : Like ops a0 a) (ks : List Nat) (hk : dsts ops = ks) : ∃ f : Nat → Value, a = ⟨ks.foldl (fun t k => t.setIfInBounds k (f k)) a0.tmps, a0.defers⟩ ∧ ∀ k, f k = a.tmps.getD k undef := by
  refine ⟨fun k => a.tmps.getD k undef, ?_, fun _ => rfl⟩
  obtain ⟨t, d⟩ := a
  obtain ⟨h1, h2, h3⟩ := h
  simp only at h1 h2 h3 ⊢
  subst h1
  congr 1
  refine Array.ext (by rw [foldl_set_size]; exact h2) fun i hi hi' => ?_
  have hlt : i < a0.tmps.size := by rw [← h2]; exact hi
  have e1 : t[i] = t.getD i undef := by simp [Array.getD_eq_getD_getElem?, hi]
  have e2 : ∀ (x : Array Value) (hx : i < x.size), x[i] = x.getD i undef := fun x hx => by simp [Array.getD_eq_getD_getElem?, hx]
  rw [e1, e2 _ hi', foldl_set_get _ _ _ _ hlt]
  by_cases hno : i ∈ ks
  · rw [if_pos hno]
  · rw [if_neg hno]
    refine h3 i ?_
    unfold outside
    rw [Array.all_eq_true_iff_forall_mem]
    intro x hx
    have : x.dst ≠ some i := fun e => hno (by
      rw [← hk]
      exact List.mem_filterMap.2 ⟨x, by simpa using hx, e⟩)
    simpa using this
end
end Go.Kt
namespace Go.Kt
open Go
section
variable {P:Program} {o:Oper} {a:Act} {w w':World}
theorem exec_indexAddr {t:TypeId} {x y:Operand} {u1 u2 v:Value} (ho:o.op = .indexAddr t x y) (hx:a.eval x=u1) (hy:a.eval y=u2) (h:(Instr.indexAt t u1 u2).run P w = .ok v w'):(execOp a.eval o).run P w = .ok (.value v) w':=by
 unfold execOp;rw[ho];simp only[hx,hy];exact run_val h
theorem exec_fieldAddr {t:TypeId} {x:Operand} {f:Nat} {u v:Value} (ho:o.op = .fieldAddr t x f) (hx:a.eval x=u) (h:(Instr.fieldAt t u f).run P w = .ok v w'):(execOp a.eval o).run P w = .ok (.value v) w':=by
 unfold execOp;rw[ho];simp only[hx];exact run_val h
theorem exec_buildSlice {t:TypeId} {n:Nat} {parts:Array (Nat × Operand)} {ps:Array (Nat × Value)} {v:Value} (ho:o.op = .buildSlice t n parts) (hp:parts.map (fun p=>(p.1,a.eval p.2))=ps) (h:(Instr.buildSlice t n ps).run P w = .ok v w'):(execOp a.eval o).run P w = .ok (.value v) w':=by
 unfold execOp;rw[ho];simp only[];subst hp;exact run_val h
theorem exec_build {t:TypeId} {parts:Array (Nat × Operand)} {ps:Array (Nat × Value)} {v:Value} (ho:o.op = .build t parts) (hp:parts.map (fun p=>(p.1,a.eval p.2))=ps) (h:(Instr.build t ps).run P w = .ok v w'):(execOp a.eval o).run P w = .ok (.value v) w':=by
 unfold execOp;rw[ho];simp only[];subst hp;exact run_val h
theorem exec_nilCheck {x:Operand} {p:Addr} (ho:o.op = .nilCheck x) (hx:a.eval x = .pointer (some p)):(execOp a.eval o).run P w = .ok (.value (.pointer (some p))) w:=by
 unfold execOp;rw[ho];simp only[hx];rfl
end
end Go.Kt
namespace Go.Kt
open Go

section
variable {P:Program} {ops:Array Oper} {Q:Exit→Act→World→Prop} {md:Region.Mode}

def awaits (md:Region.Mode) (ops:Array Oper) (j i:Nat):Bool:=match ops[j]? with|some o=>waitsB md o i|none=>false
def DStep (P:Program) (md:Region.Mode) (ops:Array Oper) (Q:Exit→Act→World→Prop) (S:(Nat→Bool)→World→Prop) (p:Nat→Value→World→Prop) (a0:Act) (i:Nat) (o:Oper):Prop :=
  ∀(D:Nat→Bool) a w,D i=false→(∀j,awaits md ops j i=true→D j=false)→(∀j,waitsB md o j=true→D j=true)→S D w→Like ops a0 a→(∀j k,waitsB md o j=true→slotB ops j k=true→p j (a.tmps.getD k undef) w) →
    Region.wanted o (yielded ops a.tmps)=true∧o.wp P a w (fun a' w'=>∃v,a'=a.put o.dst v∧S (fun j=>D j||j==i) w'∧(∀j u,D j=true→p j u w→p j u w')∧p i v w') Q
def DSteps (P:Program) (md:Region.Mode) (ops:Array Oper) (Q:Exit→Act→World→Prop) (S:(Nat→Bool)→World→Prop) (p:Nat→Value→World→Prop) (a0:Act):Nat→List Oper→Prop
  | _,[]=>True
  | i,o::r=>DStep P md ops Q S p a0 i o∧DSteps P md ops Q S p a0 (i+1) r
theorem DSteps.get {S:(Nat→Bool)→World→Prop} {p:Nat→Value→World→Prop} {a0:Act}:∀(l:List Oper) (i:Nat),DSteps P md ops Q S p a0 i l→∀j o,l[j]? = some o→DStep P md ops Q S p a0 (i+j) o
  | [],_,_,j,o,h=>by simp at h
  | x::r,i,hs,0,o,h=>by simp at h;subst h;exact hs.1
  | x::r,i,hs,j+1,o,h=>by
    have:=DSteps.get r (i+1) hs.2 j o (by simpa using h)
    rw[show i+(j+1)=i+1+j by omega];exact this
theorem DSteps.cons {S:(Nat→Bool)→World→Prop} {p:Nat→Value→World→Prop} {a0:Act} {i:Nat} {o:Oper} {r:List Oper} (h:DStep P md ops Q S p a0 i o) (hr:DSteps P md ops Q S p a0 (i+1) r):DSteps P md ops Q S p a0 i (o::r):=⟨h,hr⟩
theorem DSteps.nil {S:(Nat→Bool)→World→Prop} {p:Nat→Value→World→Prop} {a0:Act} {i:Nat}:DSteps P md ops Q S p a0 i []:=trivial

theorem set_done (listed:Array Bool) (i:Nat) (hi:i<listed.size):(fun j=>(listed.setIfInBounds i true).getD j false)=fun j=>listed.getD j false||j==i:=by
  funext j
  simp only[Array.getD_eq_getD_getElem?,Array.getElem?_setIfInBounds]
  by_cases h:i=j
  · subst h;simp[hi]
  · rw[if_neg h]
    have:(j==i)=false:=by simp;omega
    rw[this,Bool.or_false]

theorem wp_region_done {id:Nat} {a0:Act} {w0:World} (S:(Nat→Bool)→World→Prop) (p:Nat→Value→World→Prop) (hm:P.follows .mixedOrders=true) (hap:apartB ops a0.tmps.size=true) (hfw:forwardB .any ops=true)
    (hS:S (fun _=>false) w0.drew) (hs:DSteps P .any ops Q S p a0 0 ops.toList)
    (hd:∀D a w,(∀j,j<ops.size→D j=true)→S D w→Like ops a0 a→(∀j k,slotB ops j k=true→p j (a.tmps.getD k undef) w)→(∀j,j<ops.size→∃v,p j v w)→Q .normal a w):(Code.region id ops true).wp P Q a0 w0:=by
  have hdst:∀(i:Nat) (o:Oper) (k:Nat),ops[i]? = some o→o.dst=some k→k<a0.tmps.size∧∀(j:Nat) (oj:Oper),ops[j]? = some oj→oj.dst=some k→i=j:=by
    intro i o k ho hk
    have hi:=(Array.getElem?_eq_some_iff.1 ho).1
    have h1:=List.all_eq_true.1 hap i (List.mem_range.2 hi)
    have h2:ops.getD i default=o:=by simp[Array.getD_eq_getD_getElem?,ho]
    rw[h2,hk] at h1
    simp only[Bool.and_eq_true,decide_eq_true_eq] at h1
    refine⟨h1.1,fun j oj hj hjk=>?_⟩
    have hj':=(Array.getElem?_eq_some_iff.1 hj).1
    have h3:=List.all_eq_true.1 h1.2 j (List.mem_range.2 hj')
    have h4:ops.getD j default=oj:=by simp[Array.getD_eq_getD_getElem?,hj]
    rw[h4,hjk] at h3
    simpa using h3
  refine wp_region_any hm ?_
  refine wpAny_inv (fun listed a w=>listed.size=ops.size∧S (fun j=>listed.getD j false) w∧(∀j k,listed.getD j false=true→awaits .any ops j k=true→listed.getD k false=true)∧Like ops a0 a∧(∀j,listed.getD j false=true→∃v,p j v w)∧∀j k,listed.getD j false=true→slotB ops j k=true→p j (a.tmps.getD k undef) w) ?_ ?_ _ _ _ _ ?_ ⟨by simp,by rw[show (fun j=>(Array.replicate ops.size false).getD j false)=fun _=>false from funext fun j=>by simp only[Array.getD_eq_getD_getElem?,Array.getElem?_replicate];split <;> rfl];exact hS,?_,⟨rfl,rfl,fun _ _=>rfl⟩,?_,?_⟩
  · rintro listed a w i ⟨hz,hSw,hC,hL,hE,hP⟩ hi
    obtain⟨hjun,o,ho,hall⟩:=mem_ready.1 hi
    have hilt:=(Array.getElem?_eq_some_iff.1 ho).1
    have hin:listed.getD i false=false:=by
      have hi2:i<listed.size:=by omega
      simpa [Array.getD_eq_getD_getElem?,hi2] using hjun
    have hw8:∀j,waitsB .any o j=true→listed.getD j false=true:=fun j hj=>by
      unfold waitsB at hj
      obtain⟨e,he,h2⟩:=Array.any_eq_true'.1 hj
      simp only[Bool.and_eq_true,beq_iff_eq] at h2
      have:=hall e he h2.2
      rw[h2.1] at this
      exact this
    have hst:=DSteps.get ops.toList 0 hs i o (by simpa using ho)
    rw[Nat.zero_add] at hst
    obtain⟨hw,hx⟩:=hst (fun j=>listed.getD j false) a w hin (fun j hj=>by
      cases hl:listed.getD j false with
      | false=>rfl
      | true=>have:=hC j i hl hj;rw[hin] at this;cases this) hw8 hSw hL (fun j k hj hk=>hP j k (hw8 j hj) hk)
    unfold wpOp
    simp only[ho,hw,if_true]
    refine .inl (Oper.wp_mono ?_ hx)
    rintro a' w' ⟨v,rfl,hS',hR',hpv⟩
    refine⟨by simpa using hz,by rw[set_done listed i (by omega)];exact hS',?_,⟨?_,?_,fun k hk=>?_⟩,fun j hj=>?_,fun j k hj hk=>?_⟩
    · intro j k hj hk
      have hd1:=congrFun (set_done listed i (by omega))
      rw[hd1] at hj ⊢
      rw[Bool.or_eq_true] at hj ⊢
      left
      rcases hj with hj|hj
      · exact hC j k hj hk
      · have:j=i:=by simpa using hj
        subst this
        unfold awaits at hk
        rw[ho] at hk
        exact hw8 k hk
    · cases h:o.dst <;> exact hL.defers
    · cases h:o.dst
      · exact hL.size
      · simp only[Act.put,Array.size_setIfInBounds];exact hL.size
    · cases h:o.dst with
      | none=>exact hL.far k hk
      | some d =>
        have hne:d≠k:=fun e=>by
          subst e
          unfold outside at hk
          have:=Array.all_eq_true.1 hk i hilt
          rw[(Array.getElem?_eq_some_iff.1 ho).2,h] at this
          simp at this
        simp only[Act.put,Array.getD_eq_getD_getElem?,Array.getElem?_setIfInBounds,if_neg hne]
        have:=hL.far k hk
        simpa only[Array.getD_eq_getD_getElem?] using this
    · by_cases hji:j=i
      · subst hji;exact⟨v,hpv⟩
      · have hjl:listed.getD j false=true:=by
          simp only[Array.getD_eq_getD_getElem?,Array.getElem?_setIfInBounds,if_neg (Ne.symm hji)] at hj ⊢
          exact hj
        obtain⟨u,hu⟩:=hE j hjl
        exact⟨u,hR' j _ hjl hu⟩
    · obtain⟨oj,hoj,hjk⟩:∃oj,ops[j]? = some oj∧oj.dst=some k:=by
        unfold slotB at hk
        cases h:ops[j]? with
        | none=>rw[h] at hk;cases hk
        | some oj=>rw[h] at hk;exact⟨oj,rfl,by simpa using hk⟩
      by_cases hji:j=i
      · subst hji
        rw[hoj] at ho
        cases ho
        have hkz:=(hdst j _ k hoj hjk).1
        rw[hjk]
        have:(a.put (some k) v).tmps.getD k undef=v:=by
          have:k<a.tmps.size:=by rw[hL.size];exact hkz
          simp[Act.put,Array.getD_eq_getD_getElem?,this]
        rw[this]
        exact hpv
      · have hjl:listed.getD j false=true:=by
          simp only[Array.getD_eq_getD_getElem?,Array.getElem?_setIfInBounds,if_neg (Ne.symm hji)] at hj ⊢
          exact hj
        have h1:=hR' j _ hjl (hP j k hjl hk)
        cases h:o.dst with
        | none=>exact h1
        | some d =>
          have hne:d≠k:=fun e=>by
            subst e
            exact hji ((hdst i o d ho h).2 j oj hoj hjk).symm
          simp only[Act.put,Array.getD_eq_getD_getElem?,Array.getElem?_setIfInBounds,if_neg hne] at h1 ⊢
          exact h1
  · rintro listed a w ⟨hz,hSw,hC,hL,hE,hP⟩ hr
    have hall:∀n j,j<n→j<ops.size→listed.getD j false=true:=by
      intro n
      induction n with
      | zero=>intro j h;omega
      | succ n ih =>
        intro j hjn hj
        cases hl:listed.getD j true with
        | true =>
          have:j<listed.size:=by omega
          simpa [Array.getD_eq_getD_getElem?,this] using hl
        | false =>
          exfalso
          have hmem:j∈Region.ready .any ops listed:=mem_ready.2 ⟨hl,ops[j],by simp[hj],fun e he hb=>by
            have h1:=List.all_eq_true.1 hfw j (List.mem_range.2 hj)
            have h2:ops.getD j default=ops[j]:=by simp[Array.getD_eq_getD_getElem?,hj]
            rw[h2] at h1
            have h3:=Array.all_eq_true_iff_forall_mem.1 h1 e he
            rw[hb] at h3
            simp at h3
            exact ih e.on (by omega) (by omega)⟩
          rw[hr] at hmem
          cases hmem
    refine hd _ a w (fun j hj=>hall (j+1) j (by omega) hj) hSw hL (fun j k hk=>hP j k (hall (j+1) j (by omega) ?_) hk) (fun j hj=>hE j (hall (j+1) j (by omega) hj))
    unfold slotB at hk
    cases h:ops[j]? with
    | none=>rw[h] at hk;cases hk
    | some oj=>exact (Array.getElem?_eq_some_iff.1 h).1
  · unfold unlisted
    exact Nat.le_trans (List.length_filter_le _ _) (by simp)
  · intro j k hj
    simp only[Array.getD_eq_getD_getElem?,Array.getElem?_replicate] at hj
    split at hj <;> simp at hj
  · intro j hj
    simp only[Array.getD_eq_getD_getElem?,Array.getElem?_replicate] at hj
    split at hj <;> simp at hj
  · intro j k hj
    simp only[Array.getD_eq_getD_getElem?,Array.getElem?_replicate] at hj
    split at hj <;> simp at hj
end
end Go.Kt
namespace Go.Kt
open Go Go.RowKit
section
variable {P:Program} {o:Oper} {a:Act} {w w':World}
theorem exec_slice {t:TypeId} {x:Operand} {lo hi mx:Option Operand} {u v:Value} {l h m:Option Value} (ho:o.op = .slice t x lo hi mx) (hx:a.eval x=u) (h1:lo.map a.eval=l) (h2:hi.map a.eval=h) (h3:mx.map a.eval=m) (hr:(Instr.sliceAt t u l h m).run P w = .ok v w'):(execOp a.eval o).run P w = .ok (.value v) w':=by
 unfold execOp;rw[ho];simp only[hx,h1,h2,h3];exact run_val hr
end
end Go.Kt
namespace Go.Kt
open Go

section
variable {F:Fence} {n:Nat} {P:Program} {ops:Array Oper} {Q:Exit→Act→World→Prop} {md:Region.Mode}
theorem wpIn_value {o:Oper} {a:Act} {w w':World} {v:Value} {K:Act→World→Prop} (hc:∀c,o.op≠.call c∧o.op≠.defer c) (h:(execOp a.eval o).run P w = .ok (.value v) w') (hK:K (a.put o.dst v) w'):o.wpIn F n P a w K Q:=by
  unfold Oper.wpIn
  refine⟨fun f hf=>?_,?_⟩
  · unfold Oper.about at hf
    split at hf
    · rename_i c e;exact absurd e (hc c).1
    · cases hf
  · rw[Oper.semAt_plain F _ _ (fun c=>(hc c).2),h]
    exact hK
theorem wpAnyIn_inv (I:Array Bool→Act→World→Prop)
    (step:∀listed a w i,I listed a w→i∈Region.ready md ops listed→wpOpIn F n P ops Q i (I (listed.setIfInBounds i true)) a w)
    (done:∀listed a w,I listed a w→Region.ready md ops listed=[]→Q .normal a w) :
    ∀fuel listed a w,unlisted listed ops.size≤fuel→I listed a w→wpAnyIn F n P md ops Q fuel listed a w:=by
  intro fuel
  induction fuel with
  | zero =>
    intro listed a w hf hI
    have hr:Region.ready md ops listed=[]:=by
      rcases List.eq_nil_or_concat (Region.ready md ops listed) with h|⟨l,i,h⟩
      · exact h
      · have hi:i∈Region.ready md ops listed:=by rw[h];simp
        obtain⟨h1,o,ho,_⟩:=mem_ready.1 hi
        have hm:i∈(List.range ops.size).filter fun i=>!listed.getD i true:=by
          rw[List.mem_filter]
          exact⟨List.mem_range.2 (Array.getElem?_eq_some_iff.1 ho).1,by rw[h1];rfl⟩
        have:=List.length_pos_of_mem hm
        unfold unlisted at hf
        omega
    exact⟨hr,done _ _ _ hI hr⟩
  | succ fuel ih =>
    intro listed a w hf hI
    refine⟨done _ _ _ hI,fun i hi=>?_⟩
    obtain⟨h1,o,ho,_⟩:=mem_ready.1 hi
    have hlt:=filter_set_lt listed i h1 (List.range ops.size) (List.mem_range.2 (Array.getElem?_eq_some_iff.1 ho).1)
    refine wpOpIn_mono (fun a' w' h'=>ih _ a' w' ?_ h') (step listed a w i hI hi)
    unfold unlisted at hf ⊢
    omega

def DInStep (F:Fence) (n:Nat) (P:Program) (md:Region.Mode) (ops:Array Oper) (Q:Exit→Act→World→Prop) (S:(Nat→Bool)→World→Prop) (p:Nat→Value→World→Prop) (a0:Act) (i:Nat) (o:Oper):Prop :=
  ∀(D:Nat→Bool) a w,D i=false→(∀j,awaits md ops j i=true→D j=false)→(∀j,waitsB md o j=true→D j=true)→S D w→Like ops a0 a→(∀j k,waitsB md o j=true→slotB ops j k=true→p j (a.tmps.getD k undef) w) →
    Region.wanted o (yielded ops a.tmps)=true∧o.wpIn F n P a w (fun a' w'=>∃v,a'=a.put o.dst v∧S (fun j=>D j||j==i) w'∧(∀j u,D j=true→p j u w→p j u w')∧p i v w') Q
def DInSteps (F:Fence) (n:Nat) (P:Program) (md:Region.Mode) (ops:Array Oper) (Q:Exit→Act→World→Prop) (S:(Nat→Bool)→World→Prop) (p:Nat→Value→World→Prop) (a0:Act):Nat→List Oper→Prop
  | _,[]=>True
  | i,o::r=>DInStep F n P md ops Q S p a0 i o∧DInSteps F n P md ops Q S p a0 (i+1) r
theorem DInSteps.get {S:(Nat→Bool)→World→Prop} {p:Nat→Value→World→Prop} {a0:Act}:∀(l:List Oper) (i:Nat),DInSteps F n P md ops Q S p a0 i l→∀j o,l[j]? = some o→DInStep F n P md ops Q S p a0 (i+j) o
  | [],_,_,j,o,h=>by simp at h
  | x::r,i,hs,0,o,h=>by simp at h;subst h;exact hs.1
  | x::r,i,hs,j+1,o,h=>by
    have:=DInSteps.get r (i+1) hs.2 j o (by simpa using h)
    rw[show i+(j+1)=i+1+j by omega];exact this
theorem DInSteps.cons {S:(Nat→Bool)→World→Prop} {p:Nat→Value→World→Prop} {a0:Act} {i:Nat} {o:Oper} {r:List Oper} (h:DInStep F n P md ops Q S p a0 i o) (hr:DInSteps F n P md ops Q S p a0 (i+1) r):DInSteps F n P md ops Q S p a0 i (o::r):=⟨h,hr⟩
theorem DInSteps.nil {S:(Nat→Bool)→World→Prop} {p:Nat→Value→World→Prop} {a0:Act} {i:Nat}:DInSteps F n P md ops Q S p a0 i []:=trivial

theorem wpIn_region_done {id:Nat} {a0:Act} {w0:World} (S:(Nat→Bool)→World→Prop) (p:Nat→Value→World→Prop) (hm:P.follows .mixedOrders=true) (hap:apartB ops a0.tmps.size=true) (hfw:forwardB .any ops=true)
    (hS:S (fun _=>false) w0.drew) (hs:DInSteps F n P .any ops Q S p a0 0 ops.toList)
    (hd:∀D a w,(∀j,j<ops.size→D j=true)→S D w→Like ops a0 a→(∀j k,slotB ops j k=true→p j (a.tmps.getD k undef) w)→(∀j,j<ops.size→∃v,p j v w)→Q .normal a w):(Code.region id ops true).wpIn F n P Q a0 w0:=by
  have hdst:∀(i:Nat) (o:Oper) (k:Nat),ops[i]? = some o→o.dst=some k→k<a0.tmps.size∧∀(j:Nat) (oj:Oper),ops[j]? = some oj→oj.dst=some k→i=j:=by
    intro i o k ho hk
    have hi:=(Array.getElem?_eq_some_iff.1 ho).1
    have h1:=List.all_eq_true.1 hap i (List.mem_range.2 hi)
    have h2:ops.getD i default=o:=by simp[Array.getD_eq_getD_getElem?,ho]
    rw[h2,hk] at h1
    simp only[Bool.and_eq_true,decide_eq_true_eq] at h1
    refine⟨h1.1,fun j oj hj hjk=>?_⟩
    have hj':=(Array.getElem?_eq_some_iff.1 hj).1
    have h3:=List.all_eq_true.1 h1.2 j (List.mem_range.2 hj')
    have h4:ops.getD j default=oj:=by simp[Array.getD_eq_getD_getElem?,hj]
    rw[h4,hjk] at h3
    simpa using h3
  refine wpIn_region_any hm ?_
  refine wpAnyIn_inv (fun listed a w=>listed.size=ops.size∧S (fun j=>listed.getD j false) w∧(∀j k,listed.getD j false=true→awaits .any ops j k=true→listed.getD k false=true)∧Like ops a0 a∧(∀j,listed.getD j false=true→∃v,p j v w)∧∀j k,listed.getD j false=true→slotB ops j k=true→p j (a.tmps.getD k undef) w) ?_ ?_ _ _ _ _ ?_ ⟨by simp,by rw[show (fun j=>(Array.replicate ops.size false).getD j false)=fun _=>false from funext fun j=>by simp only[Array.getD_eq_getD_getElem?,Array.getElem?_replicate];split <;> rfl];exact hS,?_,⟨rfl,rfl,fun _ _=>rfl⟩,?_,?_⟩
  · rintro listed a w i ⟨hz,hSw,hC,hL,hE,hP⟩ hi
    obtain⟨hjun,o,ho,hall⟩:=mem_ready.1 hi
    have hilt:=(Array.getElem?_eq_some_iff.1 ho).1
    have hin:listed.getD i false=false:=by
      have hi2:i<listed.size:=by omega
      simpa [Array.getD_eq_getD_getElem?,hi2] using hjun
    have hw8:∀j,waitsB .any o j=true→listed.getD j false=true:=fun j hj=>by
      unfold waitsB at hj
      obtain⟨e,he,h2⟩:=Array.any_eq_true'.1 hj
      simp only[Bool.and_eq_true,beq_iff_eq] at h2
      have:=hall e he h2.2
      rw[h2.1] at this
      exact this
    have hst:=DInSteps.get ops.toList 0 hs i o (by simpa using ho)
    rw[Nat.zero_add] at hst
    obtain⟨hw,hx⟩:=hst (fun j=>listed.getD j false) a w hin (fun j hj=>by
      cases hl:listed.getD j false with
      | false=>rfl
      | true=>have:=hC j i hl hj;rw[hin] at this;cases this) hw8 hSw hL (fun j k hj hk=>hP j k (hw8 j hj) hk)
    unfold wpOpIn
    simp only[ho,hw,if_true]
    refine Oper.wpIn_mono ?_ hx
    rintro a' w' ⟨v,rfl,hS',hR',hpv⟩
    refine⟨by simpa using hz,by rw[set_done listed i (by omega)];exact hS',?_,⟨?_,?_,fun k hk=>?_⟩,fun j hj=>?_,fun j k hj hk=>?_⟩
    · intro j k hj hk
      have hd1:=congrFun (set_done listed i (by omega))
      rw[hd1] at hj ⊢
      rw[Bool.or_eq_true] at hj ⊢
      left
      rcases hj with hj|hj
      · exact hC j k hj hk
      · have:j=i:=by simpa using hj
        subst this
        unfold awaits at hk
        rw[ho] at hk
        exact hw8 k hk
    · cases h:o.dst <;> exact hL.defers
    · cases h:o.dst
      · exact hL.size
      · simp only[Act.put,Array.size_setIfInBounds];exact hL.size
    · cases h:o.dst with
      | none=>exact hL.far k hk
      | some d =>
        have hne:d≠k:=fun e=>by
          subst e
          unfold outside at hk
          have:=Array.all_eq_true.1 hk i hilt
          rw[(Array.getElem?_eq_some_iff.1 ho).2,h] at this
          simp at this
        simp only[Act.put,Array.getD_eq_getD_getElem?,Array.getElem?_setIfInBounds,if_neg hne]
        have:=hL.far k hk
        simpa only[Array.getD_eq_getD_getElem?] using this
    · by_cases hji:j=i
      · subst hji;exact⟨v,hpv⟩
      · have hjl:listed.getD j false=true:=by
          simp only[Array.getD_eq_getD_getElem?,Array.getElem?_setIfInBounds,if_neg (Ne.symm hji)] at hj ⊢
          exact hj
        obtain⟨u,hu⟩:=hE j hjl
        exact⟨u,hR' j _ hjl hu⟩
    · obtain⟨oj,hoj,hjk⟩:∃oj,ops[j]? = some oj∧oj.dst=some k:=by
        unfold slotB at hk
        cases h:ops[j]? with
        | none=>rw[h] at hk;cases hk
        | some oj=>rw[h] at hk;exact⟨oj,rfl,by simpa using hk⟩
      by_cases hji:j=i
      · subst hji
        rw[hoj] at ho
        cases ho
        have hkz:=(hdst j _ k hoj hjk).1
        rw[hjk]
        have:(a.put (some k) v).tmps.getD k undef=v:=by
          have:k<a.tmps.size:=by rw[hL.size];exact hkz
          simp[Act.put,Array.getD_eq_getD_getElem?,this]
        rw[this]
        exact hpv
      · have hjl:listed.getD j false=true:=by
          simp only[Array.getD_eq_getD_getElem?,Array.getElem?_setIfInBounds,if_neg (Ne.symm hji)] at hj ⊢
          exact hj
        have h1:=hR' j _ hjl (hP j k hjl hk)
        cases h:o.dst with
        | none=>exact h1
        | some d =>
          have hne:d≠k:=fun e=>by
            subst e
            exact hji ((hdst i o d ho h).2 j oj hoj hjk).symm
          simp only[Act.put,Array.getD_eq_getD_getElem?,Array.getElem?_setIfInBounds,if_neg hne] at h1 ⊢
          exact h1
  · rintro listed a w ⟨hz,hSw,hC,hL,hE,hP⟩ hr
    have hall:∀n j,j<n→j<ops.size→listed.getD j false=true:=by
      intro n
      induction n with
      | zero=>intro j h;omega
      | succ n ih =>
        intro j hjn hj
        cases hl:listed.getD j true with
        | true =>
          have:j<listed.size:=by omega
          simpa [Array.getD_eq_getD_getElem?,this] using hl
        | false =>
          exfalso
          have hmem:j∈Region.ready .any ops listed:=mem_ready.2 ⟨hl,ops[j],by simp[hj],fun e he hb=>by
            have h1:=List.all_eq_true.1 hfw j (List.mem_range.2 hj)
            have h2:ops.getD j default=ops[j]:=by simp[Array.getD_eq_getD_getElem?,hj]
            rw[h2] at h1
            have h3:=Array.all_eq_true_iff_forall_mem.1 h1 e he
            rw[hb] at h3
            simp at h3
            exact ih e.on (by omega) (by omega)⟩
          rw[hr] at hmem
          cases hmem
    refine hd _ a w (fun j hj=>hall (j+1) j (by omega) hj) hSw hL (fun j k hk=>hP j k (hall (j+1) j (by omega) ?_) hk) (fun j hj=>hE j (hall (j+1) j (by omega) hj))
    unfold slotB at hk
    cases h:ops[j]? with
    | none=>rw[h] at hk;cases hk
    | some oj=>exact (Array.getElem?_eq_some_iff.1 h).1
  · unfold unlisted
    exact Nat.le_trans (List.length_filter_le _ _) (by simp)
  · intro j k hj
    simp only[Array.getD_eq_getD_getElem?,Array.getElem?_replicate] at hj
    split at hj <;> simp at hj
  · intro j hj
    simp only[Array.getD_eq_getD_getElem?,Array.getElem?_replicate] at hj
    split at hj <;> simp at hj
  · intro j k hj
    simp only[Array.getD_eq_getD_getElem?,Array.getElem?_replicate] at hj
    split at hj <;> simp at hj
end
def RoS (w:World) (_:Nat→Bool) (X:World):Prop:=X=w
def RoP (val:Nat→Option Value) (i:Nat) (v:Value) (_:World):Prop:=∀u,val i=some u→v=u
theorem RoP.mk {val:Nat→Option Value} {i:Nat} {v:Value} {X:World} (e:val i=some v):RoP val i v X:=fun u h=>by rw[e] at h;exact Option.some.inj h
end Go.Kt
namespace Go.Kt.Bits
def dsum (B:Nat):Nat→Nat→Nat
 | 0,_=>0
 | n+1,x=>x % B+dsum B n (x/B)
def m0:Nat→Nat|0=>0|n+1=>1+4*m0 n
def m1:Nat→Nat|0=>0|n+1=>3+16*m1 n
def m2:Nat→Nat|0=>0|n+1=>15+256*m2 n
def Dig (B d:Nat):Nat→Nat→Prop
 | 0,x=>x=0
 | n+1,x=>x % B≤d∧Dig B d n (x/B)
def pop (x:Nat):Nat:=(List.range 64).countP (fun b=>x.testBit b)
def cnt (p:Nat→Bool) (n:Nat):Nat:=(List.range n).countP p
theorem cnt_zero (p:Nat→Bool):cnt p 0=0:=rfl
theorem cnt_succ (p:Nat→Bool) (n:Nat):cnt p (n+1)=cnt p n+if p n then 1 else 0:=by
 simp[cnt,List.range_succ,List.countP_append,List.countP_cons]
theorem cnt_add (p:Nat→Bool) (a m:Nat):cnt p (a+m)=cnt p a+(List.range m).countP (fun b=>p (a+b)):=by
 rw[cnt,List.range_add,List.countP_append,List.countP_map];rfl
theorem cnt_mono (p:Nat→Bool) {a b:Nat} (h:a≤b):cnt p a≤cnt p b:=by
 obtain⟨m,rfl⟩:=Nat.exists_eq_add_of_le h
 rw[cnt_add];omega
theorem cnt_le (p:Nat→Bool) (n:Nat):cnt p n≤n:=by
 have:=List.countP_le_length (p:=p) (l:=List.range n);simpa [cnt] using this
def IsNth (p:Nat→Bool) (n x:Nat):Prop:=p x=true∧cnt p x=n
theorem IsNth.uniq {p:Nat→Bool} {n x y:Nat} (h:IsNth p n x) (k:IsNth p n y):x=y:=by
 have aux:∀ {x y},IsNth p n x→IsNth p n y→¬x<y:=by
  intro x y h k hlt
  have:=cnt_mono p (show x+1≤y by omega)
  rw[cnt_succ,h.1,h.2,k.2] at this
  simp at this
  omega
 have:=aux h k;have:=aux k h;omega
def MaskOf (p:Nat→Bool) (i m:Nat):Prop:=m<2 ^ 64∧∀b,b<64→m.testBit b=p (64*i+b)
def Strip (x r m:Nat):Prop:=m≤x∧∀b,m.testBit b=(x.testBit b&&decide (r≤cnt x.testBit b))
theorem count_front (q:Nat→Bool) (hm:∀a b,a≤b→q a=true→q b=true):∀n,(∀t,t<cnt (fun i=>!q i) n→q t=false)∧(∀t,cnt (fun i=>!q i) n≤t→t<n→q t=true)
 | 0=>⟨fun t h=>by simp[cnt_zero] at h,fun t _ h=>by omega⟩
 | n+1=>by
   obtain⟨h1,h2⟩:=count_front q hm n
   have hle:=cnt_le (fun i=>!q i) n
   rw[cnt_succ]
   by_cases hq:q n=true
   ·simp only[hq,Bool.not_true,Bool.false_eq_true,if_false,Nat.add_zero]
    refine⟨h1,fun t a b=>?_⟩
    rcases Nat.lt_or_eq_of_le (Nat.le_of_lt_succ b) with hb|hb
    ·exact h2 t a hb
    ·rw[hb];exact hq
   ·simp only[hq]
    have hall:cnt (fun i=>!q i) n=n:=by
     rcases Nat.lt_or_eq_of_le hle with hl|hl
     ·exact absurd (hm _ _ (Nat.le_of_lt hl) (h2 _ (Nat.le_refl _) hl)) hq
     ·exact hl
    rw[hall] at h1 ⊢
    simp only[Bool.not_false,if_true]
    refine⟨fun t ht=>?_,fun t a b=>by omega⟩
    rcases Nat.lt_or_eq_of_le (Nat.le_of_lt_succ ht) with hb|hb
    ·exact h1 t hb
    ·rw[hb];simpa using hq
def bruijn (k:Nat):Nat:=(2 ^ k*0x03f79d71b4ca8b09) % 2 ^ 64/2 ^ 58
def bruijnTab:List Nat:=[0,1,56,2,57,49,28,3,61,58,42,50,38,29,17,4,62,47,59,36,45,43,51,22,53,39,33,30,24,18,12,5,63,55,48,27,60,41,37,16,46,35,44,21,52,32,23,11,54,26,40,15,34,20,31,10,25,14,19,9,13,8,7,6]
open Go Go.RowKit
end Go.Kt.Bits
