/- Parts of the proof of what the last text says. -/
import Derived.Test.YtcfhblbmpbfoaaaGreatDoorKx
import Derived.WalkKit
import Derived.Lib.FrozenHead
import Derived.OwnWalkIn
import Derived.Laws.OwnMore
import Derived.Test.YtcfhblbmpbfoaaaGreatDoorGv1
import Derived.WalkLawsBesides
import Derived.WalkSpells
import Derived.Lib.Hide
import Derived.Lib.AtoiErrMem
import Derived.Laws.Strings3
import Derived.Laws.Closers25
import Derived.Laws.Closers25b
import Derived.BigCall
import Derived.BigGuard
namespace Go.Kt
open Go Go.RowKit
variable {P : Program}

def OwnS (Y : Nat → Prop) (e : TypeId) (size : Nat) (v : Value) (n : Nat) (xs : List Value) (W : World) : Prop :=
  W.ownsRow 0 e size v n xs ∧ ∀ g, v.ownBlock = some g → Y g

theorem heap_alloc_if (A : World) (o : Obj) (k : Nat) : (A.alloc o).heap[k]? = if k = A.heap.size then some o else A.heap[k]? := by
  show (A.heap.push o)[k]? = _
  exact Array.getElem?_push ..
theorem own_nil (e : TypeId) (size : Nat) (W : World) (Y : Nat → Prop) : OwnS Y e size (.slice none 0 0) 0 [] W := ⟨World.ownsRow_nil W 0 e size, fun _ h => by cases h⟩
theorem keep_grown {A B : World} {row : Option Nat} (hg : A.grownBy B row) : Keep (fun b => row = some b) A B :=
  ⟨hg.os, hg.tape, hg.output, hg.size, fun b hb hr => hg.block b hb (fun e => hr e.symm)⟩
theorem OwnS.keep {Y X : Nat → Prop} {e : TypeId} {size n : Nat} {v : Value} {xs : List Value} {A B : World} (h : OwnS Y e size v n xs A) (hk : Keep X A B) (hX : ∀ b, X b → ¬ Y b) : OwnS Y e size v n xs B := by
  obtain ⟨⟨hl, h2⟩, hY⟩ := h
  refine ⟨⟨hl, ?_⟩, hY⟩
  rcases h2 with h2 | ⟨g, cap, cur, rfl, hb, hg, rest⟩
  · exact .inl h2
  · exact .inr ⟨g, cap, cur, rfl, hb, hk.heap hg (fun hx => hX g hx (hY g rfl)), rest⟩
theorem OwnS.weaken {Y Z : Nat → Prop} {e : TypeId} {size n : Nat} {v : Value} {xs : List Value} {A : World} (h : OwnS Y e size v n xs A) (hY : ∀ b, Y b → Z b) : OwnS Z e size v n xs A := ⟨h.1, fun g hg => hY g (h.2 g hg)⟩

theorem append_x (W : World) (t e : TypeId) {z : Value} {size bytes : Nat} (ht : P.underlying t = some (.slice e)) (hinfo : (P.info? e).map (fun i => (i.zero, i.size, i.bytes)) = some (some z, size, bytes))
    (hzs : z.cells.size = size) (hsz : 0 < size) {Y : Nat → Prop} {v : Value} {n : Nat} {xs : List Value} (hown : OwnS Y e size v n xs W)
    (news : List Value) (hl : news.length = size) (h1 : ∀ u ∈ news, u.oneCell' = true) (h63 : n + 1 ≤ maxLen) (hbytes : (n + 1) * bytes ≤ 140737488355328) :
    ∃ g cap w', (∀ ty, (Builtin.append_ #[t, t] ty #[v, .slice (some ⟨W.heap.size, 0, none⟩) 1 1]).run P (W.alloc (.cells news.toArray e)) = .ok (.slice (some ⟨g, 0, none⟩) (n + 1) cap) w') ∧
      OwnS (fun b => b = g) e size (.slice (some ⟨g, 0, none⟩) (n + 1) cap) (n + 1) (xs ++ news) w' ∧ Keep (fun b => v.ownBlock = some b) W w' ∧ (v.ownBlock = some g ∨ W.heap.size < g) ∧ W.heap.size < w'.heap.size := by
  obtain ⟨i, hi, hz, hs1, hb1⟩ := info_parts hinfo
  have hc : ∀ j u, news[j]? = some u → (W.alloc (.cells news.toArray e)).cell? ((⟨W.heap.size, 0, none⟩ : Addr).add j) = some u := fun j u hj => by
    have hh := World.alloc_heap_new W (.cells news.toArray e)
    rw [Addr.add_lit, Lib.cell_of_heap hh]
    simpa using hj
  have hown' : (W.alloc (.cells news.toArray e)).ownsRow 0 e size v n xs := hown.1.alloc _
  obtain ⟨v', w', hrun, r1, r2, r3⟩ := run_append_own (P := P) (W.alloc (.cells news.toArray e)) 0 t 0 e i z size bytes ht hi hz hs1 hb1 hzs hsz v n xs hown' ⟨W.heap.size, 0, none⟩ 1 1 news (by omega) hc h1 h63 hbytes (Nat.zero_le _)
  have hrun' : ∀ ty, (Builtin.append_ #[t, t] ty #[v, .slice (some ⟨W.heap.size, 0, none⟩) 1 1]).run P (W.alloc (.cells news.toArray e)) = .ok v' w' := fun ty => hrun
  have hK : Keep (fun b => v.ownBlock = some b) W w' := ((Keep.refl _ W).alloc _).trans (keep_grown r2)
  have hsz' : W.heap.size < w'.heap.size := by have := r2.size; simp at this; omega
  rcases r1.2 with ⟨_, h⟩ | ⟨g, cap, cur, rfl, hb, hg, rest⟩
  · omega
  refine ⟨g, cap, w', hrun', ⟨r1, fun g' h => by cases h; rfl⟩, hK, ?_, hsz'⟩
  -- where it lies
  rcases hown'.2 with ⟨hv, hn⟩ | ⟨g0, cap0, cur0, hv, hb0, hg0, hnc, hcm, hcs, _⟩
  · -- no row yet: a new one
    right
    obtain ⟨v2, w2, hrun2, q1, q2, q3⟩ := run_append_own (P := P) (W.alloc (.cells news.toArray e)) (W.heap.size + 1) t 0 e i z size bytes ht hi hz hs1 hb1 hzs hsz v n xs ⟨hown'.1, .inl ⟨hv, hn⟩⟩ ⟨W.heap.size, 0, none⟩ 1 1 news (by omega) hc h1 h63 hbytes (by simp)
    rw [hrun] at hrun2
    injection hrun2 with e1 e2
    subst e1; subst e2
    exact (q1.lt g rfl).1
  · subst hv
    by_cases hroom : n + 1 ≤ cap0
    · left
      have hr := run_append_room (P := P) (W.alloc (.cells news.toArray e)) t 0 e i ht hi g0 n cap0 cur0 hg0 ⟨W.heap.size, 0, none⟩ 1 1 news (by omega) hc h1 hroom (by rw [hs1, hcs, hl, ← Nat.succ_mul]; exact Nat.mul_le_mul_right _ hroom)
      rw [hrun] at hr
      injection hr with e1 e2
      injection e1 with e1 _ _
      injection e1 with e1
      injection e1 with e1
      subst e1
      rfl
    · right
      have holds : ∀ j u, xs[j]? = some u → (W.alloc (.cells news.toArray e)).cell? ((⟨g0, 0, none⟩ : Addr).add j) = some u := hown'.cells (g := g0) rfl
      have hsmall : n + 1 ≤ 9223372036854775807 := by simp only [maxLen] at h63; omega
      have hr := run_append_grow (P := P) (W.alloc (.cells news.toArray e)) t 0 e i z ht hi hz ⟨g0, 0, none⟩ n cap0 xs (by rw [hs1]; exact hown'.1) holds ⟨W.heap.size, 0, none⟩ 1 1 news (by omega) hc (by omega) (by omega) (by rw [hb1]; exact growslice_fits (by omega) hbytes)
      rw [hrun] at hr
      injection hr with e1 e2
      injection e1 with e1 _ _
      injection e1 with e1
      injection e1 with e1
      subst e1
      simp

theorem append_str (W : World) (t u e : TypeId) (ht : P.underlying t = some (.slice e)) (hu : P.underlying u = some .string) (hinfo : (P.info? e).map (fun i => (i.zero, i.size, i.bytes)) = some (some (.int .u8 0), 1, 1))
    {v : Value} {n : Nat} {xs : List Value} (hown : W.ownsRowF 0 e 1 v n xs) (s : ByteArray) (h63 : n + s.size ≤ 140737488355328) :
    ∃ v' w', (∀ ty, (Builtin.append_ #[t, u] ty #[v, .string s]).run P W = .ok v' w') ∧ w'.ownsRowF 0 e 1 v' (n + s.size) (xs ++ Lib.strCells s) ∧
      Keep (fun b => v.ownBlock = some b) W w' ∧ (∀ g, v'.ownBlock = some g → v.ownBlock = some g ∨ W.heap.size ≤ g) := by
  obtain ⟨i, hi, hz, hs1, hb1⟩ := info_parts hinfo
  have hm : n + s.size ≤ maxLen := by unfold maxLen; omega
  obtain ⟨v', w', hrun, r1, r2, r3⟩ := Lib.run_append_own_stringF (P := P) W 0 t u 0 e i ht hu hi hz hs1 hb1 v n xs hown s hm h63 (Nat.zero_le _)
  refine ⟨v', w', fun ty => hrun, r1, keep_grown r2, ?_⟩
  intro g hg
  rcases hown.2 with ⟨hv, hn⟩ | ⟨g0, cap0, cur0, fz0, hv, hb0, hg0, hfz, hnc, hcm, hcs, htk⟩
  · right
    obtain ⟨v2, w2, hrun2, q1, _⟩ := Lib.run_append_own_stringF (P := P) W W.heap.size t u 0 e i ht hu hi hz hs1 hb1 v n xs ⟨hown.1, .inl ⟨hv, hn⟩⟩ s hm h63 (Nat.le_refl _)
    rw [hrun] at hrun2
    injection hrun2 with e1 e2
    subst e1; subst e2
    rcases q1.2 with ⟨h, _⟩ | ⟨g', _, _, _, h, hb', _⟩
    · rw [h] at hg; cases hg
    · rw [h] at hg; cases hg; exact hb'
  · subst hv
    have hcs' : cur0.size = cap0 := by simpa using hcs
    by_cases hroom : n + s.size ≤ cap0
    · left
      have hr := Lib.run_append_room_stringF (P := P) W t u 0 e i ht hu hi hs1 g0 n cap0 cur0 fz0 hg0 (by simpa using hfz) s hroom (by omega)
      rw [hrun] at hr
      injection hr with e1 e2
      subst e1
      exact hg
    · right
      have holds : ∀ j x, xs[j]? = some x → W.cell? ((⟨g0, 0, none⟩ : Addr).add j) = some x := hown.cells (g := g0) rfl
      have hr := Lib.run_append_grow_string (P := P) W t u 0 e i (.int .u8 0) ht hu hi hz ⟨g0, 0, none⟩ n cap0 xs (by rw [hs1]; exact hown.1) holds s (by omega) (by omega) (by rw [hb1]; exact growslice_fits (by omega) (by omega))
      rw [hrun] at hr
      injection hr with e1 e2
      subst e1
      cases hg
      exact Nat.le_refl _

theorem wpList_append_eq {ops : Array Oper} {rest : List Oper} {o : Oper} {a : Act} {Q : Exit → Act → World → Prop} {w w' : World} {v' x y : Value} (hgd : o.guard = none) {sl ar : Operand} {t u : TypeId}
    (ho : o.op = .call { callee := .builtin .append, args := #[sl, ar], argTypes := #[t, u] }) (hs : a.eval sl = x) (hx : a.eval ar = y)
    (hrun : ∀ ty, (Builtin.append_ #[t, u] ty #[x, y]).run P w = .ok v' w') (h : wpList P ops Q rest (a.put o.dst v') w') : wpList P ops Q (o :: rest) a w := by
  refine wpList_plain hgd fun K hK => ?_
  unfold Oper.wp execOp
  simp only [ho, resolve, invoke, builtin, Sem.run_bind, Sem.run_pure, Result.andThen_ok, List.map_toArray, List.map_cons, List.map_nil, hs, hx, hrun]
  exact hK _ _ h
theorem wpListIn_append_eq {F : Fence} {n : Nat} {ops : Array Oper} {rest : List Oper} {o : Oper} {a : Act} {Q : Exit → Act → World → Prop} {w w' : World} {v' x y : Value} (hgd : o.guard = none) {sl ar : Operand} {t u : TypeId}
    (ho : o.op = .call { callee := .builtin .append, args := #[sl, ar], argTypes := #[t, u] }) (hs : a.eval sl = x) (hx : a.eval ar = y)
    (hrun : ∀ ty, (Builtin.append_ #[t, u] ty #[x, y]).run P w = .ok v' w') (h : wpListIn F n P ops Q rest (a.put o.dst v') w') : wpListIn F n P ops Q (o :: rest) a w := by
  refine wpListIn_plain hgd fun K hK => ?_
  unfold Oper.wpIn
  refine ⟨?_, ?_⟩
  · simp [Oper.about, ho, resolve, Target.leads, Sem.run_pure]
  · rw [Oper.semAt_plain F _ _ (by rw [ho]; intro c hc'; cases hc')]
    simp [execOp, ho, resolve, invoke, builtin, hs, hx, hrun, Result.andThen]
    exact hK _ _ h
end Go.Kt
namespace Go.Kt
open Go Go.RowKit

theorem Keep.plus {X Z : Nat → Prop} {A B C : World} (h : Keep X A B) (k : Keep Z B C) (hz : ∀ b, b < A.heap.size → Z b → X b) : Keep X A C :=
  ⟨k.os.trans h.os, k.tape.trans h.tape, k.output.trans h.output, Nat.le_trans h.size k.size, fun b hb hX => (k.same b (Nat.lt_of_lt_of_le hb h.size) (fun e => hX (hz b hb e))).trans (h.same b hb hX)⟩

theorem OwnS.shape {Y : Nat → Prop} {e : TypeId} {size n : Nat} {v : Value} {xs : List Value} {W : World} (h : OwnS Y e size v n xs W) :
    (v = .slice none 0 0 ∧ n = 0) ∨ ∃ g cap, v = .slice (some ⟨g, 0, none⟩) n cap ∧ Y g ∧ g < W.heap.size := by
  rcases h.1.2 with h1 | ⟨g, cap, cur, rfl, _, hg, _⟩
  · exact .inl h1
  · exact .inr ⟨g, cap, rfl, h.2 g rfl, (Array.getElem?_eq_some_iff.1 hg).1⟩
theorem OwnS.at0 {Y : Nat → Prop} {e : TypeId} {n g cap : Nat} {xs : List Value} {W : World} (h : OwnS Y e 1 (.slice (some ⟨g, 0, none⟩) n cap) n xs W) {i : Nat} {u : Value} (hi : xs[i]? = some u) : W.cell? ⟨g, i, none⟩ = some u := by
  have := h.1.cells (g := g) rfl i u hi
  rwa [Addr.add_lit, Nat.zero_add] at this
theorem OwnS.frozen {Y : Nat → Prop} {e : TypeId} {n g cap : Nat} {xs : List Value} {W : World} (h : OwnS Y e 1 (.slice (some ⟨g, 0, none⟩) n cap) n xs W) (i : Nat) : W.frozen? ⟨g, i, none⟩ = false := by
  rcases h.1.2 with ⟨h1, _⟩ | ⟨g', cap', cur, h1, _, hg, _⟩
  · cases h1
  · injection h1 with e1 _ _
    injection e1 with e1
    injection e1 with e1
    subst e1
    exact Lib.frozen_of_heap hg i

theorem OwnS.self {Y : Nat → Prop} {e : TypeId} {size n : Nat} {v : Value} {xs : List Value} {A : World} (h : OwnS Y e size v n xs A) : OwnS (fun b => v.ownBlock = some b) e size v n xs A := ⟨h.1, fun _ hg => hg⟩
theorem OwnS.keepX {X Y : Nat → Prop} {e : TypeId} {size n : Nat} {v : Value} {xs : List Value} {A B : World} (h : OwnS Y e size v n xs A) (hk : Keep X A B) (hX : ∀ b, X b → v.ownBlock ≠ some b) : OwnS Y e size v n xs B :=
  ⟨(h.self.keep hk (fun b hb hy => hX b hb hy)).1, h.2⟩

end Go.Kt
namespace Go.Proofs.YtcfhblbmpbfoaaaGreatDoor
open Go Go.RowKit Go.Kt Go.Kt.Rg

theorem or_32 : ∀ c, c < 256 → bits .or .u8 ((c : Nat) : Int) 32 = ((c ||| 32 : Nat) : Int) := by decide +kernel
theorem or_ge : ∀ c, c < 256 → c ≤ c ||| 32 := by decide +kernel
theorem or_bd : ∀ c, c < 256 → c ||| 32 < 256 := by decide +kernel
theorem or_dig : ∀ c, c < 256 → 97 ≤ c ||| 32 → c ||| 32 ≤ 122 → 57 < c ∧ c ≠ 95 := by decide +kernel
def PuOut (T : TypeId) (K : Value → Prop) (o : Option Nat) (e : Ending) : Prop :=
  match o with
  | some n => e = .returned (.tuple #[.int .u64 (n : Nat), .nilIface])
  | none => ∃ (z : Int) (k : Value), e = .returned (.tuple #[.int .u64 z, .iface T k]) ∧ K k
theorem PuOut.yes {T : TypeId} {K : Value → Prop} {o : Option Nat} {n : Nat} (h : o = some n) : PuOut T K o (.returned (.tuple #[.int .u64 (n : Nat), .nilIface])) := by subst h; rfl
theorem PuOut.no {T : TypeId} {K : Value → Prop} {o : Option Nat} (z : Int) {k : Value} (h : o = none) (hk : K k) : PuOut T K o (.returned (.tuple #[.int .u64 z, .iface T k])) := by subst h; exact ⟨z, k, rfl, hk⟩
def PuErr (k : Value) : Prop := k = .int .i64 1 ∨ k = .int .i64 2
theorem puF_some {mx n d : Nat} {c : UInt8} {t : List UInt8} (h : digV c.toNat = some d) (h1 : d < 16) (h2 : n * 16 + d ≤ mx) : puF mx n (c :: t) = puF mx (n * 16 + d) t := by
  rw [puF, h]; simp only; rw [if_neg (by omega), if_neg (by omega)]
theorem puF_over {mx n d : Nat} {c : UInt8} {t : List UInt8} (h : digV c.toNat = some d) (h1 : d < 16) (h2 : mx < n * 16 + d) : puF mx n (c :: t) = none := by
  rw [puF, h]; simp only; rw [if_neg (by omega), if_pos h2]
theorem puF_big {mx n d : Nat} {c : UInt8} {t : List UInt8} (h : digV c.toNat = some d) (h1 : 16 ≤ d) : puF mx n (c :: t) = none := by
  rw [puF, h]; simp only; rw [if_pos h1]
theorem puF_bad {mx n : Nat} {c : UInt8} {t : List UInt8} (h : digV c.toNat = none) : puF mx n (c :: t) = none := by
  rw [puF, h]
theorem digV_dig {c : Nat} (h1 : 48 ≤ c) (h2 : c ≤ 57) : digV c = some (c - 48) := by unfold digV; rw [if_pos ⟨h1, h2⟩]
theorem digV_let {c : Nat} (h : 57 < c) (h1 : 97 ≤ c ||| 32) (h2 : c ||| 32 ≤ 122) : digV c = some ((c ||| 32) - 87) := by unfold digV; rw [if_neg (by omega), if_pos ⟨h1, h2⟩]
theorem digV_no {c : Nat} (h : ¬ (48 ≤ c ∧ c ≤ 57)) (h1 : ¬ (97 ≤ c ||| 32 ∧ c ||| 32 ≤ 122)) : digV c = none := by unfold digV; rw [if_neg h, if_neg h1]

end Go.Proofs.YtcfhblbmpbfoaaaGreatDoor
