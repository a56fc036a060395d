/- Parts of the proof of what the last text says. -/
import Derived.Test.YtcfhblbmpbfoaaaGreatDoorUox
import Derived.Test.YtcfhblbmpbfoaaaGreatDoorGv11
import Derived.RangeFuncCalls
import Derived.Stop.RegionWithIn
import Derived.Test.YtcfhblbmpbfoaaaGreatDoorGv18
namespace Go.Proofs.YtcfhblbmpbfoaaaGreatDoor
open Go Go.RowKit Go.Kt Go.Kt.Rg Go.Maps

section
variable {B0 : Nat} {ρ : Nat → Nat} {R : RdB} {line n m : Nat} {S : RdS} {cv kv : Value} {w w' : World}
theorem RdW.keep9 {X : Nat → Prop} (h : RdW B0 ρ R line n m S cv kv w) (hk : Keep X w w') (hX : ∀ b, X b → ρ b = 9) : RdW B0 ρ R line n m S cv kv w' where
  hr := h.hr
  hB := Nat.le_trans h.hB hk.size
  g := h.g
  cell := hk.heap h.cell (fun e => by have := hX _ e; have := h.g; omega)
  c := h.c.keep hk (fun b hb hy => by have := hX b hb; have hy : ρ b = 2 := hy; omega)
  k := h.k.keep hk (fun b hb hy => by have := hX b hb; have hy : ρ b = 3 := hy; omega)
  d := h.d.keep hk (fun b hb => by have := hX b hb; omega)
  f := h.f.keep hk (fun b hb => by have := hX b hb; omega)
  l := ⟨h.l.1, h.l.2.keep hk (fun e => by have := hX _ e; have := h.l.1; omega)⟩
  e := ⟨h.e.1, h.e.2.keep hk (fun e => by have := hX _ e; have := h.e.1; omega)⟩
  s := ⟨h.s.1, h.s.2.keep hk (fun e => by have := hX _ e; have := h.s.1; omega)⟩
theorem RdW.setline (h : RdW B0 ρ R line n m S cv kv w) (l2 : Nat) : RdW B0 ρ R l2 n m S cv kv (w.setCell ⟨R.g, 1, none⟩ (.int .i64 (l2 : Nat))) ∧ Keep (fun b => b = R.g) w (w.setCell ⟨R.g, 1, none⟩ (.int .i64 (l2 : Nat))) := by
  have hk : Keep (fun b => b = R.g) w (w.setCell ⟨R.g, 1, none⟩ (.int .i64 (l2 : Nat))) := Keep.setCell (X := fun b => b = R.g) (p := ⟨R.g, 1, none⟩) (Keep.refl _ _) rfl _
  have hg := h.g
  refine ⟨{
    hr := h.hr, hB := Nat.le_trans h.hB hk.size, g := h.g
    cell := by
      have := heap_setCell_same w R.g 1 _ _ (.int .i64 (l2 : Nat)) h.cell
      simpa [cellsR] using this
    c := h.c.keep hk (fun b hb hy => by subst hb; have hy : ρ R.g = 2 := hy; omega)
    k := h.k.keep hk (fun b hb hy => by subst hb; have hy : ρ R.g = 3 := hy; omega)
    d := h.d.keep hk (fun b hb => by subst hb; omega)
    f := h.f.keep hk (fun b hb => by subst hb; omega)
    l := ⟨h.l.1, h.l.2.keep hk (fun e => by have := h.l.1; rw [e] at this; omega)⟩
    e := ⟨h.e.1, h.e.2.keep hk (fun e => by have := h.e.1; rw [e] at this; omega)⟩
    s := ⟨h.s.1, h.s.2.keep hk (fun e => by have := h.s.1; rw [e] at this; omega)⟩ }, hk⟩
theorem RdW.recast (h : RdW B0 ρ R line n m S cv kv w) (ρ' : Nat → Nat) (e : ∀ b, b < w.heap.size → ρ' b = ρ b) : RdW B0 ρ' R line n m S cv kv w :=
  h.role e (fun _ hb _ => Nat.le_trans h.hB hb)
end
set_option maxRecDepth 100000 in
theorem RdW.lnl {B0 : Nat} {ρ : Nat → Nat} {R : RdB} {line n m : Nat} {S : RdS} {cv kv : Value} {w : World} (h : RdW B0 ρ R line n m S cv kv w) {x ln : Nat} (hx : x ≤ 1114111) (hl : S.ls x = some ln) :
    (Instr.lookup 90 (.map (some R.bl)) (.int .i32 (x : Nat)) false).run Tryz.prog w = .ok (.int .i64 (ln : Nat)) w := by
  have hkey : keyOf Tryz.prog 21 (.int .i32 (x : Nat)) = some (.int .i32 (x : Nat)) := keyOf_int_mk Tryz.underlying21 (WalkArith.wf_i32 (n := (x : Int)) ⟨by omega, by omega⟩)
  have h1 := h.l.2.look1 (int_keyed Tryz.underlying21) Tryz.underlying90 (z := .int .i64 0) rfl hkey
  rw [ptF_at, lsV, hl] at h1
  exact h1
theorem results_cc {P : Program} {fn : Func} {p q : Tmp} {t1 t2 : TypeId} (h : fn.results = #[.cell p t1, .cell q t2]) (tmps : Array Value) (w : World) (g1 g2 : Nat) (v1 v2 : Value)
    (hp : tmps.getD p undef = .pointer (some ⟨g1, 0, none⟩)) (hg : w.cell? ⟨g1, 0, none⟩ = some v1) (ha : ∀ w, (isAgg t1).run P w = .ok false w)
    (hp2 : tmps.getD q undef = .pointer (some ⟨g2, 0, none⟩)) (hg2 : w.cell? ⟨g2, 0, none⟩ = some v2) (ha2 : ∀ w, (isAgg t2).run P w = .ok false w) :
    (results fn tmps).run P w = .ok (.tuple #[v1, v2]) w := by
  have hp' : tmps[p]?.getD undef = .pointer (some ⟨g1, 0, none⟩) := by simpa using hp
  have hp2' : tmps[q]?.getD undef = .pointer (some ⟨g2, 0, none⟩) := by simpa using hp2
  simp [results, h, hp', hp2', asAddr, loadVar, ha, hg, ha2, hg2]

theorem exec_lookup {P : Program} {o : Oper} {a : Act} {w w' : World} {t : TypeId} {m k : Operand} {b : Bool} {u0 u1 v : Value} (ho : o.op = .lookup t m k b) (hm : a.eval m = u0) (hk : a.eval k = u1) (h : (Instr.lookup t u0 u1 b).run P w = .ok v w') : (execOp a.eval o).run P w = .ok (.value v) w' := by
  unfold execOp; rw [ho]; simp only [hm, hk]; exact run_val h
def errP (no line : Nat) : Value := if line = 0 then .iface 81 (.int .i64 (no : Nat)) else .iface 136 (.agg #[.int .i64 (no : Nat), .int .i64 (line : Nat), .int .i64 0])
def ParseR (l : List UInt8) (no line : Nat) (S : RdS) (L : List Nat) : Prop :=
  ((1048576 < l.length ∨ 65536 < lnC l) ∧ no = 5 ∧ line = 0) ∨
  (¬ (1048576 < l.length ∨ 65536 < lnC l) ∧ (readP 0 rd0 (linesP l)).1 ≠ 0 ∧ no = (readP 0 rd0 (linesP l)).1 ∧ line = (readP 0 rd0 (linesP l)).2.1) ∨
  (¬ (1048576 < l.length ∨ 65536 < lnC l) ∧ (readP 0 rd0 (linesP l)).1 = 0 ∧ S = (readP 0 rd0 (linesP l)).2.2 ∧ L.Pairwise (· < ·) ∧ (∀ x, x ∈ L ↔ (S.ds x).isSome = true) ∧ no = (ringP S (L.length + 1) L (fun _ => none)).1 ∧ line = (ringP S (L.length + 1) L (fun _ => none)).2)
theorem rd_le_none {S : RdS} (h : S.le = fun _ => none) : ({ S with le := fun _ => none } : RdS) = S := by
  rw [← h]
def Alien (w : World) (b : Nat) : Prop := (∀ o k x, w.cell? ⟨b, o, none⟩ ≠ some (.int k x)) ∧ (∀ es c, w.heap[b]? ≠ some (.map es c)) ∧ ∀ cs, w.heap[b]? ≠ some (.cells cs 123 (0, 0))
theorem RunV.alien {X : Nat → Prop} {w w' : World} {v : Value} {L : List (Nat × Int)} (h : RunV w v L) (hk : Keep X w w') (hX : ∀ b, X b → Alien w b) : RunV w' v L := by
  obtain ⟨ao, cp, rfl, h⟩ := h
  refine ⟨ao, cp, rfl, ?_⟩
  rcases h with h | ⟨g, e, h⟩
  · exact .inl h
  · refine .inr ⟨g, e, fun i r hr => ⟨hk.cell (h i r hr).1 (fun hx => (hX _ hx).1 _ _ _ (h i r hr).1), hk.cell (h i r hr).2 (fun hx => (hX _ hx).1 _ _ _ (h i r hr).2)⟩⟩
theorem MapG.alien {P : Program} {k : TypeId} {b n : Nat} {f : Lit → Option Value} {X : Nat → Prop} {w w' : World} (h : MapG P k b n f w) (hk : Keep X w w') (hX : ∀ b, X b → Alien w b) : MapG P k b n f w' :=
  h.keep hk (fun hx => by
    obtain ⟨D, ⟨es, clock, h1, _⟩, _⟩ := h
    exact (hX _ hx).2.1 _ _ h1)
theorem DecM.alien {ρ : Nat → Nat} {k B n : Nat} {d : Nat → Option (List Nat)} {X : Nat → Prop} {w w' : World} (h : DecM ρ k B n d w) (hk : Keep X w w') (hX : ∀ b, X b → Alien w b) : DecM ρ k B n d w' := by
  obtain ⟨h0, vs, h1, h2, h3⟩ := h
  refine ⟨h0, vs, MapG.alien h1 hk hX, h2, fun x v l hv hl => ?_⟩
  obtain ⟨b, off, cap, rfl, a1, a2, a3, a4, a5⟩ := h3 x v l hv hl
  exact ⟨b, off, cap, rfl, a1, a2, a3, Nat.lt_of_lt_of_le a4 hk.size, fun i y hy => hk.cell (a5 i y hy) (fun hx => (hX _ hx).1 _ _ _ (a5 i y hy))⟩
theorem PrW.alien {g : Nat} {S : RdS} {md : MdT} {X : Nat → Prop} {w w' : World} (h : PrW g S md w) (hk : Keep X w w') (hX : ∀ b, X b → Alien w b) : PrW g S md w' := by
  obtain ⟨B, h⟩ := h
  refine ⟨B, { cell := hk.heap h.cell (fun hx => (hX _ hx).2.2 _ h.cell), c := h.c.alien hk hX, k := h.k.alien hk hX, cp := h.cp, kp := h.kp, d := h.d.alien hk hX, f := h.f.alien hk hX, m := ?_ }⟩
  obtain ⟨f, m1, m2⟩ := h.m
  exact ⟨f, MapG.alien m1 hk hX, m2⟩
theorem PrW.le {g : Nat} {S : RdS} {le : LeT} {L : List Nat} {w : World} (h : PrW g { S with le := le } (mdOf { S with le := le } L) w) : PrW g S (mdOf S L) w := by
  obtain ⟨B, h⟩ := h
  exact ⟨B, { cell := h.cell, c := h.c, k := h.k, cp := h.cp, kp := h.kp, d := h.d, f := h.f, m := h.m }⟩
theorem alien_one {w : World} {b : Nat} {v : Value} {T : TypeId} (h : w.heap[b]? = some (.cells #[v] T (0, 0))) (hT : T ≠ 123) (hv : ∀ k x, v ≠ .int k x) : Alien w b := by
  refine ⟨fun o k x e => ?_, fun es c e => (by rw [h] at e; cases e), fun cs e => (by rw [h] at e; cases e; exact hT rfl)⟩
  rw [Lib.cell_of_heap h] at e
  cases o with
  | zero => exact hv k x (by simpa using e)
  | succ o => simp at e
theorem alien_def {w : World} {b : Nat} {q : Option (List Deferred)} (h : w.heap[b]? = some (.deferred q)) : Alien w b := by
  refine ⟨fun o k x e => ?_, fun es c e => (by rw [h] at e; cases e), fun cs e => (by rw [h] at e; cases e)⟩
  simp [World.cell?, h] at e
theorem unk_len (L : List Nat) (le : LeT) : unk L le ≤ L.length := by
  unfold unk
  exact List.length_filter_le _ _
theorem ringP_snoc {S : RdS} {f : Nat} {L : List Nat} {le : LeT} {i x : Nat} (hx : L[i]? = some x) (h : (ringP S f (L.take i) le).1 = 0) :
    ringP S f (L.take (i + 1)) le = if endN (lenF S.ds f (ringL S f (L.take i) le) x).1 ≠ 0 then (endN (lenF S.ds f (ringL S f (L.take i) le) x).1, (S.ls x).getD 0) else (0, 0) := by
  rw [List.take_add_one, hx]
  simp only [Option.toList_some]
  rw [ringP_append, if_neg (by rw [h]; simp), ringP]
  split <;> rfl
theorem ringL_snoc {S : RdS} {f : Nat} {L : List Nat} {le : LeT} {i x : Nat} (hx : L[i]? = some x) : ringL S f (L.take (i + 1)) le = (lenF S.ds f (ringL S f (L.take i) le) x).2 := by
  rw [List.take_add_one, hx]
  simp only [Option.toList_some]
  have : ∀ (a : List Nat) (le : LeT), ringL S f (a ++ [x]) le = (lenF S.ds f (ringL S f a le) x).2 := by
    intro a
    induction a with
    | nil => intro le; rfl
    | cons y t ih => intro le; rw [List.cons_append, ringL, ringL]; exact ih _
  exact this _ _
theorem ringP_bad {S : RdS} {f : Nat} {L : List Nat} {le : LeT} {i x no : Nat} (hx : L[i]? = some x) (h : (ringP S f (L.take i) le).1 = 0) (hn : endN (lenF S.ds f (ringL S f (L.take i) le) x).1 = no) (h0 : no ≠ 0) :
    ringP S f L le = (no, (S.ls x).getD 0) := by
  have h1 : ringP S f (L.take (i + 1)) le = (no, (S.ls x).getD 0) := by rw [ringP_snoc hx h, hn, if_pos h0]
  have h2 : L = L.take (i + 1) ++ L.drop (i + 1) := (List.take_append_drop _ _).symm
  conv => lhs; rw [h2]
  rw [ringP_append, h1]
  simp only [ne_eq, h0, not_false_eq_true, if_true]
def RingI (B0 : Nat) (ρ : Nat → Nat) (R : RdB) (n N : Nat) (L : List Nat) (S : RdS) (cv kv : Value) (W4 : World) (i : Nat) (wr : World) : Prop :=
  ∃ line m, RdW B0 ρ R line n m { S with le := ringL S (N + 1) (L.take i) fun _ => none } cv kv wr ∧ (ringP S (N + 1) (L.take i) fun _ => none).1 = 0 ∧ LeOk (ringL S (N + 1) (L.take i) fun _ => none) ∧ m + 2 * unk L (ringL S (N + 1) (L.take i) fun _ => none) ≤ 2 * N ∧ Keep (fun b => b = R.g ∨ b = R.bn) W4 wr
def ParseO (l : List UInt8) (w : World) (e : Ending) (w' : World) : Prop :=
  ∃ no line S L, ParseR l no line S L ∧ Below w.heap.size w w' ∧ ((no = 0 ∧ ∃ g, e = .returned (.tuple #[.pointer (some ⟨g, 0, none⟩), .nilIface]) ∧ PrW g S (mdOf S L) w') ∨ (no ≠ 0 ∧ e = .returned (.tuple #[.pointer none, errP no line])))
def RoleP (B0 H2 bs HL : Nat) (ρ : Nat → Nat) (Y : Nat → Prop) : Prop := (∀ b, ¬ Y b → (b = bs ∨ HL ≤ b) → ρ b = 9) ∧ ∀ b, b < HL → ρ b ≠ 0 → ρ b ≠ 9 → B0 ≤ b ∧ b < H2
def ResC (r2 : Nat) (W : World) : Prop := W.heap[r2]? = some (.cells #[.pointer none] 23 (0, 0)) ∧ W.heap[r2 + 1]? = some (.cells #[.nilIface] 47 (0, 0))
theorem ResC.keep {r2 : Nat} {X : Nat → Prop} {W W' : World} (h : ResC r2 W) (hk : Keep X W W') (h1 : ¬ X r2) (h2 : ¬ X (r2 + 1)) : ResC r2 W' := ⟨hk.heap h.1 h1, hk.heap h.2 h2⟩
def LineI (r2 B0 H2 bs HL : Nat) (R : RdB) (pre : List (List UInt8)) (Y : Nat → Prop) (W : World) : Prop :=
  ∃ ρ cv kv S, RdW B0 ρ R pre.length (2 * pre.length) 0 S cv kv W ∧ readP 0 rd0 pre = (0, pre.length, S) ∧ RoleP B0 H2 bs HL ρ Y ∧ ResC r2 W
def LineX (r2 r3 : Nat) (all : List (List UInt8)) (c : Code) (_pre : List (List UInt8)) (_Y : Nat → Prop) (W : World) : Prop :=
  c = .ret ∧ (readP 0 rd0 all).1 ≠ 0 ∧ (readP 0 rd0 all).2.1 ≠ 0 ∧ W.heap[r2]? = some (.cells #[.pointer none] 23 (0, 0)) ∧ W.heap[r3]? = some (.cells #[errP (readP 0 rd0 all).1 (readP 0 rd0 all).2.1] 47 (0, 0))
theorem LineI.low {r2 B0 H2 bs HL : Nat} {R : RdB} (h1 : r2 + 1 < HL) (h2 : r2 + 1 < bs) : LowZ (fun b => b = bs) HL (LineI r2 B0 H2 bs HL R) := fun pre Y W W' hk ⟨ρ, cv, kv, S, a1, a2, a3, a4⟩ =>
  ⟨ρ, cv, kv, S, a1.keep9 hk (fun b hb => a3.1 b hb.2 hb.1), a2, a3, a4.keep hk (fun h => by have := hk.size; rcases h.1 with h | h <;> omega) (fun h => by rcases h.1 with h | h <;> omega)⟩
theorem LineI.slim {r2 B0 H2 bs HL : Nat} {R : RdB} : Slim (LineI r2 B0 H2 bs HL R) := fun pre Y W ⟨ρ, cv, kv, S, h1, h2, h3, h4⟩ => by
  refine ⟨moreR W ρ 9, cv, kv, S, h1.role_more 9, h2, ⟨fun b hb hbs => ?_, fun b hb h0 h9 => ?_⟩, h4⟩
  · by_cases e : b < W.heap.size
    · rw [moreR_old b e]
      exact h3.1 b (fun hy => hb ⟨hy, e⟩) hbs
    · exact moreR_new b (by omega)
  · by_cases e : b < W.heap.size
    · rw [moreR_old b e] at h0 h9
      exact h3.2 b hb h0 h9
    · exact absurd (moreR_new b (by omega)) h9
theorem readP_snoc {pre : List (List UInt8)} {S : RdS} (h : readP 0 rd0 pre = (0, pre.length, S)) (x : List UInt8) : readP 0 rd0 (pre ++ [x]) = if (takeP (pre.length + 1) S (wrdP x)).1 ≠ 0 then ((takeP (pre.length + 1) S (wrdP x)).1, pre.length + 1, S) else (0, pre.length + 1, (takeP (pre.length + 1) S (wrdP x)).2) := by
  rw [readP_append, h]
  simp only [ne_eq, not_true_eq_false, if_false]
  rw [readP]
  split <;> rfl
theorem readP_bad {pre t : List (List UInt8)} {S : RdS} {x : List UInt8} (h : readP 0 rd0 pre = (0, pre.length, S)) (hn : (takeP (pre.length + 1) S (wrdP x)).1 ≠ 0) : readP 0 rd0 (pre ++ [x] ++ t) = ((takeP (pre.length + 1) S (wrdP x)).1, pre.length + 1, S) := by
  rw [readP_append, readP_snoc h, if_pos hn]
  simp only [ne_eq, hn, not_false_eq_true, if_true]
end Go.Proofs.YtcfhblbmpbfoaaaGreatDoor
namespace Go.Proofs.YtcfhblbmpbfoaaaGreatDoor
open Go Go.RowKit Go.Kt Go.Kt.Rg Go.Maps
attribute [local go_sem] Oper.semAt_some

theorem rise_eq : ∀ {A B : List Nat}, A.Pairwise (· < ·) → B.Pairwise (· < ·) → (∀ x, x ∈ A ↔ x ∈ B) → A = B
  | [], [], _, _, _ => rfl
  | [], y :: t, _, _, h => by have := (h y).2 List.mem_cons_self; cases this
  | x :: s, [], _, _, h => by have := (h x).1 List.mem_cons_self; cases this
  | x :: s, y :: t, ha, hb, h => by
    have h1 := List.pairwise_cons.1 ha
    have h2 := List.pairwise_cons.1 hb
    have hxy : x = y := by
      rcases List.mem_cons.1 ((h x).1 List.mem_cons_self) with e | e
      · exact e
      · rcases List.mem_cons.1 ((h y).2 List.mem_cons_self) with e2 | e2
        · exact e2.symm
        · have := h2.1 x e
          have := h1.1 y e2
          omega
    subst hxy
    rw [rise_eq h1.2 h2.2 (fun z => ⟨fun hz => by
      rcases List.mem_cons.1 ((h z).1 (List.mem_cons_of_mem _ hz)) with e | e
      · have := h1.1 z hz; omega
      · exact e, fun hz => by
      rcases List.mem_cons.1 ((h z).2 (List.mem_cons_of_mem _ hz)) with e | e
      · have := h2.1 z hz; omega
      · exact e⟩)]
theorem isAggP (w : World) : (isAgg 23).run Tryz.prog w = .ok false w := by kernel_rfl
theorem isAggE (w : World) : (isAgg 47).run Tryz.prog w = .ok false w := by kernel_rfl
theorem ends_at {l : List UInt8} {w W : World} {r2 r3 : Nat} {v2 v3 : Value} {tmps : Array Value} {Ds : List Nat} (hDs : Ds.Nodup) (h2 : tmps.getD 2 undef = .pointer (some ⟨r2, 0, none⟩)) (h3 : tmps.getD 3 undef = .pointer (some ⟨r3, 0, none⟩))
    (g2 : W.heap[r2]? = some (.cells #[v2] 23 (0, 0))) (g3 : W.heap[r3]? = some (.cells #[v3] 47 (0, 0))) (hD : ∀ D, D ∈ Ds → W.heap[D]? = some (.deferred (some [])))
    (hO : ∀ W', Keep (fun b => b ∈ Ds) W W' → ParseO l w (.returned (.tuple #[v2, v3])) W') :
    LeavesInM Fence.wide 0 Tryz.prog Tryz.f29 tmps (ParseO l w) (Ds.map fun D => { target := .collected D, args := #[] }) .returning W := by
  refine leaves_marks hDs hD (fun W' hk => ⟨_, results_cc rfl tmps W' r2 r3 v2 v3 h2 ?_ isAggP h3 ?_ isAggE, hO W' hk⟩)
  · exact cell_one (hk.heap g2 (fun hx => by have := hD r2 hx; rw [g2] at this; cases this))
  · exact cell_one (hk.heap g3 (fun hx => by have := hD r3 hx; rw [g3] at this; cases this))

theorem res_cells (w : World) (v : Value) : ((w.alloc (.cells #[.pointer none] 23)).alloc (.cells #[v] 47)).heap[w.heap.size]? = some (.cells #[.pointer none] 23 (0, 0)) ∧ ((w.alloc (.cells #[.pointer none] 23)).alloc (.cells #[v] 47)).heap[w.heap.size + 1]? = some (.cells #[v] 47 (0, 0)) ∧
    Below w.heap.size w ((w.alloc (.cells #[.pointer none] 23)).alloc (.cells #[v] 47)) ∧ ((w.alloc (.cells #[.pointer none] 23)).alloc (.cells #[v] 47)).heap.size = w.heap.size + 2 := by
  refine ⟨alloc_old_h (World.alloc_heap_new w _), ?_, ((Below.refl _ w).alloc (Nat.le_refl _) _).alloc (by rw [World.size_alloc]; omega) _, by rw [World.size_alloc, World.size_alloc]⟩
  rw [← World.size_alloc w (.cells #[.pointer none] 23)]
  exact World.alloc_heap_new _ _

set_option maxRecDepth 100000 in
set_option maxHeartbeats 4000000 in
theorem pParse (s : ByteArray) (w : World) (hE : PEnv w) : Calls Tryz.prog 29 #[.string s] w fun e w' => ParseO s.data.toList w e w' := by
  obtain ⟨l, hl⟩ : ∃ l, s.data.toList = l := ⟨_, rfl⟩
  have hsz : s.size = l.length := by rw [← hl]; exact Lib.size_eq s
  have hfn : ∀ k, Fence.wide.fn k := fun _ => trivial
  have hdep : Fence.wide.depth = none := rfl
  have HE := Lib.hid hE
  have HL := Lib.hid (And.intro hl hsz)
  clear hE
  rw [hl]
  have big : ∀ (W : World), (1048576 < l.length ∨ 65536 < lnC l) → Below w.heap.size w W → ParseO l w (.returned (.tuple #[.pointer none, .iface 81 (.int .i64 5)])) W := fun W hb hw =>
    ⟨5, 0, rd0, [], .inl ⟨hb, rfl, rfl⟩, hw, .inr ⟨by decide, rfl⟩⟩
  have BIG := Lib.hid big
  clear big
  refine (callsIn_wide (n := 0)).1 ?_
  refine callsIn_of_wp_marks Tryz.func29 rfl trivial ?_ rfl
  simp only [Tryz.ntmps29, List.size_toArray, List.length_cons, List.length_nil, Nat.reduceAdd, Nat.reduceSub, Array.replicate_succ, Array.replicate_zero, List.push_toArray, List.append_toArray, List.nil_append, List.cons_append]
  by_cases hbig : 1048576 < s.size
  · have hbig' : (1048576 : Int) < (s.size : Int) := by omega
    have HB := Lib.hid hbig
    clear hl hsz hbig
    gi_wp2
    refine ends_at (Ds := []) (by simp) rfl rfl (res_cells w _).1 (res_cells w _).2.1 (by simp) (fun W' hk => BIG.out W' (.inl (by rw [← HL.out.2]; exact HB.out)) ((res_cells w _).2.2.1.trans (hk.below (by rw [(res_cells w _).2.2.2]; omega) (fun b hb => by simp at hb))))
  have hbig' : ¬ (1048576 : Int) < (s.size : Int) := by omega
  have CL := Lib.hid (fun W => plineCount s W (by omega))
  rw [hl] at CL
  have HS := Lib.hid (show s.size ≤ 1048576 by omega)
  clear hbig hsz hl
  by_cases hln : 65536 < lnC l
  · have hln' : (65536 : Int) < (lnC l : Nat) := by omega
    have HB := Lib.hid hln
    clear hln
    generalize lnC l = nl at *
    gi_wp2_with fail
    refine (callsIn_wide.2 (CL.out _)).mono ?_
    rintro e w' ⟨rfl, rfl⟩
    gi_wp2
    refine ends_at (Ds := []) (by simp) rfl rfl (res_cells _ _).1 (res_cells _ _).2.1 (by simp) (fun W' hk => BIG.out W' (.inr HB.out) ((res_cells _ _).2.2.1.trans (hk.below (by rw [(res_cells _ _).2.2.2]; omega) (fun b hb => by simp at hb))))
  have hln' : ¬ (65536 : Int) < (lnC l : Nat) := by omega
  have HB : Hid (¬ (1048576 < l.length ∨ 65536 < lnC l) ∧ lnC l ≤ 65536) := Lib.hid ⟨fun h => by rcases h with h | h; have := HL.out.2; have := HS.out; omega; omega, by omega⟩
  clear hln
  generalize hnl : lnC l = nl at HB hln' CL
  have HNL := Lib.hid hnl
  clear hnl BIG
  obtain ⟨w1, hw1⟩ : ∃ w1, (w.alloc (.cells #[.pointer none] 23)).alloc (.cells #[.nilIface] 47) = w1 := ⟨_, rfl⟩
  have hrc := res_cells w .nilIface
  rw [hw1] at hrc
  have HRC := Lib.hid hrc
  have HW1 := Lib.hid hw1
  have CN := Lib.hid (pnewR w1)
  clear hrc hw1
  gi_wp2_with fail
  refine (callsIn_wide.2 (CL.out _)).mono ?_
  rintro e w' ⟨rfl, rfl⟩
  gi_wp2_with fail
  rw [HW1.out]
  refine (callsIn_wide.2 CN.out).mono ?_
  rintro e w2 ⟨R, rfl, hb12, ρ0, hR0⟩
  obtain ⟨w3, hw3⟩ : ∃ w3, w2.alloc (.cells #[.pointer (some ⟨R.g, 0, none⟩)] 82) = w3 := ⟨_, rfl⟩
  have CS := Lib.hid (plines_call s w3)
  have HR0 := Lib.hid (And.intro hb12 (And.intro hR0 hw3))
  clear hb12 hR0
  gi_wp2_with fail
  refine (callsIn_wide.2 CS.out).mono ?_
  rintro e w4 ⟨rfl, hw4⟩
  have HW4 := Lib.hid hw4
  clear hw3 hw4
  obtain ⟨B0, hB0⟩ : ∃ B0, w.heap.size + 2 = B0 := ⟨_, rfl⟩
  obtain ⟨H2, hH2⟩ : ∃ H2, w2.heap.size = H2 := ⟨_, rfl⟩
  obtain ⟨rfl, hs⟩ : s = ⟨l.toArray⟩ ∧ l.length ≤ 1048576 := ⟨by rw [← HL.out.1], by rw [← HL.out.2]; exact HS.out⟩
  have hz3 : w3.heap.size = H2 + 1 := by rw [← HR0.out.2.2, World.size_alloc, hH2]
  have hz4 : w4.heap.size = H2 + 2 := by rw [← HW4.out, World.size_alloc, hz3]
  have hB0' : w1.heap.size = B0 := by rw [HRC.out.2.2.2, hB0]
  have hB2 : B0 ≤ H2 := by rw [← hB0', ← hH2]; exact HR0.out.1.size
  have hc4 : w4.heap[H2]? = some (.cells #[.pointer (some ⟨R.g, 0, none⟩)] 82 (0, 0)) := by
    rw [← HW4.out]
    refine alloc_old_h ?_
    rw [← HR0.out.2.2, ← hH2]
    exact World.alloc_heap_new w2 _
  have hbs : w4.heap[H2 + 1]? = some (.cells #[.string ⟨l.toArray⟩] 9 (0, 0)) := by
    rw [← HW4.out, ← hz3]
    exact World.alloc_heap_new w3 _
  have hb24 : Below H2 w2 w4 := by
    rw [← HW4.out, ← HR0.out.2.2]
    exact ((Below.refl _ w2).alloc (by omega) _).alloc (by rw [World.size_alloc]; omega) _
  have hb14 : Below B0 w1 w4 := (by have := HR0.out.1; rw [hB0'] at this; exact this.trans (hb24.mono hB2))
  have hr2 : w4.heap[w.heap.size]? = some (.cells #[.pointer none] 23 (0, 0)) := (hb14.block _ (by omega)).trans HRC.out.1
  have hr3 : w4.heap[w.heap.size + 1]? = some (.cells #[.nilIface] 47 (0, 0)) := (hb14.block _ (by omega)).trans HRC.out.2.1
  have hbw4 : Below w.heap.size w w4 := HRC.out.2.2.1.trans (hb14.mono (by omega))
  have hit := plines_iter l (H2 + 1) w4 hbs hs
  have hI0 : LineI w.heap.size B0 H2 (H2 + 1) (H2 + 2) R [] (fun _ => False) w4 := by
    refine ⟨fun b => if b < H2 then ρ0 b else if b = H2 then 0 else 9, .slice none 0 0, .slice none 0 0, rd0, ?_, rfl, ⟨fun b _ hb => ?_, fun b hb h0 h9 => ?_⟩, hr2, hr3⟩
    · have h1 := HR0.out.2.1
      rw [hB0'] at h1
      have h2 := h1.recast (fun b => if b < H2 then ρ0 b else if b = H2 then 0 else 9) (fun b hb => by rw [hH2] at hb; simp only [if_pos hb])
      exact h2.below (by rw [hH2]; exact hb24)
    · have e1 : ¬ b < H2 := by omega
      have e2 : ¬ b = H2 := by omega
      simp only [if_neg e1, if_neg e2]
    · by_cases e1 : b < H2
      · simp only [if_pos e1] at h0
        have := HR0.out.2.1.hr b h0
        omega
      · have e2 : ¬ b = H2 := fun e => by simp only [if_neg e1, if_pos e] at h0; exact h0 rfl
        simp only [if_neg e1, if_neg e2] at h9
        exact absurd rfl h9
  have HIT := Lib.hid hit
  have HI0 := Lib.hid hI0
  have HWW := Lib.hid (And.intro hc4 (And.intro hr2 (And.intro hr3 (And.intro hbw4 (And.intro hz4 hB2)))))
  have HZ := Lib.hid (And.intro hB0 (And.intro hH2 (And.intro hz3 hs)))
  rw [hz3, hH2]
  clear hit hI0 hc4 hr2 hr3 hbw4 hbs hb24 hb14 hB0' hs hH2 hz3
  gi_wp2_with fail
  refine loop_out3 (gf := 96) (lb := #[.pointer (some ⟨H2 + 1, 0, none⟩)]) (encs := encL) rfl enters_lines
    HIT.out (fun _ => rfl) (X := fun b => b = w.heap.size ∨ b = w.heap.size + 1 ∨ (B0 ≤ b ∧ b < H2))
    (fun b hb => by rcases hb with rfl | rfl | hb <;> omega) (fun b hb => ?nd) (fun _ _ => rfl) (Nat.le_refl _)
    (LineI w.heap.size B0 H2 (H2 + 1) (H2 + 2) R) (LineX w.heap.size (w.heap.size + 1) (linesP l))
    (by rw [hz4]; exact LineI.low (by omega) (by omega)) LineI.slim (fun c pre Y W W' hk ⟨h1, h2, h3, h4, h5⟩ => ⟨h1, h2, h3, hk.heap h4 (fun hx => by have := hx.1; rw [hz4] at this; omega), hk.heap h5 (fun hx => by have := hx.1; rw [hz4] at this; omega)⟩)
    HI0.out ?round ?done ?stop
  case nd =>
    rcases hb with hb | hb
    · have hb : b = H2 + 1 := hb
      exact ⟨fun h => by omega, by omega⟩
    · exact hb.elim
  case round =>
    rintro l' hl' pre x Y W hpre hI hk hY hlt hr
    simp only [encL]
    have HP := Lib.hid hpre
    have HY := Lib.hid hY
    clear hpre hI hk hY hr
    gi_wp2
    refine ⟨Keep.refl _ _, ?_⟩
    rintro W2 hk1 hk2 ⟨ρ, cv, kv, S, hR, hrd, hro, hrc2⟩ rl
    have hlen : pre.length + 1 ≤ 65536 := by
      obtain ⟨t, ht⟩ := HP.out
      have := linesP_len l
      rw [HNL.out, ← ht] at this
      simp at this
      have := HB.out.2
      omega
    have hx : x.length ≤ 1048576 := by
      obtain ⟨t, ht⟩ := HP.out
      have := linesP_le l x (by rw [← ht]; simp)
      have := HZ.out.2.2.2
      omega
    obtain ⟨hR3, hk3⟩ := hR.setline (pre.length + 1)
    have z0 : W2.cell? ⟨H2, 0, none⟩ = some (.pointer (some ⟨R.g, 0, none⟩)) := cell_one (hk2.heap HWW.out.1 (fun h => by rcases h with (h | h | h) | h <;> omega))
    have z1 : W2.cell? ⟨R.g, 1, none⟩ = some (.int .i64 (pre.length : Nat)) := by rw [Lib.cell_of_heap hR.cell]; rfl
    have zf : W2.frozen? ⟨R.g, 1, none⟩ = false := Lib.frozen_of_heap hR.cell _
    obtain ⟨W3, hW3⟩ : ∃ W3, W2.setCell ⟨R.g, 1, none⟩ (.int .i64 ((pre.length + 1 : Nat) : Int)) = W3 := ⟨_, rfl⟩
    rw [hW3] at hR3 hk3
    have hRg : ¬ H2 = R.g := fun e => by
      have h1 := hR.g
      rw [← e] at h1
      have h2 := hro.2 H2 (by omega) (by omega) (by omega)
      omega
    have z3 : W3.cell? ⟨H2, 0, none⟩ = some (.pointer (some ⟨R.g, 0, none⟩)) := hk3.cell z0 hRg
    have HR3 := Lib.hid (And.intro hR3 (And.intro hk3 (And.intro hrd (And.intro hro (And.intro hk2 (And.intro hk1 hrc2))))))
    have HLN := Lib.hid (And.intro hlen hx)
    have hk02 := hk2
    have HPE : Hid (∀ V, Below W3.heap.size W3 V → PEnv V) := Lib.hid fun V hb => by
      have h1 : Below w.heap.size w W2 := HWW.out.2.2.2.1.trans (hk2.below (by omega) (fun b hb => by rcases hb with (h | h | h) | h <;> omega))
      have h2 : Below w.heap.size w W3 := h1.trans (hk3.below (by have := h1.size; omega) (fun b hb => by subst hb; have := hR.hr R.g (by have := hR.g; omega); omega))
      exact HE.out.below (h2.trans (hb.mono h2.size))
    have hd0 : Below W3.heap.size W3 W3.drew := below_drewN (Below.refl _ _) 1
    have CW : Hid (Calls Tryz.prog 55 #[.string ⟨x.toArray⟩] W3.drew fun e w' => ∃ v, e = .returned v ∧ StrS v (wrdP x) w' ∧ Below W3.heap.size W3 w') := Lib.hid ((pwords ⟨x.toArray⟩ W3.drew (by rw [bsize]; exact hx) (HPE.out _ hd0)).mono fun e w' h => by
      obtain ⟨v, h1, h2, h3⟩ := h
      exact ⟨v, h1, by simpa using h2, hd0.trans h3⟩)
    have CT : Hid (∀ (V : World) (v : Value), Below W3.heap.size W3 V → StrS v (wrdP x) V → Calls Tryz.prog 54 #[.pointer (some ⟨R.g, 0, none⟩), v] V fun e w' => RdOut B0 ρ R (pre.length + 1) (2 * pre.length + 2) 0 (takeP (pre.length + 1) S (wrdP x)).1 (takeP (pre.length + 1) S (wrdP x)).2 V e w') := Lib.hid fun V v hb hS =>
      ptake V (hR3.below hb) (wrdP x) v hS (fun y hy => ⟨(wrdP_ok x y hy).1, Nat.le_trans (wrdP_ok x y hy).2 hx⟩) (HPE.out V hb) (by omega) (by
        have := (readP_ok pre 0 0 rd0 rd0_ok (by rw [hrd])).cs.1
        rw [hrd] at this
        simp at this
        omega) (by
        have := (readP_ok pre 0 0 rd0 rd0_ok (by rw [hrd])).ks.1
        rw [hrd] at this
        simp at this
        omega)
    have hW3' : W2.setCell ⟨R.g, 1, none⟩ (.int .i64 ((pre.length : Int) + 1)) = W3 := by rw [← hW3]; rfl
    clear hR hR3 hk3 hrd hro hk2 hk1 rl hW3 hRg hlt hrc2
    clear hk02 hd0
    gi_wp2_with fail
    gi_region_with (first
      | (gi_at_call 55; refine (CallsIn.inRound l' (callsIn_wide.2 CW.out)).mono ?_; rintro e V ⟨v, rfl, hS, hb⟩; have zz := (hb.cell (lt_of_cell z3)).trans z3)
      | (gi_at_call 54; refine (CallsIn.inRound l' (callsIn_wide.2 (CT.out _ _ (by assumption) (by assumption)))).mono ?_; rintro e V2 ⟨rfl, hkt, hex⟩))
    all_goals
      obtain ⟨ρ2, S2, cv2, kv2, hR2, hro2, hS2⟩ := hex
      have hbV : Below W3.heap.size W3 V := hb
      obtain ⟨no, hno⟩ : ∃ no, (takeP (pre.length + 1) S (wrdP x)).1 = no := ⟨_, rfl⟩
      rw [hno] at hS2 ⊢
      have HNO := Lib.hid hno
      have hrc3 : ResC w.heap.size V2 := by
        obtain ⟨hR3, hk3, hrd, hro, hk2, hk1, hrc⟩ := HR3.out
        have h1 := hrc.keep hk3 (fun e => by have := hR3.hr R.g (by have := hR3.g; omega); omega) (fun e => by have := hR3.hr R.g (by have := hR3.g; omega); omega)
        have h2 := h1.keep (X := fun _ => False) (Keep.of_all hbV) (fun h => h) (fun h => h)
        exact h2.keep hkt (fun h => by have := hR3.hr _ h.1; omega) (fun h => by have := hR3.hr _ h.1; omega)
      have HK2 : Hid (Keep (fun b => (b = w.heap.size ∨ b = w.heap.size + 1 ∨ (B0 ≤ b ∧ b < H2)) ∨ Y b) W2 V2) := Lib.hid (by
        obtain ⟨hR3, hk3, hrd, hro, hk2, hk1, hrc⟩ := HR3.out
        have hrole : ∀ b, ρ b ≠ 0 → ρ b ≠ 9 → (b = w.heap.size ∨ b = w.heap.size + 1 ∨ (B0 ≤ b ∧ b < H2)) ∨ Y b := fun b h0 h9 => by
          by_cases hb : b < H2 + 2
          · exact .inl (.inr (.inr (hro.2 b hb h0 h9)))
          · refine .inr (Classical.byContradiction fun hy => h9 (hro.1 b hy (by omega)))
        have k1 : Keep (fun b => ((b = w.heap.size ∨ b = w.heap.size + 1 ∨ (B0 ≤ b ∧ b < H2)) ∨ Y b) ∨ W2.heap.size ≤ b) W2 W3 := hk3.weaken (fun b _ hb => .inl (by subst hb; exact hrole R.g (by have := hR3.g; omega) (by have := hR3.g; omega)))
        have k2 : Keep (fun b => ((b = w.heap.size ∨ b = w.heap.size + 1 ∨ (B0 ≤ b ∧ b < H2)) ∨ Y b) ∨ W2.heap.size ≤ b) W3 V := Keep.of_all hbV
        have k3 : Keep (fun b => ((b = w.heap.size ∨ b = w.heap.size + 1 ∨ (B0 ≤ b ∧ b < H2)) ∨ Y b) ∨ W2.heap.size ≤ b) V V2 := hkt.weaken (fun b _ hb => .inl (hrole b hb.1 hb.2))
        exact ((k1.trans k2).trans k3).weaken (fun b hb h => by rcases h with h | h; exact h; omega))
      have hsz3 : W2.heap.size ≤ V.heap.size := Nat.le_trans HR3.out.2.1.size hbV.size
      by_cases hno0 : no = 0
      · have hno0' : (no : Int) = 0 := by omega
        have HF := Lib.hid (And.intro hR2 (And.intro hro2 (And.intro hS2 (And.intro hrc3 (And.intro hsz3 hno0)))))
        clear hR2 hro2 hS2 hrc3 hkt hno hsz3 hb hbV hS zz hno0
        gi_wp2
        obtain ⟨hR2, hro2, hS2, hrc3, hsz3, hno0⟩ := HF.out
        have hro := HR3.out.2.2.2.1
        refine ⟨fun b => Y b ∨ W2.heap.size ≤ b, HK2.out, fun b hb => hb, ρ2, cv2, kv2, S2, ?_, ?_, ⟨fun b hb hbs => ?_, fun b hb h0 h9 => ?_⟩, hrc3⟩
        · have e1 : (pre ++ [x]).length = pre.length + 1 := by simp
          rw [e1, show 2 * (pre.length + 1) = 2 * pre.length + 2 by omega]
          exact hR2
        · have e1 : (pre ++ [x]).length = pre.length + 1 := by simp
          rw [readP_snoc HR3.out.2.2.1, e1, HNO.out, hno0, hS2 hno0]
          rfl
        · have hb2 : b < W2.heap.size := Nat.lt_of_not_le fun h => hb (.inr h)
          rw [hro2 b (by omega)]
          exact hro.1 b (fun hy => hb (.inl hy)) hbs
        · have hsw : H2 + 2 ≤ W2.heap.size := by have := HR3.out.2.2.2.2.1.size; have := HWW.out.2.2.2.2.1; omega
          rw [hro2 b (by omega)] at h0 h9
          exact hro.2 b hb h0 h9
      · have hno0' : ¬ (no : Int) = 0 := by omega
        have CF := Lib.hid (pfaultR V2 hR2 no)
        have y2 : V2.cell? ⟨w.heap.size, 0, none⟩ = some (.pointer none) := cell_one hrc3.1
        have y3 : V2.cell? ⟨w.heap.size + 1, 0, none⟩ = some .nilIface := cell_one hrc3.2
        have f2 : V2.frozen? ⟨w.heap.size, 0, none⟩ = false := frozen_one hrc3.1
        have f3 : V2.frozen? ⟨w.heap.size + 1, 0, none⟩ = false := frozen_one hrc3.2
        have y0 : V2.cell? ⟨H2, 0, none⟩ = some (.pointer (some ⟨R.g, 0, none⟩)) := by
          have h1 := (hbV.cell (lt_of_cell z3)).trans z3
          refine hkt.cell h1 (fun h => ?_)
          have := HR3.out.2.2.2.1.2 H2 (by omega) h.1 h.2
          omega
        have HF := Lib.hid (And.intro hrc3 hno0)
        clear hR2 hro2 hS2 hrc3 hkt hno hsz3 hb hbV hS zz hno0
        gi_wp2_with fail
        refine (CallsIn.inRound l' (callsIn_wide.2 CF.out)).mono ?_
        rintro e V3 ⟨rfl, rfl⟩
        gi_wp2
        obtain ⟨hrc3, hno0⟩ := HF.out
        have hall : readP 0 rd0 (linesP l) = (no, pre.length + 1, S) := by
          obtain ⟨t, ht⟩ := HP.out
          rw [← ht, readP_bad HR3.out.2.2.1 (by rw [HNO.out]; exact hno0), HNO.out]
        have he : errP no (pre.length + 1) = .iface 136 (.agg #[.int .i64 (no : Nat), .int .i64 ((pre.length : Int) + 1), .int .i64 0]) := by
          unfold errP
          rw [if_neg (by omega)]
          rfl
        rw [← he]
        have k2 : Keep (fun b => b = w.heap.size ∨ b = w.heap.size + 1) V3 ((V3.setCell ⟨w.heap.size, 0, none⟩ (.pointer none)).setCell ⟨w.heap.size + 1, 0, none⟩ (errP no (pre.length + 1))) :=
          Keep.setCell (X := fun b => b = w.heap.size ∨ b = w.heap.size + 1) (p := ⟨w.heap.size + 1, 0, none⟩) (Keep.setCell (X := fun b => b = w.heap.size ∨ b = w.heap.size + 1) (p := ⟨w.heap.size, 0, none⟩) (Keep.refl _ _) (.inl rfl) _) (.inr rfl) _
        refine ⟨Y, HK2.out.trans (k2.weaken (fun b _ h => by rcases h with h | h; exact .inl (.inl h); exact .inl (.inr (.inl h)))), fun b hb => .inl hb, rfl, by rw [hall]; exact hno0, by rw [hall]; simp, ?_, ?_⟩
        · exact set_old (set_at hrc3.1) (by omega)
        · rw [hall]
          exact set_at (set_old hrc3.2 (by omega))
  case stop =>
    rintro D c pre Y W hD hDd hpre ⟨rfl, h1, h2, h3, h4⟩ hY hkW
    have hbW : Below w.heap.size w W := HWW.out.2.2.2.1.trans (hkW.below (by omega) (fun b hb => by rcases hb with (h | h | h) | h <;> omega))
    have HF := Lib.hid (And.intro h1 (And.intro h2 (And.intro h3 (And.intro h4 (And.intro hbW (And.intro hDd hD))))))
    clear h1 h2 h3 h4 hbW hDd hY hkW
    gi_wp2
    obtain ⟨h1, h2, h3, h4, hbW, hDd, hD⟩ := HF.out
    refine ends_at (Ds := [D]) (by simp) rfl rfl h3 h4 (fun D' h => by simp at h; subst h; exact hDd) (fun W' hk => ?_)
    refine ⟨_, _, rd0, [], .inr (.inl ⟨by rw [HNL.out]; exact HB.out.1, h1, rfl, rfl⟩), hbW.trans (hk.below hbW.size (fun b hb => by simp at hb; omega)), .inr ⟨h1, rfl⟩⟩
  case done =>
    rintro D Y W hD hDd ⟨ρ, cv, kv, S, hR, hrd, hro, hrc⟩ hY hkW
    have hok := readP_ok (linesP l) 0 0 rd0 rd0_ok (by rw [hrd])
    rw [hrd] at hok
    simp only [Nat.zero_add] at hok
    have hlen : (linesP l).length ≤ 65536 := by rw [linesP_len, HNL.out]; exact HB.out.2
    have hbW : Below w.heap.size w W := HWW.out.2.2.2.1.trans (hkW.below (by omega) (fun b hb => by rcases hb with (h | h | h) | h <;> omega))
    have y0 : W.cell? ⟨H2, 0, none⟩ = some (.pointer (some ⟨R.g, 0, none⟩)) := cell_one (hkW.heap HWW.out.1 (fun h => by rcases h with (h | h | h) | h <;> omega))
    have CDE := Lib.hid (pdecomposed W hR (fun x hx => by
      obtain ⟨y, hy⟩ := Option.isSome_iff_exists.1 hx
      have := valid_le (hok.ds x y hy).1.1
      omega))
    obtain ⟨nn, hnn⟩ : ∃ nn, (linesP l).length = nn := ⟨_, rfl⟩
    rw [hnn] at hR hrd hok hlen
    have HD := Lib.hid (And.intro hR (And.intro hrd (And.intro hro (And.intro hrc (And.intro hok (And.intro hlen (And.intro hbW (And.intro hDd (And.intro hD hnn)))))))))
    clear hR hrd hro hrc hok hlen hbW hDd hY hkW hD hnn
    gi_wp2_with fail
    refine (callsIn_wide.2 CDE.out).mono ?_
    rintro e W4 ⟨L, v, hp, hm, rfl, hRs, hb4⟩
    obtain ⟨ao, cp, rfl, hcl⟩ : ∃ ao cp, v = .slice ao L.length cp ∧ ∀ i x, L[i]? = some x → ∃ g, ao = some ⟨g, 0, none⟩ ∧ W.heap.size ≤ g ∧ W4.cell? ⟨g, i, none⟩ = some (.int .i32 (x : Nat)) := by
      rcases hRs with ⟨rfl, rfl⟩ | ⟨g, cp, rfl, _, h3, _, h5⟩
      · exact ⟨none, 0, rfl, fun i x h => by cases h⟩
      · exact ⟨_, cp, rfl, fun i x h => ⟨g, rfl, h3, h5 i x h⟩⟩
    obtain ⟨N, hN⟩ : ∃ N, L.length = N := ⟨_, rfl⟩
    have hNl : N ≤ 1114112 := by
      rw [← hN]
      refine nodup_le 1114112 L (hp.imp (fun h => Nat.ne_of_lt h)) (fun x hx => ?_)
      obtain ⟨y, hy⟩ := Option.isSome_iff_exists.1 ((hm x).1 hx)
      have := valid_le (HD.out.2.2.2.2.1.ds x y hy).1.1
      omega
    have HLL := Lib.hid (And.intro hp (And.intro hm (And.intro hcl (And.intro hN hb4))))
    have y4 := (hb4.cell (lt_of_cell y0)).trans y0
    rw [hN]
    clear hp hm hRs hcl hb4 hN y0
    gi_wp2_with fail
    have hI0 : RingI B0 ρ R (2 * nn) N L S cv kv W4 0 W4 := by
      obtain ⟨hR, hrd, hro, hrc, hok, hlen, hbW, hDd, hD, hnn⟩ := HD.out
      refine ⟨nn, 0, ?_, rfl, fun y v h => (by cases h), ?_, Keep.refl _ _⟩
      · have h9 := hR.below HLL.out.2.2.2.2
        rw [← rd_le_none (show S.le = fun _ => none by have := readP_le (linesP l) 0 rd0; rw [hrd] at this; exact this)] at h9
        exact h9
      · have := unk_len L (fun _ => none)
        rw [HLL.out.2.2.2.1] at this
        simp only [List.take_zero, ringL]
        omega
    have HI0 := Lib.hid hI0
    clear hI0
    have hRne : Hid (H2 ≠ R.g ∧ H2 ≠ R.bn ∧ w.heap.size ≠ R.g ∧ w.heap.size ≠ R.bn ∧ w.heap.size + 1 ≠ R.g ∧ w.heap.size + 1 ≠ R.bn ∧ D ≠ R.g ∧ D ≠ R.bn ∧ R.g < W.heap.size ∧ R.bn < W.heap.size ∧ B0 ≤ R.g ∧ B0 ≤ R.bn ∧ R.g ≠ R.bn) := Lib.hid (by
      obtain ⟨hR, hrd, hro, hrc, hok, hlen, hbW, hDd, hD, hnn⟩ := HD.out
      have g1 := hR.hr R.g (by have := hR.g; omega)
      have g2 := hR.hr R.bn (by have := hR.e.1; omega)
      have g3 := hR.g
      have g4 := hR.e.1
      refine ⟨fun e => ?_, fun e => ?_, by omega, by omega, by omega, by omega, fun e => ?_, fun e => ?_, hR.gl, hR.e.2.lt, g1, g2, fun e => by rw [e] at g3; omega⟩
      · have := hro.2 H2 (by omega) (by rw [e]; omega) (by rw [e]; omega)
        omega
      · have := hro.2 H2 (by omega) (by rw [e]; omega) (by rw [e]; omega)
        omega
      · have h9 := hR.cell
        rw [← e, hDd] at h9
        cases h9
      · obtain ⟨D9, ⟨es, clock, h1, _⟩, _⟩ := hR.e.2
        rw [← e, hDd] at h1
        cases h1)
    gi_loopw [42] (fun x wr => ∃ i : Nat, x = .int .i64 i ∧ i ≤ N ∧ RingI B0 ρ R (2 * nn) N L S cv kv W4 i wr) (fun x _ => N - (RowKit.intOf x).toNat)
    case atStart => exact ⟨0, rfl, by omega, HI0.out⟩
    case round =>
      obtain ⟨i, rfl, hi, line, m, hR, hrp, hle, hmu, hk⟩ := hrel
      have hsz := hk.size
      have hs4 := HLL.out.2.2.2.2.size
      have z4 : wr.cell? ⟨H2, 0, none⟩ = some (.pointer (some ⟨R.g, 0, none⟩)) := hk.cell y4 (fun h => by rcases h with h | h; exact hRne.out.1 h; exact hRne.out.2.1 h)
      by_cases hlt : i < N
      · have hlt' : (i : Int) < (N : Int) := by omega
        obtain ⟨x, hx⟩ : ∃ x, L[i]? = some x := ⟨_, List.getElem?_eq_getElem (by rw [HLL.out.2.2.2.1]; exact hlt)⟩
        obtain ⟨gl, rfl, hgl, hcx⟩ := HLL.out.2.2.1 i x hx
        obtain ⟨y, hy⟩ := Option.isSome_iff_exists.1 ((HLL.out.2.1 x).1 (List.mem_of_getElem? hx))
        obtain ⟨ln, hlp, hln⟩ : ∃ ln, 0 < ln ∧ S.ls x = some ln := by
          obtain ⟨m9, h9⟩ := HD.out.2.2.2.2.1.ls x ((HLL.out.2.1 x).1 (List.mem_of_getElem? hx))
          exact ⟨m9 + 1, by omega, h9⟩
        have hxv := valid_le (HD.out.2.2.2.2.1.ds x y hy).1.1
        have hcx2 := hk.cell hcx (fun h => by have h0 : gl = R.g ∨ gl = R.bn := h; have := hRne.out; rcases h0 with h0 | h0 <;> omega)
        have hk1 : IntKind.i64.wrap ((i : Int) + 1) = ((i + 1 : Nat) : Int) := by rw [IntWalk.i64_in _ (by omega)]; omega
        have hbng := hRne.out.2.2.2.2.2.2.2.2.2.2.2.2
        have hgz := hR.gl
        have FA6 : Hid (∀ X : World, (Instr.fieldAt 92 (.pointer (some ⟨R.g, 0, none⟩)) 6).run Tryz.prog X = .ok (.pointer (some ⟨R.g, 6, none⟩)) X) := Lib.hid fun X => by go_simp
        have FA1 : Hid (∀ X : World, (Instr.fieldAt 92 (.pointer (some ⟨R.g, 0, none⟩)) 1).run Tryz.prog X = .ok (.pointer (some ⟨R.g, 1, none⟩)) X) := Lib.hid fun X => by go_simp
        have LDr : Hid (∀ X : World, Below wr.heap.size wr X → (Instr.loadAt 82 (.pointer (some ⟨H2, 0, none⟩))).run Tryz.prog X = .ok (.pointer (some ⟨R.g, 0, none⟩)) X) := Lib.hid fun X hb => by
          have c := (hb.cell (lt_of_cell z4)).trans z4
          go_simp
        have LDl : Hid (∀ X : World, Below wr.heap.size wr X → (Instr.loadAt 90 (.pointer (some ⟨R.g, 6, none⟩))).run Tryz.prog X = .ok (.map (some R.bl)) X) := Lib.hid fun X hb => by
          have c : X.cell? ⟨R.g, 6, none⟩ = some (.map (some R.bl)) := (hb.cell hR.gl).trans (by rw [Lib.cell_of_heap hR.cell]; rfl)
          go_simp
        have LKl : Hid (∀ X : World, Below wr.heap.size wr X → (Instr.lookup 90 (.map (some R.bl)) (.int .i32 (x : Nat)) false).run Tryz.prog X = .ok (.int .i64 (ln : Nat)) X) := Lib.hid fun X hb =>
          (hR.below hb).lnl hxv hln
        have STl : Hid (∀ X : World, Below wr.heap.size wr X → (Instr.storeAt 3 (.pointer (some ⟨R.g, 1, none⟩)) (.int .i64 (ln : Nat))).run Tryz.prog X = .ok () (X.setCell ⟨R.g, 1, none⟩ (.int .i64 (ln : Nat))) ∧ RdW B0 ρ R ln (2 * nn) m { S with le := ringL S (N + 1) (L.take i) fun _ => none } cv kv (X.setCell ⟨R.g, 1, none⟩ (.int .i64 (ln : Nat))) ∧ Keep (fun b => b = R.g) X (X.setCell ⟨R.g, 1, none⟩ (.int .i64 (ln : Nat)))) := Lib.hid fun X hb => by
          have hRX := hR.below hb
          have q : X.cell? ⟨R.g, 1, none⟩ = some (.int .i64 (line : Nat)) := by rw [Lib.cell_of_heap hRX.cell]; rfl
          have q2 : X.frozen? ⟨R.g, 1, none⟩ = false := Lib.frozen_of_heap hRX.cell _
          refine ⟨by go_simp, hRX.setline ln⟩
        have HX := Lib.hid (And.intro hx (And.intro hy (And.intro hln (And.intro hR (And.intro hrp (And.intro hle (And.intro hmu hk)))))))
        have hxi := Lib.hid hi
        clear hx hy hln hR hrp hle hmu hk hcx
        gi_wp2_with fail
        refine wpIn_wide.2 ?_
        obtain ⟨FF, hFF⟩ : ∃ FF : StoB, FF = ⟨wr, wr.heap.size, R.g, 9, fun i v W => match i with | 0 => v = .pointer (some ⟨R.g, 0, none⟩) | 1 => v = .pointer (some ⟨R.g, 0, none⟩) | 2 => v = .pointer (some ⟨R.g, 0, none⟩) | 3 => v = .pointer (some ⟨R.g, 6, none⟩) | 4 => v = .map (some R.bl) | 5 => v = .int .i32 (x : Nat) | 6 => v = .int .i64 (ln : Nat) | 7 => v = .pointer (some ⟨R.g, 0, none⟩) | 8 => v = .pointer (some ⟨R.g, 1, none⟩) | _ => True, fun W => RdW B0 ρ R ln (2 * nn) m { S with le := ringL S (N + 1) (L.take i) fun _ => none } cv kv W ∧ Keep (fun b => b = R.g) wr W⟩ := ⟨_, rfl⟩
        have HOK : StoB.Ok FF := by
          rw [hFF]
          refine ⟨rfl, by show R.g < wr.heap.size; omega, fun i v A B hb => ?_⟩
          match i with
          | 0 => exact fun h => h
          | 1 => exact fun h => h
          | 2 => exact fun h => h
          | 3 => exact fun h => h
          | 4 => exact fun h => h
          | 5 => exact fun h => h
          | 6 => exact fun h => h
          | 7 => exact fun h => h
          | 8 => exact fun h => h
          | _ + 9 => exact fun _ => trivial
        have H0 : Below FF.H FF.w wr.drew := by rw [hFF]; exact below_drewN (Below.refl _ _) 1
        refine wp_region_stob FF (by kernel_rfl) (by kernel_rfl) (by kernel_rfl) HOK (by rw [hFF]; kernel_rfl) (by rw [hFF]; show (9 : Nat) < 10; decide) H0 ?hsl ?hdl
        case hsl =>
          refine BSteps.cons ?_ (BSteps.cons ?_ (BSteps.cons ?_ (BSteps.cons ?_ (BSteps.cons ?_ (BSteps.cons ?_ (BSteps.cons ?_ (BSteps.cons ?_ (BSteps.cons ?_ (BSteps.cons ?_ (BSteps.nil))))))))))
          · intro a X9 hXB hL hd
            rw [hFF] at hXB
            refine ⟨rfl, ?_⟩
            have e0 : a.eval (.tmp 4) = .pointer (some ⟨H2, 0, none⟩) := hL.far 4 (by kernel_rfl)
            exact wp_value (exec_load rfl e0 (LDr.out X9 hXB)) ⟨_, rfl, .inl ⟨by rw [hFF]; show (0 : Nat) ≠ 9; decide, Below.refl _ _, by rw [hFF]; exact rfl⟩⟩
          · intro a X9 hXB hL hd
            rw [hFF] at hXB
            refine ⟨rfl, ?_⟩
            have e0 : a.eval (.tmp 4) = .pointer (some ⟨H2, 0, none⟩) := hL.far 4 (by kernel_rfl)
            exact wp_value (exec_load rfl e0 (LDr.out X9 hXB)) ⟨_, rfl, .inl ⟨by rw [hFF]; show (1 : Nat) ≠ 9; decide, Below.refl _ _, by rw [hFF]; exact rfl⟩⟩
          · intro a X9 hXB hL hd
            have q0 := hd 1 47 (by rw [hFF]; show (1 : Nat) ≠ 9; decide) (by kernel_rfl) (by kernel_rfl)
            rw [hFF] at hXB q0
            refine ⟨rfl, ?_⟩
            have e0 : a.eval (.tmp 47) = .pointer (some ⟨R.g, 0, none⟩) := q0
            exact wp_value (exec_nilCheck rfl e0) ⟨_, rfl, .inl ⟨by rw [hFF]; show (2 : Nat) ≠ 9; decide, Below.refl _ _, by rw [hFF]; exact rfl⟩⟩
          · intro a X9 hXB hL hd
            have q0 := hd 2 48 (by rw [hFF]; show (2 : Nat) ≠ 9; decide) (by kernel_rfl) (by kernel_rfl)
            rw [hFF] at hXB q0
            refine ⟨rfl, ?_⟩
            have e0 : a.eval (.tmp 48) = .pointer (some ⟨R.g, 0, none⟩) := q0
            exact wp_value (exec_fieldAddr rfl e0 (FA6.out X9)) ⟨_, rfl, .inl ⟨by rw [hFF]; show (3 : Nat) ≠ 9; decide, Below.refl _ _, by rw [hFF]; exact rfl⟩⟩
          · intro a X9 hXB hL hd
            have q0 := hd 3 49 (by rw [hFF]; show (3 : Nat) ≠ 9; decide) (by kernel_rfl) (by kernel_rfl)
            rw [hFF] at hXB q0
            refine ⟨rfl, ?_⟩
            have e0 : a.eval (.tmp 49) = .pointer (some ⟨R.g, 6, none⟩) := q0
            exact wp_value (exec_load rfl e0 (LDl.out X9 hXB)) ⟨_, rfl, .inl ⟨by rw [hFF]; show (4 : Nat) ≠ 9; decide, Below.refl _ _, by rw [hFF]; exact rfl⟩⟩
          · intro a X9 hXB hL hd
            rw [hFF] at hXB
            refine ⟨rfl, ?_⟩
            have e0 : a.eval (.tmp 8) = .int .i32 (x : Nat) := hL.far 8 (by kernel_rfl)
            exact wp_value (exec_move rfl e0) ⟨_, rfl, .inl ⟨by rw [hFF]; show (5 : Nat) ≠ 9; decide, Below.refl _ _, by rw [hFF]; exact rfl⟩⟩
          · intro a X9 hXB hL hd
            have q0 := hd 4 50 (by rw [hFF]; show (4 : Nat) ≠ 9; decide) (by kernel_rfl) (by kernel_rfl)
            have q1 := hd 5 51 (by rw [hFF]; show (5 : Nat) ≠ 9; decide) (by kernel_rfl) (by kernel_rfl)
            rw [hFF] at hXB q0 q1
            refine ⟨rfl, ?_⟩
            have e0 : a.eval (.tmp 50) = .map (some R.bl) := q0
            have e1 : a.eval (.tmp 51) = .int .i32 (x : Nat) := q1
            exact wp_value (exec_lookup rfl e0 e1 (LKl.out X9 hXB)) ⟨_, rfl, .inl ⟨by rw [hFF]; show (6 : Nat) ≠ 9; decide, Below.refl _ _, by rw [hFF]; exact rfl⟩⟩
          · intro a X9 hXB hL hd
            have q0 := hd 0 46 (by rw [hFF]; show (0 : Nat) ≠ 9; decide) (by kernel_rfl) (by kernel_rfl)
            rw [hFF] at hXB q0
            refine ⟨rfl, ?_⟩
            have e0 : a.eval (.tmp 46) = .pointer (some ⟨R.g, 0, none⟩) := q0
            exact wp_value (exec_nilCheck rfl e0) ⟨_, rfl, .inl ⟨by rw [hFF]; show (7 : Nat) ≠ 9; decide, Below.refl _ _, by rw [hFF]; exact rfl⟩⟩
          · intro a X9 hXB hL hd
            have q0 := hd 7 53 (by rw [hFF]; show (7 : Nat) ≠ 9; decide) (by kernel_rfl) (by kernel_rfl)
            rw [hFF] at hXB q0
            refine ⟨rfl, ?_⟩
            have e0 : a.eval (.tmp 53) = .pointer (some ⟨R.g, 0, none⟩) := q0
            exact wp_value (exec_fieldAddr rfl e0 (FA1.out X9)) ⟨_, rfl, .inl ⟨by rw [hFF]; show (8 : Nat) ≠ 9; decide, Below.refl _ _, by rw [hFF]; exact rfl⟩⟩
          · intro a X9 hXB hL hd
            have q0 := hd 8 54 (by rw [hFF]; show (8 : Nat) ≠ 9; decide) (by kernel_rfl) (by kernel_rfl)
            have q1 := hd 6 52 (by rw [hFF]; show (6 : Nat) ≠ 9; decide) (by kernel_rfl) (by kernel_rfl)
            rw [hFF] at hXB q0 q1
            refine ⟨rfl, ?_⟩
            have e0 : a.eval (.tmp 54) = .pointer (some ⟨R.g, 1, none⟩) := q0
            have e1 : a.eval (.tmp 52) = .int .i64 (ln : Nat) := q1
            obtain ⟨hr9, hR9, hk9⟩ := STl.out X9 hXB
            refine wp_skipped (exec_store rfl e0 e1 hr9) ⟨undef, rfl, ?_⟩
            exact .inr ⟨by subst hFF; rfl, by rw [hFF]; exact hk9, by rw [hFF]; exact ⟨hR9, (Keep.of_all hXB).trans hk9⟩⟩
        intro a X9 hL hfin
        rw [hFF] at hfin
        obtain ⟨f, ha, hf⟩ := hL.out [46, 47, 48, 49, 50, 51, 52, 53, 54] rfl
        clear hf hL H0 HOK hFF
        simp only [List.foldl_cons, List.foldl_nil, List.setIfInBounds_toArray, List.set_cons_zero, List.set_cons_succ] at ha
        subst ha
        obtain ⟨hR5, hk5⟩ := hfin
        obtain ⟨W5, hW5⟩ : ∃ W5, X9 = W5 := ⟨_, rfl⟩
        rw [hW5] at hR5 hk5 ⊢
        have CE := Lib.hid (pended L (N + 1) W5 ρ m _ cv kv x hR5 (fun y9 h9 => (HLL.out.2.1 y9).2 h9) (fun y9 l9 h9 => by
            obtain ⟨_, h2, h3⟩ := HD.out.2.2.2.2.1.ds y9 l9 h9
            exact ⟨by omega, fun z hz => valid_le (h3 z hz)⟩) HX.out.2.2.2.2.2.1 (by
            have := unk_len L (ringL S (N + 1) (L.take i) fun _ => none)
            rw [HLL.out.2.2.2.1] at this
            show unk L (ringL S (N + 1) (L.take i) fun _ => none) < N + 1
            omega) hxv (by have := HX.out.2.2.2.2.2.2.1; show m + 2 * unk L (ringL S (N + 1) (L.take i) fun _ => none) ≤ _; omega))
        have z5 : W5.cell? ⟨H2, 0, none⟩ = some (.pointer (some ⟨R.g, 0, none⟩)) := hk5.cell z4 hRne.out.1
        have H5 := Lib.hid (And.intro hR5 hk5)
        clear hR5 hk5 hW5
        gi_wp2_with fail
        refine (callsIn_wide.2 CE.out).mono ?_
        rintro e W6 ⟨rfl, ⟨m', hR6, hm6⟩, hk6⟩
        obtain ⟨no, hno⟩ : ∃ no, endN (lenF S.ds (N + 1) (ringL S (N + 1) (L.take i) fun _ => none) x).1 = no := ⟨_, rfl⟩
        rw [hno]
        have z6 : W6.cell? ⟨H2, 0, none⟩ = some (.pointer (some ⟨R.g, 0, none⟩)) := hk6.cell z5 hRne.out.2.1
        have HK6 : Hid (Keep (fun b => b = R.g ∨ b = R.bn) W4 W6) := Lib.hid ((HX.out.2.2.2.2.2.2.2.trans (H5.out.2.weaken (fun b _ h => .inl h))).trans (hk6.weaken (fun b _ h => .inr h)))
        by_cases hno0 : no = 0
        · have hno0' : (no : Int) = 0 := by omega
          have H6 := Lib.hid (And.intro hR6 (And.intro hm6 (And.intro hno hno0)))
          clear hR6 hm6 hno hno0 hk6
          gi_wp2
          go_roundw
          case rel =>
            obtain ⟨hR6, hm6, hno, hno0⟩ := H6.out
            obtain ⟨hx, hy, hln, hR, hrp, hle, hmu, hk⟩ := HX.out
            refine ⟨i + 1, by go_num, by omega, ln, m', ?_, ?_, ?_, ?_, HK6.out⟩
            · rw [ringL_snoc hx]; exact hR6
            · rw [ringP_snoc hx hrp, hno, hno0]; rfl
            · rw [ringL_snoc hx]; exact (lenF_ok S.ds (N + 1) _ x hle).2.1
            · rw [ringL_snoc hx]; exact Nat.le_trans hm6 hmu
          case measure => simp [RowKit.intOf]; omega
        · have hno0' : ¬ (no : Int) = 0 := by omega
          have CF := Lib.hid (pfaultR W6 hR6 no)
          have hrc6 : ResC w.heap.size W6 := (HD.out.2.2.2.1.keep (X := fun _ => False) (Keep.of_all HLL.out.2.2.2.2) (fun h => h) (fun h => h)).keep HK6.out (fun h => by have := hRne.out; rcases h with h | h <;> omega) (fun h => by have := hRne.out; rcases h with h | h <;> omega)
          have y2 : W6.cell? ⟨w.heap.size, 0, none⟩ = some (.pointer none) := cell_one hrc6.1
          have y3 : W6.cell? ⟨w.heap.size + 1, 0, none⟩ = some .nilIface := cell_one hrc6.2
          have f2 : W6.frozen? ⟨w.heap.size, 0, none⟩ = false := frozen_one hrc6.1
          have f3 : W6.frozen? ⟨w.heap.size + 1, 0, none⟩ = false := frozen_one hrc6.2
          have H6 := Lib.hid (And.intro hrc6 (And.intro hno hno0))
          clear hR6 hm6 hno hno0 hk6 hrc6
          gi_wp2_with fail
          refine (callsIn_wide.2 CF.out).mono ?_
          rintro e V3 ⟨rfl, rfl⟩
          have HLP := Lib.hid hlp
          clear hlp
          gi_wp2
          obtain ⟨hrc6, hno, hno0⟩ := H6.out
          obtain ⟨hx, hy, hln, hR, hrp, hle, hmu, hk⟩ := HX.out
          obtain ⟨_, hrd, hro, hrc, hok, hlen, hbW, hDd, hD, hnn⟩ := HD.out
          have he : errP no ln = .iface 136 (.agg #[.int .i64 (no : Nat), .int .i64 (ln : Nat), .int .i64 0]) := by
            unfold errP
            rw [if_neg (by have := HLP.out; omega)]
          rw [← he]
          have hd3 : V3.heap[D]? = some (.deferred (some [])) := HK6.out.heap ((HLL.out.2.2.2.2.block D (Array.getElem?_eq_some_iff.1 hDd).1).trans hDd) (fun h => by have := hRne.out; rcases h with h | h <;> omega)
          have hb3 : Below w.heap.size w V3 := (hbW.trans (HLL.out.2.2.2.2.mono hbW.size)).trans (HK6.out.below (by have := hbW.size; have := HLL.out.2.2.2.2.size; omega) (fun b h => by have := hRne.out; rcases h with h | h <;> omega))
          refine ends_at (Ds := [D]) (by simp) rfl rfl (set_old (set_at hrc6.1) (by omega)) (set_at (set_old hrc6.2 (by omega))) (fun D' h => by simp at h; subst h; exact set_old (set_old hd3 (by omega)) (by omega)) (fun W' hk9 => ?_)
          have hrb := ringP_bad hx hrp hno hno0
          rw [hln] at hrb
          refine ⟨no, ln, S, L, .inr (.inr ⟨by rw [HNL.out]; exact HB.out.1, by rw [hrd], by rw [hrd], HLL.out.1, HLL.out.2.1, by rw [HLL.out.2.2.2.1, hrb], by rw [HLL.out.2.2.2.1, hrb]; rfl⟩), ?_, .inr ⟨hno0, rfl⟩⟩
          have k2 : Keep (fun b => b = w.heap.size ∨ b = w.heap.size + 1) V3 ((V3.setCell ⟨w.heap.size, 0, none⟩ (.pointer none)).setCell ⟨w.heap.size + 1, 0, none⟩ (errP no ln)) :=
            Keep.setCell (X := fun b => b = w.heap.size ∨ b = w.heap.size + 1) (p := ⟨w.heap.size + 1, 0, none⟩) (Keep.setCell (X := fun b => b = w.heap.size ∨ b = w.heap.size + 1) (p := ⟨w.heap.size, 0, none⟩) (Keep.refl _ _) (.inl rfl) _) (.inr rfl) _
          exact (hb3.trans (k2.below hb3.size (fun b h => by omega))).trans (hk9.below (by have := hb3.size; have := k2.size; omega) (fun b h => by simp at h; omega))
      · have hiN : i = N := by omega
        subst hiN
        have HX := Lib.hid (And.intro hR (And.intro hrp (And.intro hle (And.intro hmu hk))))
        clear hR hrp hle hmu hk
        have CPR := Lib.hid (pprops wr HX.out.1 (show RdOk nn { S with le := _ } from ⟨HD.out.2.2.2.2.1.cs, HD.out.2.2.2.2.1.ks, HD.out.2.2.2.2.1.ds, HD.out.2.2.2.2.1.fs, HD.out.2.2.2.2.1.ls⟩) HD.out.2.2.2.2.2.1 (by have := HD.out.2.2.2.2.2.1; omega))
        gi_wp2_with fail
        refine (callsIn_wide.2 CPR.out).mono ?_
        rintro e W7 ⟨g, L', rfl, hp', hm', hPW, hb7⟩
        have hLL : L' = L := rise_eq hp' HLL.out.1 (fun y => (hm' y).trans (HLL.out.2.1 y).symm)
        subst hLL
        have hPW2 := hPW.le
        have hk7 : Keep (fun b => b = R.g ∨ b = R.bn) W4 W7 := HX.out.2.2.2.2.trans (Keep.of_all hb7)
        have hrc7 : ResC w.heap.size W7 := (HD.out.2.2.2.1.keep (X := fun _ => False) (Keep.of_all HLL.out.2.2.2.2) (fun h => h) (fun h => h)).keep hk7 (fun h => by have := hRne.out; rcases h with h | h <;> omega) (fun h => by have := hRne.out; rcases h with h | h <;> omega)
        have y2 : W7.cell? ⟨w.heap.size, 0, none⟩ = some (.pointer none) := cell_one hrc7.1
        have y3 : W7.cell? ⟨w.heap.size + 1, 0, none⟩ = some .nilIface := cell_one hrc7.2
        have f2 : W7.frozen? ⟨w.heap.size, 0, none⟩ = false := frozen_one hrc7.1
        have f3 : W7.frozen? ⟨w.heap.size + 1, 0, none⟩ = false := frozen_one hrc7.2
        have H7 := Lib.hid (And.intro hPW2 (And.intro hk7 hrc7))
        clear hp' hm' hPW hb7 hPW2 hk7 hrc7
        gi_wp2
        obtain ⟨hPW2, hk7, hrc7⟩ := H7.out
        obtain ⟨_, hrd, hro, hrc, hok, hlen, hbW, hDd, hD, hnn⟩ := HD.out
        have hd3 : W7.heap[D]? = some (.deferred (some [])) := hk7.heap ((HLL.out.2.2.2.2.block D (Array.getElem?_eq_some_iff.1 hDd).1).trans hDd) (fun h => by have := hRne.out; rcases h with h | h <;> omega)
        have hb3 : Below w.heap.size w W7 := (hbW.trans (HLL.out.2.2.2.2.mono hbW.size)).trans (hk7.below (by have := hbW.size; have := HLL.out.2.2.2.2.size; omega) (fun b h => by have := hRne.out; rcases h with h | h <;> omega))
        refine ends_at (Ds := [D]) (by simp) rfl rfl (set_old (set_at hrc7.1) (by omega)) (set_at (set_old hrc7.2 (by omega))) (fun D' h => by simp at h; subst h; exact set_old (set_old hd3 (by omega)) (by omega)) (fun W' hk9 => ?_)
        have ht : L'.take i = L' := by rw [← HLL.out.2.2.2.1]; exact List.take_length
        have hrb := HX.out.2.1
        rw [ht] at hrb
        have k2 : Keep (fun b => b = w.heap.size ∨ b = w.heap.size + 1 ∨ b = D) W7 ((W7.setCell ⟨w.heap.size, 0, none⟩ (.pointer (some ⟨g, 0, none⟩))).setCell ⟨w.heap.size + 1, 0, none⟩ .nilIface) :=
          Keep.setCell (X := fun b => b = w.heap.size ∨ b = w.heap.size + 1 ∨ b = D) (p := ⟨w.heap.size + 1, 0, none⟩) (Keep.setCell (X := fun b => b = w.heap.size ∨ b = w.heap.size + 1 ∨ b = D) (p := ⟨w.heap.size, 0, none⟩) (Keep.refl _ _) (.inl rfl) _) (.inr (.inl rfl)) _
        have k3 := k2.trans (hk9.weaken (fun b _ h => by simp at h; exact .inr (.inr h)))
        have hrl : (ringP S (i + 1) L' fun _ => none).2 = (ringP S (i + 1) L' fun _ => none).2 := rfl
        refine ⟨0, (ringP S (L'.length + 1) L' fun _ => none).2, S, L', .inr (.inr ⟨by rw [HNL.out]; exact HB.out.1, by rw [hrd], by rw [hrd], HLL.out.1, HLL.out.2.1, by rw [HLL.out.2.2.2.1]; exact hrb.symm, rfl⟩), hb3.trans (k3.below hb3.size (fun b h => by omega)), .inl ⟨rfl, g, rfl, hPW2.alien k3 (fun b hb => ?_)⟩⟩
        rcases hb with rfl | rfl | rfl
        · exact alien_one hrc7.1 (by decide) (fun _ _ h => by cases h)
        · exact alien_one hrc7.2 (by decide) (fun _ _ h => by cases h)
        · exact alien_def hd3
end Go.Proofs.YtcfhblbmpbfoaaaGreatDoor
namespace Go.Proofs.YtcfhblbmpbfoaaaGreatDoor
open Go Go.RowKit Go.Kt Go.Kt.Rg Go.Maps

theorem NewZ.sl {H : Nat} {l : List Int} {e : Ending} {w : World} (h : NewZ H l e w) : ∃ v, e = .returned v ∧ Sl .i32 w v l := by
  obtain ⟨ao, cp, rfl, ho⟩ := h
  refine ⟨_, rfl, ao, cp, rfl, ?_⟩
  rcases ho.shape with ⟨hv, h0⟩ | ⟨gb, cap, hv, hg, hgl⟩
  · exact .inl (List.length_eq_zero_iff.1 h0)
  · cases hv
    refine .inr ⟨gb, 0, rfl, fun i x hx => ?_⟩
    rw [Nat.zero_add]
    refine ho.at0 (i := i) ?_
    simp [encZ, List.getElem?_map, hx]
def PrOk (g : Nat) (l : List UInt8) (S : RdS) (L : List Nat) (w : World) : Prop := ParseR l 0 (ringP S (L.length + 1) L fun _ => none).2 S L ∧ PrW g S (mdOf S L) w
theorem ParseR.ok {l : List UInt8} {line : Nat} {S : RdS} {L : List Nat} (h : ParseR l 0 line S L) : S = (readP 0 rd0 (linesP l)).2.2 ∧ (readP 0 rd0 (linesP l)).1 = 0 ∧ RdOk 65536 S ∧ L.Pairwise (· < ·) ∧ (∀ x, x ∈ L ↔ (S.ds x).isSome = true) := by
  rcases h with ⟨_, h, _⟩ | ⟨_, h1, h2, _⟩ | ⟨h0, h1, h2, h3, h4, _⟩
  · cases h
  · exact absurd h2.symm h1
  · refine ⟨h2, h1, ?_, h3, h4⟩
    have := readP_ok (linesP l) 0 0 rd0 rd0_ok h1
    rw [← h2, Nat.zero_add, linesP_len] at this
    exact this.mono (Nat.le_of_not_lt fun h => h0 (.inr h))

def fileW : List UInt8 := [99, 108, 97, 115, 115, 32, 48, 51, 48, 48, 32, 50, 51, 48, 10, 107, 105, 110, 100, 32, 48, 48, 52, 49, 32, 108, 101, 116, 116, 101, 114, 10, 102, 111, 108, 100, 32, 48, 48, 52, 49, 32, 48, 48, 54, 49, 10, 100, 101, 99, 111, 109, 112, 32, 48, 48, 67, 48, 32, 48, 48, 52, 49, 32, 48, 51, 48, 48]
def rdW : RdS := ⟨[(768, 768, 230)], [(65, 65, 1)], updN (fun _ => none) 192 [65, 768], updN (fun _ => none) 65 [97], updN (fun _ => none) 192 4, fun _ => none⟩
end Go.Proofs.YtcfhblbmpbfoaaaGreatDoor
namespace Go.Proofs.YtcfhblbmpbfoaaaGreatDoor
open Go Go.RowKit Go.Kt Go.Kt.Rg Go.Maps

theorem lastV_append (l m : List Rw3) (e : Nat) : lastV (l ++ m) e = match lastV m e with | some v => some v | none => lastV l e := by
  induction l with
  | nil => cases h : lastV m e <;> simp [lastV, h]
  | cons x t ih =>
    rw [List.cons_append, lastV, ih]
    cases h : lastV m e with
    | some v => rfl
    | none => simp only [lastV]
theorem clsV_han (S : RdS) {a : Int} (h : hanP a = true) : clsV S a = 0 := by
  have h0 : 4352 ≤ a ∧ a < 55204 ∧ ((44032 ≤ a ∧ a < 55204) ∨ (4352 ≤ a ∧ a < 4371) ∨ (4449 ≤ a ∧ a < 4470) ∨ (4520 ≤ a ∧ a < 4547)) := by
    simp [hanP, sylP, leadP, vowP, tailP] at h
    omega
  unfold clsV
  rw [if_neg (by omega)]
  obtain ⟨e, he⟩ : ∃ e : Nat, a = (e : Int) := ⟨a.toNat, by omega⟩
  subst he
  rw [Int.toNat_natCast, lastV_append]
  have hn : lastV noR e = none := lastV_none.2 (by intro x hx; simp [noR] at hx; subst hx; simp [holdsR]; omega)
  rw [hn]
  simp only
  rw [lastV_append]
  have hh : lastV hanR e = some 0 := by
    simp only [hanR, lastV, holdsR]
    by_cases c4 : 4520 ≤ e ∧ e ≤ 4546
    · simp [c4]
    · by_cases c3 : 4449 ≤ e ∧ e ≤ 4469
      · simp [c4, c3]
      · by_cases c2 : 4352 ≤ e ∧ e ≤ 4370
        · simp [c4, c3, c2]
        · have c1 : 44032 ≤ e ∧ e ≤ 55203 := by omega
          simp [c4, c3, c2, c1]
  rw [hh]
  rfl
theorem mdStep_two {S : RdS} {md : MdT} {x a b : Nat} (h : S.ds x = some [a, b]) : mdStep S md x = if clsV S (a : Int) ≠ 0 then md else if (md a b).isSome then md else updP md a b x := by
  unfold mdStep
  rw [h]
theorem mdStep_no {S : RdS} {md : MdT} {x : Nat} (h : ∀ a b, S.ds x ≠ some [a, b]) : mdStep S md x = md := by
  unfold mdStep
  split
  · rename_i h9; exact absurd h9 (h _ _)
  · rfl
theorem mdOf_spec (S : RdS) {L : List Nat} (hL : L.Pairwise (· < ·)) : ∀ i, i ≤ L.length →
    (∀ x y r, mdOf S (L.take i) x y = some r → ∃ (a b j : Nat), x = (a : Int) ∧ y = (b : Int) ∧ S.ds r = some [a, b] ∧ clsV S (a : Int) = 0 ∧ j < i ∧ L[j]? = some r) ∧
    (∀ (j r a b : Nat), j < i → L[j]? = some r → S.ds r = some [a, b] → clsV S (a : Int) = 0 → ∃ c, mdOf S (L.take i) (a : Int) (b : Int) = some c ∧ c ≤ r)
  | 0, _ => ⟨fun x y r h => by simp [mdOf] at h, fun j r a b h => absurd h (by omega)⟩
  | i + 1, hi => by
    obtain ⟨h1, h2⟩ := mdOf_spec S hL i (by omega)
    obtain ⟨x, hx⟩ : ∃ x, L[i]? = some x := ⟨_, List.getElem?_eq_getElem (by omega)⟩
    rw [mdOf_snoc S hx]
    have up1 : ∀ x y r, mdOf S (L.take i) x y = some r → ∃ (a b j : Nat), x = (a : Int) ∧ y = (b : Int) ∧ S.ds r = some [a, b] ∧ clsV S (a : Int) = 0 ∧ j < i + 1 ∧ L[j]? = some r := fun u v r h => by
      obtain ⟨a, b, j, e1, e2, e3, e4, e5, e6⟩ := h1 u v r h
      exact ⟨a, b, j, e1, e2, e3, e4, by omega, e6⟩
    by_cases hx2 : ∃ a0 b0, S.ds x = some [a0, b0]
    · obtain ⟨a0, b0, hds⟩ := hx2
      rw [mdStep_two hds]
      by_cases hc : clsV S (a0 : Int) ≠ 0
      · rw [if_pos hc]
        refine ⟨up1, fun j r a b hj hr hd hcl => ?_⟩
        by_cases e : j = i
        · subst e
          rw [hx] at hr
          cases hr
          rw [hds] at hd
          cases hd
          exact absurd hcl hc
        · exact h2 j r a b (by omega) hr hd hcl
      · rw [if_neg hc]
        have hc0 : clsV S (a0 : Int) = 0 := by simpa using hc
        cases hm : mdOf S (L.take i) (a0 : Int) (b0 : Int) with
        | some c =>
          simp only [Option.isSome_some, if_true]
          refine ⟨up1, fun j r a b hj hr hd hcl => ?_⟩
          by_cases e : j = i
          · subst e
            rw [hx] at hr
            cases hr
            rw [hds] at hd
            cases hd
            refine ⟨c, hm, ?_⟩
            obtain ⟨_, _, j', _, _, _, _, h5, h6⟩ := h1 _ _ _ hm
            have q1 := List.getElem?_eq_some_iff.1 h6
            have q2 := List.getElem?_eq_some_iff.1 hx
            have := (List.pairwise_iff_getElem.1 hL) j' j q1.1 q2.1 h5
            rw [q1.2, q2.2] at this
            omega
          · exact h2 j r a b (by omega) hr hd hcl
        | none =>
          simp only [Option.isSome_none, Bool.false_eq_true, if_false]
          refine ⟨fun u v r h => ?_, fun j r a b hj hr hd hcl => ?_⟩
          · unfold updP at h
            by_cases e : u = (a0 : Int) ∧ v = (b0 : Int)
            · rw [if_pos e] at h
              cases h
              exact ⟨a0, b0, i, e.1, e.2, hds, hc0, by omega, hx⟩
            · rw [if_neg e] at h
              exact up1 u v r h
          · unfold updP
            by_cases e : (a : Int) = (a0 : Int) ∧ (b : Int) = (b0 : Int)
            · rw [if_pos e]
              refine ⟨x, rfl, ?_⟩
              by_cases e2 : j = i
              · subst e2; rw [hx] at hr; cases hr; exact Nat.le_refl _
              · obtain ⟨c, hc9, _⟩ := h2 j r a b (by omega) hr hd hcl
                rw [e.1, e.2, hm] at hc9
                cases hc9
            · rw [if_neg e]
              by_cases e2 : j = i
              · subst e2
                rw [hx] at hr
                cases hr
                rw [hds] at hd
                cases hd
                exact absurd ⟨rfl, rfl⟩ e
              · exact h2 j r a b (by omega) hr hd hcl
    · have hno : ∀ a b, S.ds x ≠ some [a, b] := fun a b h => hx2 ⟨a, b, h⟩
      rw [mdStep_no hno]
      refine ⟨up1, fun j r a b hj hr hd hcl => ?_⟩
      by_cases e : j = i
      · subst e
        rw [hx] at hr
        cases hr
        exact absurd hd (hno a b)
      · exact h2 j r a b (by omega) hr hd hcl
theorem md_some {S : RdS} {L : List Nat} (hL : L.Pairwise (· < ·)) {x y : Int} {r : Nat} (h : mdOf S L x y = some r) : ∃ (a b : Nat), x = (a : Int) ∧ y = (b : Int) ∧ S.ds r = some [a, b] ∧ clsV S (a : Int) = 0 := by
  have := (mdOf_spec S hL L.length (Nat.le_refl _)).1 x y r (by rw [List.take_length]; exact h)
  obtain ⟨a, b, _, e1, e2, e3, e4, _⟩ := this
  exact ⟨a, b, e1, e2, e3, e4⟩
theorem parts_two (n : Nat) (h : n % 28 = 0) : partsP n = [4352 + n / 28 / 21, 4449 + n / 28 % 21] := by simp [partsP, h]
theorem parts_three (n : Nat) (h : ¬ n % 28 = 0) : partsP n = [4352 + n / 28 / 21, 4449 + n / 28 % 21, 4519 + n % 28] := by simp [partsP, h]
theorem dcp_syl {S : RdS} {r : Int} (h1 : 44032 ≤ r) (h2 : r ≤ 55203) : dcpV S r = partsP (r - 44032).toNat := by
  unfold dcpV
  rw [if_pos (by simp [sylP]; omega)]
theorem dcp_no {S : RdS} {r : Int} (h : r < 44032 ∨ 55203 < r) : dcpV S r = (atZ S.ds r).getD [] := by
  unfold dcpV
  rw [if_neg (by simp [sylP]; omega)]
theorem cmpV_none {md : MdT} {a b : Int} (h : synP a b = none) : cmpV md a b = (md a b).map (fun x : Nat => (x : Int)) := by
  unfold cmpV
  rw [h]
  cases md a b <;> rfl
theorem cmp_ok {k : Nat} {S : RdS} {L : List Nat} (hS : RdOk k S) (hL : L.Pairwise (· < ·)) {a b r : Int} (h : cmpV (mdOf S L) a b = some r) :
    clsV S a = 0 ∧ I32 r ∧ (((r < 44032 ∨ 55203 < r ∨ a < 44032 ∨ 55203 < a) ∧ toZ (dcpV S r) = [a, b]) ∨ (¬ (r < 44032 ∨ 55203 < r ∨ a < 44032 ∨ 55203 < a) ∧ dcpV S a ≠ [] ∧ toZ (dcpV S r) = toZ (dcpV S a) ++ [b])) := by
  have hC := h
  unfold cmpV at h
  unfold synP at h
  by_cases h1 : (leadP a && vowP b) = true
  · rw [if_pos h1] at h
    simp only [Option.some.injEq] at h
    have hr : 4352 ≤ a ∧ a < 4371 ∧ 4449 ≤ b ∧ b < 4470 := by
      simp [leadP, vowP] at h1
      omega
    obtain ⟨m, hm⟩ : ∃ m : Nat, a = 4352 + (m : Int) := ⟨(a - 4352).toNat, by omega⟩
    obtain ⟨n, hn⟩ : ∃ n : Nat, b = 4449 + (n : Int) := ⟨(b - 4449).toNat, by omega⟩
    subst hm; subst hn
    have e9 : (4352 + (m : Int) - 4352) * 21 + (4449 + (n : Int)) - 4449 = ((m * 21 + n : Nat) : Int) := by omega
    rw [e9] at h
    subst h
    refine ⟨clsV_han S (by simp [hanP, leadP]; omega), ⟨by omega, by omega⟩, .inl ⟨by omega, ?_⟩⟩
    rw [dcp_syl (by omega) (by omega), show ((44032 + ((m * 21 + n : Nat) : Int) * 28) - 44032).toNat = (m * 21 + n) * 28 by omega, parts_two _ (by omega)]
    rw [show (m * 21 + n) * 28 / 28 / 21 = m by omega, show (m * 21 + n) * 28 / 28 % 21 = n by omega]
    simp [toZ]
  · rw [if_neg h1] at h
    by_cases h2 : (sylP a && decide ((a - 44032) % 28 = 0) && tailP b) = true
    · rw [if_pos h2] at h
      simp only [Option.some.injEq] at h
      have hr : 44032 ≤ a ∧ a < 55204 ∧ (a - 44032) % 28 = 0 ∧ 4520 ≤ b ∧ b < 4547 := by
        simp [sylP, tailP] at h2
        omega
      obtain ⟨m, hm⟩ : ∃ m : Nat, a = 44032 + ((28 * m : Nat) : Int) := ⟨((a - 44032) / 28).toNat, by omega⟩
      obtain ⟨n, hn⟩ : ∃ n : Nat, b = 4520 + (n : Int) := ⟨(b - 4520).toNat, by omega⟩
      subst hm; subst hn
      have e9 : 44032 + ((28 * m : Nat) : Int) + 1 + (4520 + (n : Int)) - 4520 = 44032 + ((28 * m + n + 1 : Nat) : Int) := by omega
      rw [e9] at h
      subst h
      have d1 : dcpV S (44032 + ((28 * m + n + 1 : Nat) : Int)) = [4352 + m / 21, 4449 + m % 21, 4519 + (n + 1)] := by
        rw [dcp_syl (by omega) (by omega), show (44032 + ((28 * m + n + 1 : Nat) : Int) - 44032).toNat = 28 * m + n + 1 by omega, parts_three _ (by omega)]
        rw [show (28 * m + n + 1) / 28 = m by omega, show (28 * m + n + 1) % 28 = n + 1 by omega]
      have d2 : dcpV S (44032 + ((28 * m : Nat) : Int)) = [4352 + m / 21, 4449 + m % 21] := by
        rw [dcp_syl (by omega) (by omega), show (44032 + ((28 * m : Nat) : Int) - 44032).toNat = 28 * m by omega, parts_two _ (by omega)]
        rw [show 28 * m / 28 = m by omega]
      refine ⟨clsV_han S (by simp [hanP, sylP]; omega), ⟨by omega, by omega⟩, .inr ⟨by omega, ?_, ?_⟩⟩
      · rw [d2]
        simp
      · rw [d1, d2]
        simp [toZ]
        omega
    · rw [if_neg h2] at h
      obtain ⟨z, hz, rfl⟩ : ∃ z, mdOf S L a b = some z ∧ (z : Int) = r := by
        rw [cmpV_none (by unfold synP; rw [if_neg h1, if_neg h2])] at hC
        replace h := hC
        cases hz : mdOf S L a b with
        | none => rw [hz] at h; cases h
        | some z => rw [hz] at h; cases h; exact ⟨z, rfl, rfl⟩
      obtain ⟨x, y, rfl, rfl, hd, hc⟩ := md_some hL hz
      obtain ⟨⟨v1, v2⟩, _, _⟩ := hS.ds z _ hd
      have hzl := valid_le v1
      have hns : (z : Int) < 44032 ∨ 55203 < (z : Int) := by
        simp [hanP, sylP] at v2
        omega
      refine ⟨hc, ⟨by omega, by omega⟩, .inl ⟨by omega, ?_⟩⟩
      rw [dcp_no hns, atZ_nat, hd]
      simp [toZ]
end Go.Proofs.YtcfhblbmpbfoaaaGreatDoor
