/- props: Parse: what is kept while lines come. -/
import Derived.Test.YthhepebkfokddaaGreatDoorUo
import Derived.Test.YthhepebkfokddaaGreatDoorGz12
namespace Go.Proofs.YthhepebkfokddaaGreatDoor
open Go Go.RowKit Go.Kt Go.Kt.Rg Go.Maps

section
variable {B0 : Nat} {ρ : Nat → Nat} {R : RdB} {line n m : Nat} {S : RdS} {cv kv : Value} {w w' : World}
/-- What writes blocks alone that are not the reader's. -/
theorem RdW.keep9 {X : Nat → Prop} (h : RdW B0 ρ R line n m S cv kv w) (hk : Keep X w w') (hX : ∀ b, X b → ρ b = 9) : RdW B0 ρ R line n m S cv kv w' where
  hr := h.hr
  hB := Nat.le_trans h.hB hk.size
  g := h.g
  cell := hk.heap h.cell (fun e => by have := hX _ e; have := h.g; omega)
  c := h.c.keep hk (fun b hb hy => by have := hX b hb; have hy : ρ b = 2 := hy; omega)
  k := h.k.keep hk (fun b hb hy => by have := hX b hb; have hy : ρ b = 3 := hy; omega)
  d := h.d.keep hk (fun b hb => by have := hX b hb; omega)
  f := h.f.keep hk (fun b hb => by have := hX b hb; omega)
  l := ⟨h.l.1, h.l.2.keep hk (fun e => by have := hX _ e; have := h.l.1; omega)⟩
  e := ⟨h.e.1, h.e.2.keep hk (fun e => by have := hX _ e; have := h.e.1; omega)⟩
  s := ⟨h.s.1, h.s.2.keep hk (fun e => by have := hX _ e; have := h.s.1; omega)⟩
/-- The line that is looked at. -/
theorem RdW.setline (h : RdW B0 ρ R line n m S cv kv w) (l2 : Nat) : RdW B0 ρ R l2 n m S cv kv (w.setCell ⟨R.g, 1, none⟩ (.int .i64 (l2 : Nat))) ∧ Keep (fun b => b = R.g) w (w.setCell ⟨R.g, 1, none⟩ (.int .i64 (l2 : Nat))) := by
  have hk : Keep (fun b => b = R.g) w (w.setCell ⟨R.g, 1, none⟩ (.int .i64 (l2 : Nat))) := Keep.setCell (X := fun b => b = R.g) (p := ⟨R.g, 1, none⟩) (Keep.refl _ _) rfl _
  have hg := h.g
  refine ⟨{
    hr := h.hr, hB := Nat.le_trans h.hB hk.size, g := h.g
    cell := by
      have := heap_setCell_same w R.g 1 _ _ (.int .i64 (l2 : Nat)) h.cell
      simpa [cellsR] using this
    c := h.c.keep hk (fun b hb hy => by subst hb; have hy : ρ R.g = 2 := hy; omega)
    k := h.k.keep hk (fun b hb hy => by subst hb; have hy : ρ R.g = 3 := hy; omega)
    d := h.d.keep hk (fun b hb => by subst hb; omega)
    f := h.f.keep hk (fun b hb => by subst hb; omega)
    l := ⟨h.l.1, h.l.2.keep hk (fun e => by have := h.l.1; rw [e] at this; omega)⟩
    e := ⟨h.e.1, h.e.2.keep hk (fun e => by have := h.e.1; rw [e] at this; omega)⟩
    s := ⟨h.s.1, h.s.2.keep hk (fun e => by have := h.s.1; rw [e] at this; omega)⟩ }, hk⟩
/-- Blocks that are not there yet may have any role from B0 on. -/
theorem RdW.recast (h : RdW B0 ρ R line n m S cv kv w) (ρ' : Nat → Nat) (e : ∀ b, b < w.heap.size → ρ' b = ρ b) : RdW B0 ρ' R line n m S cv kv w :=
  h.role e (fun _ hb _ => Nat.le_trans h.hB hb)
end
set_option maxRecDepth 100000 in
theorem RdW.lnl {B0 : Nat} {ρ : Nat → Nat} {R : RdB} {line n m : Nat} {S : RdS} {cv kv : Value} {w : World} (h : RdW B0 ρ R line n m S cv kv w) {x ln : Nat} (hx : x ≤ 1114111) (hl : S.ls x = some ln) :
    (Instr.lookup 55 (.map (some R.bl)) (.int .i32 (x : Nat)) false).run Tryz.prog w = .ok (.int .i64 (ln : Nat)) w := by
  have hkey : keyOf Tryz.prog 21 (.int .i32 (x : Nat)) = some (.int .i32 (x : Nat)) := keyOf_int_mk Tryz.underlying21 (WalkArith.wf_i32 (n := (x : Int)) ⟨by omega, by omega⟩)
  have h1 := h.l.2.look1 (int_keyed Tryz.underlying21) Tryz.underlying55 (z := .int .i64 0) rfl hkey
  rw [ptF_at, lsV, hl] at h1
  exact h1
theorem results_cc {P : Program} {fn : Func} {p q : Tmp} {t1 t2 : TypeId} (h : fn.results = #[.cell p t1, .cell q t2]) (tmps : Array Value) (w : World) (g1 g2 : Nat) (v1 v2 : Value)
    (hp : tmps.getD p undef = .pointer (some ⟨g1, 0, none⟩)) (hg : w.cell? ⟨g1, 0, none⟩ = some v1) (ha : ∀ w, (isAgg t1).run P w = .ok false w)
    (hp2 : tmps.getD q undef = .pointer (some ⟨g2, 0, none⟩)) (hg2 : w.cell? ⟨g2, 0, none⟩ = some v2) (ha2 : ∀ w, (isAgg t2).run P w = .ok false w) :
    (results fn tmps).run P w = .ok (.tuple #[v1, v2]) w := by
  have hp' : tmps[p]?.getD undef = .pointer (some ⟨g1, 0, none⟩) := by simpa using hp
  have hp2' : tmps[q]?.getD undef = .pointer (some ⟨g2, 0, none⟩) := by simpa using hp2
  simp [results, h, hp', hp2', asAddr, loadVar, ha, hg, ha2, hg2]

theorem exec_lookup {P : Program} {o : Oper} {a : Act} {w w' : World} {t : TypeId} {m k : Operand} {b : Bool} {u0 u1 v : Value} (ho : o.op = .lookup t m k b) (hm : a.eval m = u0) (hk : a.eval k = u1) (h : (Instr.lookup t u0 u1 b).run P w = .ok v w') : (execOp a.eval o).run P w = .ok (.value v) w' := by
  unfold execOp; rw [ho]; simp only [hm, hk]; exact run_val h
/-- An error's value: with its line, if it has one. -/
def errP (no line : Nat) : Value := if line = 0 then .iface 46 (.int .i64 (no : Nat)) else .iface 90 (.agg #[.int .i64 (no : Nat), .int .i64 (line : Nat), .int .i64 0])
/-- What a file comes to. -/
def ParseR (l : List UInt8) (no line : Nat) (S : RdS) (L : List Nat) : Prop :=
  ((1048576 < l.length ∨ 65536 < lnC l) ∧ no = 5 ∧ line = 0) ∨
  (¬ (1048576 < l.length ∨ 65536 < lnC l) ∧ (readP 0 rd0 (linesP l)).1 ≠ 0 ∧ no = (readP 0 rd0 (linesP l)).1 ∧ line = (readP 0 rd0 (linesP l)).2.1) ∨
  (¬ (1048576 < l.length ∨ 65536 < lnC l) ∧ (readP 0 rd0 (linesP l)).1 = 0 ∧ S = (readP 0 rd0 (linesP l)).2.2 ∧ L.Pairwise (· < ·) ∧ (∀ x, x ∈ L ↔ (S.ds x).isSome = true) ∧ no = (ringP S (L.length + 1) L (fun _ => none)).1 ∧ line = (ringP S (L.length + 1) L (fun _ => none)).2)
theorem rd_le_none {S : RdS} (h : S.le = fun _ => none) : ({ S with le := fun _ => none } : RdS) = S := by
  rw [← h]
/-- A block that is none of properties'. -/
def Alien (w : World) (b : Nat) : Prop := (∀ o k x, w.cell? ⟨b, o, none⟩ ≠ some (.int k x)) ∧ (∀ es c, w.heap[b]? ≠ some (.map es c)) ∧ ∀ cs, w.heap[b]? ≠ some (.cells cs 100 (0, 0))
theorem RunV.alien {X : Nat → Prop} {w w' : World} {v : Value} {L : List (Nat × Int)} (h : RunV w v L) (hk : Keep X w w') (hX : ∀ b, X b → Alien w b) : RunV w' v L := by
  obtain ⟨ao, cp, rfl, h⟩ := h
  refine ⟨ao, cp, rfl, ?_⟩
  rcases h with h | ⟨g, e, h⟩
  · exact .inl h
  · refine .inr ⟨g, e, fun i r hr => ⟨hk.cell (h i r hr).1 (fun hx => (hX _ hx).1 _ _ _ (h i r hr).1), hk.cell (h i r hr).2 (fun hx => (hX _ hx).1 _ _ _ (h i r hr).2)⟩⟩
theorem MapG.alien {P : Program} {k : TypeId} {b n : Nat} {f : Lit → Option Value} {X : Nat → Prop} {w w' : World} (h : MapG P k b n f w) (hk : Keep X w w') (hX : ∀ b, X b → Alien w b) : MapG P k b n f w' :=
  h.keep hk (fun hx => by
    obtain ⟨D, ⟨es, clock, h1, _⟩, _⟩ := h
    exact (hX _ hx).2.1 _ _ h1)
theorem DecM.alien {ρ : Nat → Nat} {k B n : Nat} {d : Nat → Option (List Nat)} {X : Nat → Prop} {w w' : World} (h : DecM ρ k B n d w) (hk : Keep X w w') (hX : ∀ b, X b → Alien w b) : DecM ρ k B n d w' := by
  obtain ⟨h0, vs, h1, h2, h3⟩ := h
  refine ⟨h0, vs, MapG.alien h1 hk hX, h2, fun x v l hv hl => ?_⟩
  obtain ⟨b, off, cap, rfl, a1, a2, a3, a4, a5⟩ := h3 x v l hv hl
  exact ⟨b, off, cap, rfl, a1, a2, a3, Nat.lt_of_lt_of_le a4 hk.size, fun i y hy => hk.cell (a5 i y hy) (fun hx => (hX _ hx).1 _ _ _ (a5 i y hy))⟩
theorem PrW.alien {g : Nat} {S : RdS} {md : MdT} {X : Nat → Prop} {w w' : World} (h : PrW g S md w) (hk : Keep X w w') (hX : ∀ b, X b → Alien w b) : PrW g S md w' := by
  obtain ⟨B, h⟩ := h
  refine ⟨B, { cell := hk.heap h.cell (fun hx => (hX _ hx).2.2 _ h.cell), c := h.c.alien hk hX, k := h.k.alien hk hX, cp := h.cp, kp := h.kp, d := h.d.alien hk hX, f := h.f.alien hk hX, m := ?_ }⟩
  obtain ⟨f, m1, m2⟩ := h.m
  exact ⟨f, MapG.alien m1 hk hX, m2⟩
theorem PrW.le {g : Nat} {S : RdS} {le : LeT} {L : List Nat} {w : World} (h : PrW g { S with le := le } (mdOf { S with le := le } L) w) : PrW g S (mdOf S L) w := by
  obtain ⟨B, h⟩ := h
  exact ⟨B, { cell := h.cell, c := h.c, k := h.k, cp := h.cp, kp := h.kp, d := h.d, f := h.f, m := h.m }⟩
theorem alien_one {w : World} {b : Nat} {v : Value} {T : TypeId} (h : w.heap[b]? = some (.cells #[v] T (0, 0))) (hT : T ≠ 100) (hv : ∀ k x, v ≠ .int k x) : Alien w b := by
  refine ⟨fun o k x e => ?_, fun es c e => (by rw [h] at e; cases e), fun cs e => (by rw [h] at e; cases e; exact hT rfl)⟩
  rw [Lib.cell_of_heap h] at e
  cases o with
  | zero => exact hv k x (by simpa using e)
  | succ o => simp at e
theorem alien_def {w : World} {b : Nat} {q : Option (List Deferred)} (h : w.heap[b]? = some (.deferred q)) : Alien w b := by
  refine ⟨fun o k x e => ?_, fun es c e => (by rw [h] at e; cases e), fun cs e => (by rw [h] at e; cases e)⟩
  simp [World.cell?, h] at e
theorem unk_len (L : List Nat) (le : LeT) : unk L le ≤ L.length := by
  unfold unk
  exact List.length_filter_le _ _
theorem ringP_snoc {S : RdS} {f : Nat} {L : List Nat} {le : LeT} {i x : Nat} (hx : L[i]? = some x) (h : (ringP S f (L.take i) le).1 = 0) :
    ringP S f (L.take (i + 1)) le = if endN (lenF S.ds f (ringL S f (L.take i) le) x).1 ≠ 0 then (endN (lenF S.ds f (ringL S f (L.take i) le) x).1, (S.ls x).getD 0) else (0, 0) := by
  rw [List.take_add_one, hx]
  simp only [Option.toList_some]
  rw [ringP_append, if_neg (by rw [h]; simp), ringP]
  split <;> rfl
theorem ringL_snoc {S : RdS} {f : Nat} {L : List Nat} {le : LeT} {i x : Nat} (hx : L[i]? = some x) : ringL S f (L.take (i + 1)) le = (lenF S.ds f (ringL S f (L.take i) le) x).2 := by
  rw [List.take_add_one, hx]
  simp only [Option.toList_some]
  have : ∀ (a : List Nat) (le : LeT), ringL S f (a ++ [x]) le = (lenF S.ds f (ringL S f a le) x).2 := by
    intro a
    induction a with
    | nil => intro le; rfl
    | cons y t ih => intro le; rw [List.cons_append, ringL, ringL]; exact ih _
  exact this _ _
theorem ringP_bad {S : RdS} {f : Nat} {L : List Nat} {le : LeT} {i x no : Nat} (hx : L[i]? = some x) (h : (ringP S f (L.take i) le).1 = 0) (hn : endN (lenF S.ds f (ringL S f (L.take i) le) x).1 = no) (h0 : no ≠ 0) :
    ringP S f L le = (no, (S.ls x).getD 0) := by
  have h1 : ringP S f (L.take (i + 1)) le = (no, (S.ls x).getD 0) := by rw [ringP_snoc hx h, hn, if_pos h0]
  have h2 : L = L.take (i + 1) ++ L.drop (i + 1) := (List.take_append_drop _ _).symm
  conv => lhs; rw [h2]
  rw [ringP_append, h1]
  simp only [ne_eq, h0, not_false_eq_true, if_true]
/-- While full decompositions are looked at. -/
def RingI (B0 : Nat) (ρ : Nat → Nat) (R : RdB) (n N : Nat) (L : List Nat) (S : RdS) (cv kv : Value) (W4 : World) (i : Nat) (wr : World) : Prop :=
  ∃ line m, RdW B0 ρ R line n m { S with le := ringL S (N + 1) (L.take i) fun _ => none } cv kv wr ∧ (ringP S (N + 1) (L.take i) fun _ => none).1 = 0 ∧ LeOk (ringL S (N + 1) (L.take i) fun _ => none) ∧ m + 2 * unk L (ringL S (N + 1) (L.take i) fun _ => none) ≤ 2 * N ∧ Keep (fun b => b = R.g ∨ b = R.bn) W4 wr
/-- What Parse answers. -/
def ParseO (l : List UInt8) (w : World) (e : Ending) (w' : World) : Prop :=
  ∃ no line S L, ParseR l no line S L ∧ Below w.heap.size w w' ∧ ((no = 0 ∧ ∃ g, e = .returned (.tuple #[.pointer (some ⟨g, 0, none⟩), .nilIface]) ∧ PrW g S (mdOf S L) w') ∨ (no ≠ 0 ∧ e = .returned (.tuple #[.pointer none, errP no line])))
/-- While lines come: which blocks are whose. -/
def RoleP (B0 H2 bs HL : Nat) (ρ : Nat → Nat) (Y : Nat → Prop) : Prop := (∀ b, ¬ Y b → (b = bs ∨ HL ≤ b) → ρ b = 9) ∧ ∀ b, b < HL → ρ b ≠ 0 → ρ b ≠ 9 → B0 ≤ b ∧ b < H2
/-- The results' cells, as they were made. -/
def ResC (r2 : Nat) (W : World) : Prop := W.heap[r2]? = some (.cells #[.pointer none] 22 (0, 0)) ∧ W.heap[r2 + 1]? = some (.cells #[.nilIface] 24 (0, 0))
theorem ResC.keep {r2 : Nat} {X : Nat → Prop} {W W' : World} (h : ResC r2 W) (hk : Keep X W W') (h1 : ¬ X r2) (h2 : ¬ X (r2 + 1)) : ResC r2 W' := ⟨hk.heap h.1 h1, hk.heap h.2 h2⟩
def LineI (r2 B0 H2 bs HL : Nat) (R : RdB) (pre : List (List UInt8)) (Y : Nat → Prop) (W : World) : Prop :=
  ∃ ρ cv kv S, RdW B0 ρ R pre.length (2 * pre.length) 0 S cv kv W ∧ readP 0 rd0 pre = (0, pre.length, S) ∧ RoleP B0 H2 bs HL ρ Y ∧ ResC r2 W
def LineX (r2 r3 : Nat) (all : List (List UInt8)) (c : Code) (_pre : List (List UInt8)) (_Y : Nat → Prop) (W : World) : Prop :=
  c = .ret ∧ (readP 0 rd0 all).1 ≠ 0 ∧ (readP 0 rd0 all).2.1 ≠ 0 ∧ W.heap[r2]? = some (.cells #[.pointer none] 22 (0, 0)) ∧ W.heap[r3]? = some (.cells #[errP (readP 0 rd0 all).1 (readP 0 rd0 all).2.1] 24 (0, 0))
theorem LineI.low {r2 B0 H2 bs HL : Nat} {R : RdB} (h1 : r2 + 1 < HL) (h2 : r2 + 1 < bs) : LowZ (fun b => b = bs) HL (LineI r2 B0 H2 bs HL R) := fun pre Y W W' hk ⟨ρ, cv, kv, S, a1, a2, a3, a4⟩ =>
  ⟨ρ, cv, kv, S, a1.keep9 hk (fun b hb => a3.1 b hb.2 hb.1), a2, a3, a4.keep hk (fun h => by have := hk.size; rcases h.1 with h | h <;> omega) (fun h => by rcases h.1 with h | h <;> omega)⟩
theorem LineI.slim {r2 B0 H2 bs HL : Nat} {R : RdB} : Slim (LineI r2 B0 H2 bs HL R) := fun pre Y W ⟨ρ, cv, kv, S, h1, h2, h3, h4⟩ => by
  refine ⟨moreR W ρ 9, cv, kv, S, h1.role_more 9, h2, ⟨fun b hb hbs => ?_, fun b hb h0 h9 => ?_⟩, h4⟩
  · by_cases e : b < W.heap.size
    · rw [moreR_old b e]
      exact h3.1 b (fun hy => hb ⟨hy, e⟩) hbs
    · exact moreR_new b (by omega)
  · by_cases e : b < W.heap.size
    · rw [moreR_old b e] at h0 h9
      exact h3.2 b hb h0 h9
    · exact absurd (moreR_new b (by omega)) h9
theorem readP_snoc {pre : List (List UInt8)} {S : RdS} (h : readP 0 rd0 pre = (0, pre.length, S)) (x : List UInt8) : readP 0 rd0 (pre ++ [x]) = if (takeP (pre.length + 1) S (wrdP x)).1 ≠ 0 then ((takeP (pre.length + 1) S (wrdP x)).1, pre.length + 1, S) else (0, pre.length + 1, (takeP (pre.length + 1) S (wrdP x)).2) := by
  rw [readP_append, h]
  simp only [ne_eq, not_true_eq_false, if_false]
  rw [readP]
  split <;> rfl
/-- A line that is wrong ends it. -/
theorem readP_bad {pre t : List (List UInt8)} {S : RdS} {x : List UInt8} (h : readP 0 rd0 pre = (0, pre.length, S)) (hn : (takeP (pre.length + 1) S (wrdP x)).1 ≠ 0) : readP 0 rd0 (pre ++ [x] ++ t) = ((takeP (pre.length + 1) S (wrdP x)).1, pre.length + 1, S) := by
  rw [readP_append, readP_snoc h, if_pos hn]
  simp only [ne_eq, hn, not_false_eq_true, if_true]
end Go.Proofs.YthhepebkfokddaaGreatDoor
