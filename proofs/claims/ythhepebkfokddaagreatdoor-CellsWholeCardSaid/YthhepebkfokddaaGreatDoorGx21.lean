/- Parts of the proof of what the last text says. -/
import Derived.Test.YthhepebkfokddaaGreatDoorUox
import Derived.Test.YthhepebkfokddaaGreatDoorGx3
import Derived.Test.YthhepebkfokddaaGreatDoorGx19
import Derived.Test.YthhepebkfokddaaGreatDoorGx18
import Derived.Test.YthhepebkfokddaaGreatDoorGx16
import Derived.Test.YthhepebkfokddaaGreatDoorGx5
namespace Go.Proofs.YthhepebkfokddaaGreatDoor
open Go Go.RowKit Go.Kt Go.Kt.Rg Go.Maps
section
variable {B0 : Nat} {ρ : Nat → Nat} {R : RdB} {line n m : Nat} {S : RdS} {cv kv : Value} {w w' : World}
theorem RdW.keep9 {X : Nat → Prop} (h : RdW B0 ρ R line n m S cv kv w) (hk : Keep X w w') (hX : ∀ b, X b → ρ b = 9) : RdW B0 ρ R line n m S cv kv w' where
 hr := h.hr
 hB := Nat.le_trans h.hB hk.size
 g := h.g
 cell := hk.heap h.cell (fun e => by have := hX _ e; have := h.g; omega)
 c := h.c.keep hk (fun b hb hy => by have := hX b hb; have hy : ρ b = 2 := hy; omega)
 k := h.k.keep hk (fun b hb hy => by have := hX b hb; have hy : ρ b = 3 := hy; omega)
 d := h.d.keep hk (fun b hb => by have := hX b hb; omega)
 f := h.f.keep hk (fun b hb => by have := hX b hb; omega)
 l := ⟨h.l.1, h.l.2.keep hk (fun e => by have := hX _ e; have := h.l.1; omega)⟩
 e := ⟨h.e.1, h.e.2.keep hk (fun e => by have := hX _ e; have := h.e.1; omega)⟩
 s := ⟨h.s.1, h.s.2.keep hk (fun e => by have := hX _ e; have := h.s.1; omega)⟩
theorem RdW.setline (h : RdW B0 ρ R line n m S cv kv w) (l2 : Nat) : RdW B0 ρ R l2 n m S cv kv (w.setCell ⟨R.g, 1, none⟩ (.int .i64 (l2 : Nat))) ∧ Keep (fun b => b = R.g) w (w.setCell ⟨R.g, 1, none⟩ (.int .i64 (l2 : Nat))) := by
 have hk : Keep (fun b => b = R.g) w (w.setCell ⟨R.g, 1, none⟩ (.int .i64 (l2 : Nat))) := Keep.setCell (X := fun b => b = R.g) (p := ⟨R.g, 1, none⟩) (Keep.refl _ _) rfl _
 have hg := h.g
 refine ⟨{
  hr := h.hr, hB := Nat.le_trans h.hB hk.size, g := h.g
  cell := by
   have := heap_setCell_same w R.g 1 _ _ (.int .i64 (l2 : Nat)) h.cell
   simpa [cellsR] using this
  c := h.c.keep hk (fun b hb hy => by subst hb; have hy : ρ R.g = 2 := hy; omega)
  k := h.k.keep hk (fun b hb hy => by subst hb; have hy : ρ R.g = 3 := hy; omega)
  d := h.d.keep hk (fun b hb => by subst hb; omega)
  f := h.f.keep hk (fun b hb => by subst hb; omega)
  l := ⟨h.l.1, h.l.2.keep hk (fun e => by have := h.l.1; rw [e] at this; omega)⟩
  e := ⟨h.e.1, h.e.2.keep hk (fun e => by have := h.e.1; rw [e] at this; omega)⟩
  s := ⟨h.s.1, h.s.2.keep hk (fun e => by have := h.s.1; rw [e] at this; omega)⟩ }, hk⟩
theorem RdW.recast (h : RdW B0 ρ R line n m S cv kv w) (ρ' : Nat → Nat) (e : ∀ b, b < w.heap.size → ρ' b = ρ b) : RdW B0 ρ' R line n m S cv kv w :=
 h.role e (fun _ hb _ => Nat.le_trans h.hB hb)
end
set_option maxRecDepth 100000 in
theorem RdW.lnl {B0 : Nat} {ρ : Nat → Nat} {R : RdB} {line n m : Nat} {S : RdS} {cv kv : Value} {w : World} (h : RdW B0 ρ R line n m S cv kv w) {x ln : Nat} (hx : x ≤ 1114111) (hl : S.ls x = some ln) :
 (Instr.lookup 55 (.map (some R.bl)) (.int .i32 (x : Nat)) false).run Tryz.prog w = .ok (.int .i64 (ln : Nat)) w := by
 have hkey : keyOf Tryz.prog 21 (.int .i32 (x : Nat)) = some (.int .i32 (x : Nat)) := keyOf_int_mk Tryz.underlying21 (WalkArith.wf_i32 (n := (x : Int)) ⟨by omega, by omega⟩)
 have h1 := h.l.2.look1 (int_keyed Tryz.underlying21) Tryz.underlying55 (z := .int .i64 0) rfl hkey
 rw [ptF_at, lsV, hl] at h1
 exact h1
theorem results_cc {P : Program} {fn : Func} {p q : Tmp} {t1 t2 : TypeId} (h : fn.results = #[.cell p t1, .cell q t2]) (tmps : Array Value) (w : World) (g1 g2 : Nat) (v1 v2 : Value)
 (hp : tmps.getD p undef = .pointer (some ⟨g1, 0, none⟩)) (hg : w.cell? ⟨g1, 0, none⟩ = some v1) (ha : ∀ w, (isAgg t1).run P w = .ok false w)
 (hp2 : tmps.getD q undef = .pointer (some ⟨g2, 0, none⟩)) (hg2 : w.cell? ⟨g2, 0, none⟩ = some v2) (ha2 : ∀ w, (isAgg t2).run P w = .ok false w) :
 (results fn tmps).run P w = .ok (.tuple #[v1, v2]) w := by
 have hp' : tmps[p]?.getD undef = .pointer (some ⟨g1, 0, none⟩) := by simpa using hp
 have hp2' : tmps[q]?.getD undef = .pointer (some ⟨g2, 0, none⟩) := by simpa using hp2
 simp [results, h, hp', hp2', asAddr, loadVar, ha, hg, ha2, hg2]
theorem exec_lookup {P : Program} {o : Oper} {a : Act} {w w' : World} {t : TypeId} {m k : Operand} {b : Bool} {u0 u1 v : Value} (ho : o.op = .lookup t m k b) (hm : a.eval m = u0) (hk : a.eval k = u1) (h : (Instr.lookup t u0 u1 b).run P w = .ok v w') : (execOp a.eval o).run P w = .ok (.value v) w' := by
 unfold execOp; rw [ho]; simp only [hm, hk]; exact run_val h
def errP (no line : Nat) : Value := if line = 0 then .iface 46 (.int .i64 (no : Nat)) else .iface 90 (.agg #[.int .i64 (no : Nat), .int .i64 (line : Nat), .int .i64 0])
def ParseR (l : List UInt8) (no line : Nat) (S : RdS) (L : List Nat) : Prop :=
 ((1048576 < l.length ∨ 65536 < lnC l) ∧ no = 5 ∧ line = 0) ∨
 (¬ (1048576 < l.length ∨ 65536 < lnC l) ∧ (readP 0 rd0 (linesP l)).1 ≠ 0 ∧ no = (readP 0 rd0 (linesP l)).1 ∧ line = (readP 0 rd0 (linesP l)).2.1) ∨
 (¬ (1048576 < l.length ∨ 65536 < lnC l) ∧ (readP 0 rd0 (linesP l)).1 = 0 ∧ S = (readP 0 rd0 (linesP l)).2.2 ∧ L.Pairwise (· < ·) ∧ (∀ x, x ∈ L ↔ (S.ds x).isSome = true) ∧ no = (ringP S (L.length + 1) L (fun _ => none)).1 ∧ line = (ringP S (L.length + 1) L (fun _ => none)).2)
theorem rd_le_none {S : RdS} (h : S.le = fun _ => none) : ({ S with le := fun _ => none } : RdS) = S := by
 rw [← h]
def Alien (w : World) (b : Nat) : Prop := (∀ o k x, w.cell? ⟨b, o, none⟩ ≠ some (.int k x)) ∧ (∀ es c, w.heap[b]? ≠ some (.map es c)) ∧ ∀ cs, w.heap[b]? ≠ some (.cells cs 100 (0, 0))
theorem RunV.alien {X : Nat → Prop} {w w' : World} {v : Value} {L : List (Nat × Int)} (h : RunV w v L) (hk : Keep X w w') (hX : ∀ b, X b → Alien w b) : RunV w' v L := by
 obtain ⟨ao, cp, rfl, h⟩ := h
 refine ⟨ao, cp, rfl, ?_⟩
 rcases h with h | ⟨g, e, h⟩
 ·exact .inl h
 ·refine .inr ⟨g, e, fun i r hr => ⟨hk.cell (h i r hr).1 (fun hx => (hX _ hx).1 _ _ _ (h i r hr).1), hk.cell (h i r hr).2 (fun hx => (hX _ hx).1 _ _ _ (h i r hr).2)⟩⟩
theorem MapG.alien {P : Program} {k : TypeId} {b n : Nat} {f : Lit → Option Value} {X : Nat → Prop} {w w' : World} (h : MapG P k b n f w) (hk : Keep X w w') (hX : ∀ b, X b → Alien w b) : MapG P k b n f w' :=
 h.keep hk (fun hx => by
  obtain ⟨D, ⟨es, clock, h1, _⟩, _⟩ := h
  exact (hX _ hx).2.1 _ _ h1)
theorem DecM.alien {ρ : Nat → Nat} {k B n : Nat} {d : Nat → Option (List Nat)} {X : Nat → Prop} {w w' : World} (h : DecM ρ k B n d w) (hk : Keep X w w') (hX : ∀ b, X b → Alien w b) : DecM ρ k B n d w' := by
 obtain ⟨h0, vs, h1, h2, h3⟩ := h
 refine ⟨h0, vs, MapG.alien h1 hk hX, h2, fun x v l hv hl => ?_⟩
 obtain ⟨b, off, cap, rfl, a1, a2, a3, a4, a5⟩ := h3 x v l hv hl
 exact ⟨b, off, cap, rfl, a1, a2, a3, Nat.lt_of_lt_of_le a4 hk.size, fun i y hy => hk.cell (a5 i y hy) (fun hx => (hX _ hx).1 _ _ _ (a5 i y hy))⟩
theorem PrW.alien {g : Nat} {S : RdS} {md : MdT} {X : Nat → Prop} {w w' : World} (h : PrW g S md w) (hk : Keep X w w') (hX : ∀ b, X b → Alien w b) : PrW g S md w' := by
 obtain ⟨B, h⟩ := h
 refine ⟨B, { cell := hk.heap h.cell (fun hx => (hX _ hx).2.2 _ h.cell), c := h.c.alien hk hX, k := h.k.alien hk hX, cp := h.cp, kp := h.kp, d := h.d.alien hk hX, f := h.f.alien hk hX, m := ?_ }⟩
 obtain ⟨f, m1, m2⟩ := h.m
 exact ⟨f, MapG.alien m1 hk hX, m2⟩
theorem PrW.le {g : Nat} {S : RdS} {le : LeT} {L : List Nat} {w : World} (h : PrW g { S with le := le } (mdOf { S with le := le } L) w) : PrW g S (mdOf S L) w := by
 obtain ⟨B, h⟩ := h
 exact ⟨B, { cell := h.cell, c := h.c, k := h.k, cp := h.cp, kp := h.kp, d := h.d, f := h.f, m := h.m }⟩
theorem alien_one {w : World} {b : Nat} {v : Value} {T : TypeId} (h : w.heap[b]? = some (.cells #[v] T (0, 0))) (hT : T ≠ 100) (hv : ∀ k x, v ≠ .int k x) : Alien w b := by
 refine ⟨fun o k x e => ?_, fun es c e => (by rw [h] at e; cases e), fun cs e => (by rw [h] at e; cases e; exact hT rfl)⟩
 rw [Lib.cell_of_heap h] at e
 cases o with
 | zero => exact hv k x (by simpa using e)
 | succ o => simp at e
theorem alien_def {w : World} {b : Nat} {q : Option (List Deferred)} (h : w.heap[b]? = some (.deferred q)) : Alien w b := by
 refine ⟨fun o k x e => ?_, fun es c e => (by rw [h] at e; cases e), fun cs e => (by rw [h] at e; cases e)⟩
 simp [World.cell?, h] at e
theorem unk_len (L : List Nat) (le : LeT) : unk L le ≤ L.length := by
 unfold unk
 exact List.length_filter_le _ _
theorem ringP_snoc {S : RdS} {f : Nat} {L : List Nat} {le : LeT} {i x : Nat} (hx : L[i]? = some x) (h : (ringP S f (L.take i) le).1 = 0) :
 ringP S f (L.take (i + 1)) le = if endN (lenF S.ds f (ringL S f (L.take i) le) x).1 ≠ 0 then (endN (lenF S.ds f (ringL S f (L.take i) le) x).1, (S.ls x).getD 0) else (0, 0) := by
 rw [List.take_add_one, hx]
 simp only [Option.toList_some]
 rw [ringP_append, if_neg (by rw [h]; simp), ringP]
 split <;> rfl
theorem ringL_snoc {S : RdS} {f : Nat} {L : List Nat} {le : LeT} {i x : Nat} (hx : L[i]? = some x) : ringL S f (L.take (i + 1)) le = (lenF S.ds f (ringL S f (L.take i) le) x).2 := by
 rw [List.take_add_one, hx]
 simp only [Option.toList_some]
 have : ∀ (a : List Nat) (le : LeT), ringL S f (a ++ [x]) le = (lenF S.ds f (ringL S f a le) x).2 := by
  intro a
  induction a with
  | nil => intro le; rfl
  | cons y t ih => intro le; rw [List.cons_append, ringL, ringL]; exact ih _
 exact this _ _
theorem ringP_bad {S : RdS} {f : Nat} {L : List Nat} {le : LeT} {i x no : Nat} (hx : L[i]? = some x) (h : (ringP S f (L.take i) le).1 = 0) (hn : endN (lenF S.ds f (ringL S f (L.take i) le) x).1 = no) (h0 : no ≠ 0) :
 ringP S f L le = (no, (S.ls x).getD 0) := by
 have h1 : ringP S f (L.take (i + 1)) le = (no, (S.ls x).getD 0) := by rw [ringP_snoc hx h, hn, if_pos h0]
 have h2 : L = L.take (i + 1) ++ L.drop (i + 1) := (List.take_append_drop _ _).symm
 conv => lhs; rw [h2]
 rw [ringP_append, h1]
 simp only [ne_eq, h0, not_false_eq_true, if_true]
def RingI (B0 : Nat) (ρ : Nat → Nat) (R : RdB) (n N : Nat) (L : List Nat) (S : RdS) (cv kv : Value) (W4 : World) (i : Nat) (wr : World) : Prop :=
 ∃ line m, RdW B0 ρ R line n m { S with le := ringL S (N + 1) (L.take i) fun _ => none } cv kv wr ∧ (ringP S (N + 1) (L.take i) fun _ => none).1 = 0 ∧ LeOk (ringL S (N + 1) (L.take i) fun _ => none) ∧ m + 2 * unk L (ringL S (N + 1) (L.take i) fun _ => none) ≤ 2 * N ∧ Keep (fun b => b = R.g ∨ b = R.bn) W4 wr
def ParseO (l : List UInt8) (w : World) (e : Ending) (w' : World) : Prop :=
 ∃ no line S L, ParseR l no line S L ∧ Below w.heap.size w w' ∧ ((no = 0 ∧ ∃ g, e = .returned (.tuple #[.pointer (some ⟨g, 0, none⟩), .nilIface]) ∧ PrW g S (mdOf S L) w') ∨ (no ≠ 0 ∧ e = .returned (.tuple #[.pointer none, errP no line])))
def RoleP (B0 H2 bs HL : Nat) (ρ : Nat → Nat) (Y : Nat → Prop) : Prop := (∀ b, ¬ Y b → (b = bs ∨ HL ≤ b) → ρ b = 9) ∧ ∀ b, b < HL → ρ b ≠ 0 → ρ b ≠ 9 → B0 ≤ b ∧ b < H2
def ResC (r2 : Nat) (W : World) : Prop := W.heap[r2]? = some (.cells #[.pointer none] 22 (0, 0)) ∧ W.heap[r2 + 1]? = some (.cells #[.nilIface] 24 (0, 0))
theorem ResC.keep {r2 : Nat} {X : Nat → Prop} {W W' : World} (h : ResC r2 W) (hk : Keep X W W') (h1 : ¬ X r2) (h2 : ¬ X (r2 + 1)) : ResC r2 W' := ⟨hk.heap h.1 h1, hk.heap h.2 h2⟩
def LineI (r2 B0 H2 bs HL : Nat) (R : RdB) (pre : List (List UInt8)) (Y : Nat → Prop) (W : World) : Prop :=
 ∃ ρ cv kv S, RdW B0 ρ R pre.length (2 * pre.length) 0 S cv kv W ∧ readP 0 rd0 pre = (0, pre.length, S) ∧ RoleP B0 H2 bs HL ρ Y ∧ ResC r2 W
def LineX (r2 r3 : Nat) (all : List (List UInt8)) (c : Code) (_pre : List (List UInt8)) (_Y : Nat → Prop) (W : World) : Prop :=
 c = .ret ∧ (readP 0 rd0 all).1 ≠ 0 ∧ (readP 0 rd0 all).2.1 ≠ 0 ∧ W.heap[r2]? = some (.cells #[.pointer none] 22 (0, 0)) ∧ W.heap[r3]? = some (.cells #[errP (readP 0 rd0 all).1 (readP 0 rd0 all).2.1] 24 (0, 0))
theorem LineI.low {r2 B0 H2 bs HL : Nat} {R : RdB} (h1 : r2 + 1 < HL) (h2 : r2 + 1 < bs) : LowZ (fun b => b = bs) HL (LineI r2 B0 H2 bs HL R) := fun pre Y W W' hk ⟨ρ, cv, kv, S, a1, a2, a3, a4⟩ =>
 ⟨ρ, cv, kv, S, a1.keep9 hk (fun b hb => a3.1 b hb.2 hb.1), a2, a3, a4.keep hk (fun h => by have := hk.size; rcases h.1 with h | h <;> omega) (fun h => by rcases h.1 with h | h <;> omega)⟩
theorem LineI.slim {r2 B0 H2 bs HL : Nat} {R : RdB} : Slim (LineI r2 B0 H2 bs HL R) := fun pre Y W ⟨ρ, cv, kv, S, h1, h2, h3, h4⟩ => by
 refine ⟨moreR W ρ 9, cv, kv, S, h1.role_more 9, h2, ⟨fun b hb hbs => ?_, fun b hb h0 h9 => ?_⟩, h4⟩
 ·by_cases e : b < W.heap.size
  ·rw [moreR_old b e]
   exact h3.1 b (fun hy => hb ⟨hy, e⟩) hbs
  ·exact moreR_new b (by omega)
 ·by_cases e : b < W.heap.size
  ·rw [moreR_old b e] at h0 h9
   exact h3.2 b hb h0 h9
  ·exact absurd (moreR_new b (by omega)) h9
theorem readP_snoc {pre : List (List UInt8)} {S : RdS} (h : readP 0 rd0 pre = (0, pre.length, S)) (x : List UInt8) : readP 0 rd0 (pre ++ [x]) = if (takeP (pre.length + 1) S (wrdP x)).1 ≠ 0 then ((takeP (pre.length + 1) S (wrdP x)).1, pre.length + 1, S) else (0, pre.length + 1, (takeP (pre.length + 1) S (wrdP x)).2) := by
 rw [readP_append, h]
 simp only [ne_eq, not_true_eq_false, if_false]
 rw [readP]
 split <;> rfl
theorem readP_bad {pre t : List (List UInt8)} {S : RdS} {x : List UInt8} (h : readP 0 rd0 pre = (0, pre.length, S)) (hn : (takeP (pre.length + 1) S (wrdP x)).1 ≠ 0) : readP 0 rd0 (pre ++ [x] ++ t) = ((takeP (pre.length + 1) S (wrdP x)).1, pre.length + 1, S) := by
 rw [readP_append, readP_snoc h, if_pos hn]
 simp only [ne_eq, hn, not_false_eq_true, if_true]
end Go.Proofs.YthhepebkfokddaaGreatDoor
namespace Go.Proofs.YthhepebkfokddaaGreatDoor
open Go Go.RowKit Go.Kt
def segs (S : RdS) (s : ByteArray) : Nat → CU → List (Nat × Nat) → List (Nat × Nat)
 | f, _, [] => [(f, s.size)]
 | f, c, x :: r => if edgU c (untP S s x.1) = true then (f, x.1) :: segs S s x.1 (untP S s x.1) r else segs S s f (untP S s x.1) r
theorem celF_segs (S : RdS) (s : ByteArray) : ∀ (l : List (Nat × Nat)) (z : List (Nat × Nat) × Nat × CU), (∀ x ∈ l, 0 < x.1) →
 (l.foldl (celStep S s) z).1 ++ [((l.foldl (celStep S s) z).2.1, s.size)] = z.1 ++ segs S s z.2.1 z.2.2 l
 | [], z, _ => rfl
 | x :: r, z, h => by
   rw [List.foldl_cons, celF_segs S s r _ (fun y hy => h y (List.mem_cons_of_mem _ hy))]
   have h0 := h x (List.mem_cons_self ..)
   unfold celStep
   rw [segs]
   by_cases he : edgU z.2.2 (untP S s x.1) = true
   ·rw [if_pos ⟨h0, he⟩, if_pos he, List.append_assoc]; rfl
   ·rw [if_neg (fun h9 => he h9.2), if_neg he]
theorem units_cons (s : ByteArray) (hz : s.size ≠ 0) : ∃ x r, units s = x :: r ∧ x.1 = 0 ∧ ∀ y ∈ r, 0 < y.1 := by
 cases hu : units s with
 | nil => exact absurd (unitsF_nil (show unitsF s s.size 0 = [] from hu) (by omega)) (by omega)
 | cons x r =>
   refine ⟨x, r, rfl, unitsF_head (show unitsF s s.size 0 = x :: r from hu), fun y hy => ?_⟩
   have hp := PL_rise s
   rw [PL_units, hu, List.map_cons] at hp
   have := (List.pairwise_cons.1 hp).1 y.1 (List.mem_map.2 ⟨y, hy, rfl⟩)
   omega
theorem celL_segs (S : RdS) (s : ByteArray) (hz : s.size ≠ 0) : ∃ x r, units s = x :: r ∧ x.1 = 0 ∧ celL S s = segs S s 0 (untP S s 0) r := by
 obtain ⟨x, r, hu, h0, hr⟩ := units_cons s hz
 refine ⟨x, r, hu, h0, ?_⟩
 unfold celL celF
 rw [if_neg hz, hu, List.foldl_cons, celF_segs S s r _ hr]
 unfold celStep
 rw [if_neg (by omega), h0]
 rfl
def bakStep (S : RdS) (s : ByteArray) (z : List (Nat × Nat) × Nat × Nat × CU) (p : Nat × Nat) : List (Nat × Nat) × Nat × Nat × CU :=
 if z.2.1 < s.size ∧ edgU (untP S s p.1) z.2.2.2 = true then (z.1 ++ [(z.2.1, z.2.2.1)], p.1, z.2.1, untP S s p.1) else (z.1, p.1, z.2.2.1, untP S s p.1)
def bakF (S : RdS) (s : ByteArray) (l : List (Nat × Nat)) : List (Nat × Nat) × Nat × Nat × CU := l.foldl (bakStep S s) ([], s.size, s.size, ⟨0, false, false, false, 0⟩)
theorem bakF_snoc (S : RdS) (s : ByteArray) (l : List (Nat × Nat)) (p : Nat × Nat) : bakF S s (l ++ [p]) = bakStep S s (bakF S s l) p := by simp [bakF]
theorem bakF_segs (S : RdS) (s : ByteArray) : ∀ (r : List (Nat × Nat)) (x : Nat × Nat), (∀ y ∈ x :: r, y.1 < s.size) →
 (bakF S s (x :: r).reverse).2.1 = x.1 ∧ (bakF S s (x :: r).reverse).2.2.2 = untP S s x.1 ∧ ∀ f, segs S s f (untP S s x.1) r = (f, (bakF S s (x :: r).reverse).2.2.1) :: (bakF S s (x :: r).reverse).1.reverse
 | [], x, _ => by
   have : bakF S s [x].reverse = ([], x.1, s.size, untP S s x.1) := by
    show bakStep S s ([], s.size, s.size, ⟨0, false, false, false, 0⟩) x = _
    unfold bakStep
    rw [if_neg (fun h => by have := h.1; simp only at this; omega)]
   rw [this]
   exact ⟨rfl, rfl, fun f => rfl⟩
 | y :: r, x, h => by
   obtain ⟨h1, h2, h3⟩ := bakF_segs S s r y (fun q hq => h q (List.mem_cons_of_mem _ hq))
   have hy := h y (by simp)
   have e : (x :: y :: r).reverse = (y :: r).reverse ++ [x] := by simp
   rw [e, bakF_snoc]
   generalize bakF S s (y :: r).reverse = z at *
   unfold bakStep
   rw [h1, h2]
   by_cases he : edgU (untP S s x.1) (untP S s y.1) = true
   ·rw [if_pos ⟨hy, he⟩]
    refine ⟨rfl, rfl, fun f => ?_⟩
    rw [segs, if_pos he, h3 y.1]
    simp
   ·rw [if_neg (fun h9 => he h9.2)]
    refine ⟨rfl, rfl, fun f => ?_⟩
    rw [segs, if_neg he, h3 f]
theorem bakL_eq (S : RdS) (s : ByteArray) (hz : s.size ≠ 0) : (celL S s).reverse = (bakF S s (units s).reverse).1 ++ [(0, (bakF S s (units s).reverse).2.2.1)] := by
 obtain ⟨x, r, hu, h0, hc⟩ := celL_segs S s hz
 have h := (bakF_segs S s r x (fun y hy => (units_dec s s.size 0 y (by rw [show unitsF s s.size 0 = x :: r from hu]; exact hy)).2)).2.2 0
 have e0 : ((x.1 : Nat) : Int) = 0 := by omega
 rw [e0] at h
 rw [hc, h, hu]
 simp
theorem bakF_pre (S : RdS) (s : ByteArray) (l r : List (Nat × Nat)) : (bakF S s l).1 <+: (bakF S s (l ++ r)).1 := by
 induction r generalizing l with
 | nil => rw [List.append_nil]; exact List.prefix_refl _
 | cons p t ih =>
   have h1 : (bakF S s l).1 <+: (bakF S s (l ++ [p])).1 := by
    rw [bakF_snoc]
    unfold bakStep
    split
    ·exact List.prefix_append _ _
    ·exact List.prefix_refl _
   have h2 := ih (l ++ [p])
   rw [List.append_assoc, List.singleton_append] at h2
   exact h1.trans h2
theorem bakL_pre (S : RdS) (s : ByteArray) (l : List (Nat × Nat)) (h : l <+: (units s).reverse) (hs : s.size ≠ 0) : (bakF S s l).1 <+: (celL S s).reverse := by
 obtain ⟨r, hr⟩ := h
 rw [bakL_eq S s hs, ← hr]
 exact (bakF_pre S s l r).trans (List.prefix_append _ _)
theorem bakF_han (S : RdS) (s : ByteArray) (l : List (Nat × Nat)) : 0 ≤ (bakF S s l).2.2.2.han ∧ (bakF S s l).2.2.2.han ≤ 5 := by
 rcases List.eq_nil_or_concat l with rfl | ⟨r, p, rfl⟩
 ·exact ⟨Int.le_refl 0, (by decide : (0 : Int) ≤ 5)⟩
 ·rw [List.concat_eq_append, bakF_snoc]
  unfold bakStep
  split
  ·exact untP_han S s _
  ·exact untP_han S s _
end Go.Proofs.YthhepebkfokddaaGreatDoor
namespace Go.Proofs.YthhepebkfokddaaGreatDoor
open Go Go.RowKit Go.Kt Go.Kt.Rg Go.Maps
abbrev DsT := Nat → Option (List Nat)
def sumO (g : Nat → Option Nat) : List Nat → Option Nat
 | [] => some 0
 | y :: t => match g y, sumO g t with
   | some a, some b => some (a + b)
   | _, _ => none
theorem sumO_some {g : Nat → Option Nat} : ∀ {l : List Nat} {n : Nat}, sumO g l = some n → ∀ y ∈ l, ∃ a, g y = some a
 | [], _, _, y, hy => by cases hy
 | z :: t, n, h, y, hy => by
   rw [sumO] at h
   cases hz : g z with
   | none => rw [hz] at h; cases h
   | some a =>
     cases ht : sumO g t with
     | none => rw [hz, ht] at h; cases h
     | some b =>
       rcases List.mem_cons.1 hy with rfl | hy
       ·exact ⟨a, hz⟩
       ·exact sumO_some ht y hy
theorem sumO_mono {g h : Nat → Option Nat} (hgh : ∀ y a, g y = some a → h y = some a) : ∀ {l : List Nat} {n : Nat}, sumO g l = some n → sumO h l = some n
 | [], _, e => e
 | z :: t, n, e => by
   rw [sumO] at e ⊢
   cases hz : g z with
   | none => rw [hz] at e; cases e
   | some a =>
     cases ht : sumO g t with
     | none => rw [hz, ht] at e; cases e
     | some b =>
       rw [hz, ht] at e
       rw [hgh z a hz, sumO_mono hgh ht]; exact e
def fullN (ds : DsT) : Nat → Nat → Option Nat
 | 0, _ => none
 | f + 1, x => if sylP x then some (partsP (x - 44032)).length else match ds x with
   | none => some 1
   | some l => sumO (fullN ds f) l
theorem fullN_step (ds : DsT) : ∀ (f x n : Nat), fullN ds f x = some n → fullN ds (f + 1) x = some n
 | 0, x, n, h => by cases h
 | f + 1, x, n, h => by
   rw [fullN] at h ⊢
   split
   ·rename_i hs; rw [if_pos hs] at h; exact h
   ·rename_i hs
    rw [if_neg hs] at h
    cases hd : ds x with
    | none => rw [hd] at h; exact h
    | some l => rw [hd] at h; exact sumO_mono (fun y a => fullN_step ds f y a) h
theorem fullN_mono (ds : DsT) {f g x n : Nat} (hfg : f ≤ g) (h : fullN ds f x = some n) : fullN ds g x = some n := by
 obtain ⟨k, rfl⟩ : ∃ k, g = f + k := ⟨g - f, by omega⟩
 clear hfg
 induction k with
 | zero => exact h
 | succ k ih => exact fullN_step ds _ _ _ ih
def EndA (ds : DsT) (x n : Nat) : Prop := ∃ f, fullN ds f x = some n
def NoEnd (ds : DsT) (x : Nat) : Prop := ∀ f, fullN ds f x = none
theorem EndA.uniq {ds : DsT} {x n m : Nat} (h : EndA ds x n) (h2 : EndA ds x m) : n = m := by
 obtain ⟨f, h⟩ := h
 obtain ⟨g, h2⟩ := h2
 have a := fullN_mono ds (Nat.le_max_left f g) h
 have b := fullN_mono ds (Nat.le_max_right f g) h2
 rw [a] at b
 exact Option.some.inj b
theorem EndA.not {ds : DsT} {x n : Nat} (h : EndA ds x n) : ¬ NoEnd ds x := fun h2 => by
 obtain ⟨f, h⟩ := h
 rw [h2 f] at h; cases h
theorem end_or (ds : DsT) (x : Nat) : NoEnd ds x ∨ ∃ n, EndA ds x n := by
 by_cases h : ∃ n, EndA ds x n
 ·exact .inr h
 ·refine .inl fun f => ?_
  cases hf : fullN ds f x with
  | none => rfl
  | some n => exact absurd ⟨n, f, hf⟩ h
def EndS (ds : DsT) (l : List Nat) (n : Nat) : Prop := ∃ f, sumO (fullN ds f) l = some n
theorem ends_nil (ds : DsT) : EndS ds [] 0 := ⟨0, rfl⟩
theorem EndS.cons {ds : DsT} {y a b : Nat} {t : List Nat} (h : EndA ds y a) (ht : EndS ds t b) : EndS ds (y :: t) (a + b) := by
 obtain ⟨f, h⟩ := h
 obtain ⟨g, ht⟩ := ht
 refine ⟨max f g, ?_⟩
 rw [sumO, fullN_mono ds (Nat.le_max_left f g) h, sumO_mono (fun y a => fullN_mono ds (Nat.le_max_right f g)) ht]
theorem EndA.ofL {ds : DsT} {x n : Nat} {l : List Nat} (hs : sylP (x : Int) = false) (hd : ds x = some l) (h : EndS ds l n) : EndA ds x n := by
 obtain ⟨f, h⟩ := h
 exact ⟨f + 1, by rw [fullN, if_neg (by rw [hs]; decide), hd]; exact h⟩
theorem EndA.ofN {ds : DsT} {x : Nat} (hs : sylP (x : Int) = false) (hd : ds x = none) : EndA ds x 1 := ⟨1, by rw [fullN, if_neg (by rw [hs]; decide), hd]⟩
theorem EndA.syl {ds : DsT} {x : Nat} (hs : sylP (x : Int) = true) : EndA ds x (partsP (x - 44032)).length := ⟨1, by rw [fullN, if_pos hs]⟩
theorem NoEnd.up {ds : DsT} {x y : Nat} {l : List Nat} (hs : sylP (x : Int) = false) (hd : ds x = some l) (hy : y ∈ l) (h : NoEnd ds y) : NoEnd ds x := fun f => by
 cases f with
 | zero => rfl
 | succ f =>
   rw [fullN, if_neg (by rw [hs]; decide), hd]
   cases hq : sumO (fullN ds f) l with
   | none => exact hq
   | some n =>
     obtain ⟨a, ha⟩ := sumO_some hq y hy
     rw [h f] at ha; cases ha
inductive Leads (ds : DsT) : Nat → Nat → Prop
 | one {p y : Nat} {l : List Nat} (hs : sylP (p : Int) = false) (hd : ds p = some l) (hy : y ∈ l) : Leads ds p y
 | more {p y z : Nat} {l : List Nat} (h : Leads ds p y) (hs : sylP (y : Int) = false) (hd : ds y = some l) (hz : z ∈ l) : Leads ds p z
theorem one_less {ds : DsT} {p y f n : Nat} {l : List Nat} (hs : sylP (p : Int) = false) (hd : ds p = some l) (hy : y ∈ l) (h : fullN ds f p = some n) : ∃ g, g < f ∧ ∃ m, fullN ds g y = some m := by
 cases f with
 | zero => cases h
 | succ f =>
   rw [fullN, if_neg (by rw [hs]; decide), hd] at h
   exact ⟨f, Nat.lt_succ_self f, sumO_some h y hy⟩
theorem Leads.less {ds : DsT} {p y f n : Nat} (h : Leads ds p y) (hf : fullN ds f p = some n) : ∃ g, g < f ∧ ∃ m, fullN ds g y = some m := by
 induction h with
 | one hs hd hy => exact one_less hs hd hy hf
 | more _ hs hd hz ih =>
   obtain ⟨g, hg, m, hm⟩ := ih
   obtain ⟨g2, hg2, m2, hm2⟩ := one_less hs hd hz hm
   exact ⟨g2, by omega, m2, hm2⟩
theorem Leads.ring {ds : DsT} {x : Nat} (h : Leads ds x x) : NoEnd ds x := by
 have key : ∀ (k f : Nat), f ≤ k → fullN ds f x = none := by
  intro k
  induction k with
  | zero =>
    intro f hf
    obtain rfl : f = 0 := by omega
    rfl
  | succ k ih =>
    intro f hf
    cases hq : fullN ds f x with
    | none => rfl
    | some n =>
      obtain ⟨g, hg, m, hm⟩ := h.less hq
      rw [ih g (by omega)] at hm; cases hm
 exact fun f => key f f (Nat.le_refl _)
/-! ### The program's lengths -/
def LeInv (ds : DsT) (P : List Nat) (le : LeT) : Prop := ∀ x v, le x = some v → (v = -1 ∧ x ∈ P) ∨ (v = -1 ∧ NoEnd ds x) ∨ ∃ n, EndA ds x n ∧ v = (min n 9 : Nat)
def LenR (ds : DsT) (x : Nat) (r : Int) : Prop := (r = -1 ∧ NoEnd ds x) ∨ ∃ n, EndA ds x n ∧ r = (min n 9 : Nat)
theorem LeInv.upd {ds : DsT} {P : List Nat} {le : LeT} (h : LeInv ds P le) (x : Nat) : LeInv ds (x :: P) (updN le x (-1)) := fun y v hv => by
 unfold updN at hv
 by_cases e : y = x
 ·rw [if_pos e] at hv
  exact .inl ⟨(Option.some.inj hv).symm, by rw [e]; exact List.mem_cons_self⟩
 ·rw [if_neg e] at hv
  rcases h y v hv with ⟨h1, h2⟩ | h
  ·exact .inl ⟨h1, List.mem_cons_of_mem _ h2⟩
  ·exact .inr h
theorem LeInv.done {ds : DsT} {P : List Nat} {le : LeT} {x n : Nat} (h : LeInv ds (x :: P) le) (hx : EndA ds x n) {v : Int} (hv : v = (min n 9 : Nat)) : LeInv ds P (updN le x v) := fun y u hu => by
 unfold updN at hu
 by_cases e : y = x
 ·rw [if_pos e] at hu
  exact .inr (.inr ⟨n, by rw [e]; exact hx, by rw [← Option.some.inj hu]; exact hv⟩)
 ·rw [if_neg e] at hu
  rcases h y u hu with ⟨h1, h2⟩ | h
  ·rcases List.mem_cons.1 h2 with h2 | h2
   ·exact absurd h2 e
   ·exact .inl ⟨h1, h2⟩
  ·exact .inr h
theorem LeInv.ring {ds : DsT} {P : List Nat} {le : LeT} {x : Nat} (h : LeInv ds (x :: P) le) (hx : NoEnd ds x) : LeInv ds P le := fun y u hu => by
 rcases h y u hu with ⟨h1, h2⟩ | h
 ·rcases List.mem_cons.1 h2 with h2 | h2
  ·exact .inr (.inl ⟨h1, by rw [h2]; exact hx⟩)
  ·exact .inl ⟨h1, h2⟩
 ·exact .inr h
theorem lenL_spec {ds : DsT} {L : List Nat} {f x : Nat} {P : List Nat}
 (hg : ∀ le y, LeInv ds P le → LeOk le → (∀ p ∈ P, Leads ds p y) → unk L le < f → LeInv ds P (lenF ds f le y).2 ∧ LenR ds y (lenF ds f le y).1) :
 ∀ (l : List Nat) (k : Nat) (sum : Int) (le : LeT), sum = (min k 9 : Nat) → LeInv ds P le → LeOk le → (∀ y ∈ l, ∀ p ∈ P, Leads ds p y) → unk L le < f →
  ((lenL (lenF ds f) x l sum le).1 = -1 ∧ LeInv ds P (lenL (lenF ds f) x l sum le).2 ∧ ∃ y ∈ l, NoEnd ds y) ∨
  ∃ n le', EndS ds l n ∧ (lenL (lenF ds f) x l sum le) = (((min (k + n) 9 : Nat) : Int), updN le' x ((min (k + n) 9 : Nat) : Int)) ∧ LeInv ds P le'
 | [], k, sum, le, hk, hI, _, _, _ => .inr ⟨0, le, ends_nil ds, by rw [lenL, hk]; rfl, hI⟩
 | y :: t, k, sum, le, hk, hI, hO, hr, hu => by
   obtain ⟨h1, h2⟩ := hg le y hI hO (hr y List.mem_cons_self) hu
   have h3 := lenF_ok ds f le y hO
   rw [lenL]
   rcases h2 with ⟨h2, h4⟩ | ⟨n, h4, h5⟩
   ·rw [if_pos h2]
    exact .inl ⟨rfl, h1, y, List.mem_cons_self, h4⟩
   ·rw [if_neg (by omega)]
    have hu2 := unk_mono L h3.2.2
    have hs : min (sum + (lenF ds f le y).1) 9 = ((min (k + n) 9 : Nat) : Int) := by rw [hk, h5]; omega
    rcases lenL_spec hg t (k + n) _ _ hs h1 h3.2.1 (fun z hz => hr z (List.mem_cons_of_mem _ hz)) (by omega) with ⟨q1, q2, z, hz, q3⟩ | ⟨m, le', q1, q2, q3⟩
    ·exact .inl ⟨q1, q2, z, List.mem_cons_of_mem _ hz, q3⟩
    ·refine .inr ⟨n + m, le', EndS.cons h4 q1, ?_, q3⟩
     rw [q2, show k + n + m = k + (n + m) by omega]
theorem lenF_spec (ds : DsT) (L : List Nat) (hL : ∀ y, (ds y).isSome = true → y ∈ L) : ∀ (f : Nat) (P : List Nat) (le : LeT) (x : Nat), LeInv ds P le → LeOk le → (∀ p ∈ P, Leads ds p x) → unk L le < f → LeInv ds P (lenF ds f le x).2 ∧ LenR ds x (lenF ds f le x).1
 | 0, P, le, x, _, _, _, hu => absurd hu (by omega)
 | f + 1, P, le, x, hI, hO, hP, hu => by
   rw [lenF]
   by_cases hs : sylP (x : Int) = true
   ·rw [if_pos hs]
    refine ⟨hI, .inr ⟨_, EndA.syl hs, ?_⟩⟩
    have : (partsP (x - 44032)).length ≤ 3 := by unfold partsP; split <;> simp
    simp only
    omega
   ·have hs' : sylP (x : Int) = false := by simpa using hs
    rw [if_neg hs]
    cases hd : ds x with
    | none => exact ⟨hI, .inr ⟨1, EndA.ofN hs' hd, rfl⟩⟩
    | some own =>
      simp only
      cases hl : le x with
      | some v =>
        simp only
        refine ⟨hI, ?_⟩
        rcases hI x v hl with ⟨h1, h2⟩ | h | h
        ·exact .inl ⟨h1, (hP x h2).ring⟩
        ·exact .inl h
        ·exact .inr h
      | none =>
        simp only
        have hu2 := unk_upd L (hL x (by rw [hd]; rfl)) hl (-1)
        have key := lenL_spec (ds := ds) (L := L) (f := f) (x := x) (P := x :: P) (fun le y a b c d => lenF_spec ds L hL f (x :: P) le y a b c d) own 0 0 (updN le x (-1)) rfl (hI.upd x) (hO.upd (by omega) (by omega))
         (fun y hy p hp => by
          rcases List.mem_cons.1 hp with rfl | hp
          ·exact .one hs' hd hy
          ·exact .more (hP p hp) hs' hd hy) (by omega)
        rcases key with ⟨q1, q2, y, hy, q3⟩ | ⟨n, le', q1, q2, q3⟩
        ·have := NoEnd.up hs' hd hy q3
         exact ⟨q2.ring this, .inl ⟨q1, this⟩⟩
        ·have := EndA.ofL hs' hd q1
         rw [q2, Nat.zero_add]
         exact ⟨q3.done this rfl, .inr ⟨n, this, rfl⟩⟩
def FineD (ds : DsT) (x : Nat) : Prop := ∃ n, EndA ds x n ∧ n ≤ 8
theorem FineD.not1 {ds : DsT} {x : Nat} (h : FineD ds x) : ¬ NoEnd ds x := by
 obtain ⟨n, h, _⟩ := h
 exact h.not
theorem FineD.not2 {ds : DsT} {x n : Nat} (h : FineD ds x) (h2 : EndA ds x n) (h8 : 8 < n) : False := by
 obtain ⟨m, h, hm⟩ := h
 have := h.uniq h2
 omega
def BadN (ds : DsT) (x no : Nat) : Prop := (NoEnd ds x ∧ no = 14) ∨ ((∃ n, EndA ds x n ∧ 8 < n) ∧ no = 5)
theorem BadN.uniq {ds : DsT} {x a b : Nat} (h : BadN ds x a) (h2 : BadN ds x b) : a = b := by
 rcases h with ⟨h, e⟩ | ⟨⟨n, h, _⟩, e⟩ <;> rcases h2 with ⟨h2, e2⟩ | ⟨⟨m, h2, _⟩, e2⟩
 ·omega
 ·exact absurd h h2.not
 ·exact absurd h2 h.not
 ·omega
theorem BadN.not {ds : DsT} {x a : Nat} (h : BadN ds x a) : ¬ FineD ds x := fun hf => by
 rcases h with ⟨h, _⟩ | ⟨⟨n, h, h8⟩, _⟩
 ·exact hf.not1 h
 ·exact hf.not2 h h8
theorem BadN.ne {ds : DsT} {x a : Nat} (h : BadN ds x a) : a ≠ 0 := by
 rcases h with ⟨_, h⟩ | ⟨_, h⟩ <;> omega
theorem ringP_spec (S : RdS) (L0 : List Nat) (f : Nat) (hL : ∀ y, (S.ds y).isSome = true → y ∈ L0) (hf : L0.length < f) : ∀ (L : List Nat) (le : LeT), LeInv S.ds [] le → LeOk le →
 (ringP S f L le = (0, 0) ∧ ∀ x ∈ L, FineD S.ds x) ∨ ∃ a x b no, L = a ++ x :: b ∧ (∀ y ∈ a, FineD S.ds y) ∧ BadN S.ds x no ∧ ringP S f L le = (no, (S.ls x).getD 0)
 | [], le, _, _ => .inl ⟨rfl, fun x h => by cases h⟩
 | x :: t, le, hI, hO => by
   have hu : unk L0 le < f := Nat.lt_of_le_of_lt (List.length_filter_le _ _) hf
   obtain ⟨h1, h2⟩ := lenF_spec S.ds L0 hL f [] le x hI hO (fun p hp => by cases hp) hu
   have h3 := (lenF_ok S.ds f le x hO).2.1
   rw [ringP]
   rcases h2 with ⟨h2, h4⟩ | ⟨n, h4, h5⟩
   ·have e : endN (lenF S.ds f le x).1 = 14 := by rw [h2]; rfl
    rw [e, if_pos (by decide)]
    exact .inr ⟨[], x, t, 14, rfl, fun y h => (by cases h), .inl ⟨h4, rfl⟩, rfl⟩
   ·by_cases h8 : 8 < n
    ·have e : endN (lenF S.ds f le x).1 = 5 := by rw [h5]; unfold endN; rw [if_neg (by omega), if_pos (by omega)]
     rw [e, if_pos (by decide)]
     exact .inr ⟨[], x, t, 5, rfl, fun y h => (by cases h), .inr ⟨⟨n, h4, h8⟩, rfl⟩, rfl⟩
    ·have e : endN (lenF S.ds f le x).1 = 0 := by rw [h5]; unfold endN; rw [if_neg (by omega), if_neg (by omega)]
     rw [e, if_neg (by decide)]
     have hx : FineD S.ds x := ⟨n, h4, by omega⟩
     rcases ringP_spec S L0 f hL hf t _ h1 h3 with ⟨q1, q2⟩ | ⟨a, y, b, no, rfl, q2, q3, q4⟩
     ·refine .inl ⟨q1, fun y hy => ?_⟩
      rcases List.mem_cons.1 hy with rfl | hy
      ·exact hx
      ·exact q2 y hy
     ·refine .inr ⟨x :: a, y, b, no, rfl, fun z hz => ?_, q3, q4⟩
      rcases List.mem_cons.1 hz with rfl | hz
      ·exact hx
      ·exact q2 z hz
theorem leInv_none (ds : DsT) : LeInv ds [] fun _ => none := fun _ _ h => by cases h
theorem leOk_none : LeOk fun _ => none := fun _ _ h => by cases h
end Go.Proofs.YthhepebkfokddaaGreatDoor
namespace Go.Proofs.YthhepebkfokddaaGreatDoor
open Go Go.RowKit Go.Kt Go.Kt.Rg Go.Maps
def RpW (g : Nat) (cs ks : List (Nat × Nat × Int)) (fv dv : Value) (w : World) : Prop :=
 ∃ cv kv, w.heap[g]? = some (.cells #[cv, kv, fv, dv] 115 (0, 0)) ∧ RfW w cv cs ∧ RfW w kv ks
theorem RpW.below {g : Nat} {cs ks : List (Nat × Nat × Int)} {fv dv : Value} {A B : World} (h : RpW g cs ks fv dv A) (hb : Below A.heap.size A B) : RpW g cs ks fv dv B := by
 obtain ⟨cv, kv, h1, h2, h3⟩ := h
 exact ⟨cv, kv, (hb.block g (Array.getElem?_eq_some_iff.1 h1).1).trans h1, h2.below hb, h3.below hb⟩
def xclsV (cs : List (Nat × Nat × Int)) (r : Int) : Int := if Lib.validRune r = false ∨ sylP r = true ∨ jamP r = true then 0 else (lastZ cs r).getD 0
def xkndV (ks : List (Nat × Nat × Int)) (r : Int) : Int := if Lib.validRune r = false then 0 else if sylP r = true then (lastZ ks r).getD 1 else (lastZ ks r).getD 0
end Go.Proofs.YthhepebkfokddaaGreatDoor
namespace Go.Proofs.YthhepebkfokddaaGreatDoor
open Go Go.RowKit Go.Kt Go.Kt.Rg Go.Maps
abbrev Ln3 := Nat × List Nat × Nat
def LfW (w : World) (v : Value) (l : List Ln3) : Prop :=
 ∃ ao cp, v = .slice ao l.length cp ∧ (l = [] ∨ ∃ g, ao = some ⟨g, 0, none⟩ ∧ ∀ (i : Nat) (r : Ln3), l[i]? = some r → w.cell? ⟨g, i * 3, none⟩ = some (.int .i64 r.1) ∧ (∃ v, w.cell? ⟨g, i * 3 + 1, none⟩ = some v ∧ Sl .i32 w v (toZ r.2.1)) ∧ w.cell? ⟨g, i * 3 + 2, none⟩ = some (.int .i64 r.2.2))
theorem LfW.below {v : Value} {l : List Ln3} {A B : World} (h : LfW A v l) (hb : Below A.heap.size A B) : LfW B v l := by
 obtain ⟨ao, cp, rfl, h⟩ := h
 refine ⟨ao, cp, rfl, ?_⟩
 rcases h with h | ⟨g, e, h⟩
 ·exact .inl h
 ·refine .inr ⟨g, e, fun i r hr => ?_⟩
  obtain ⟨h1, ⟨u, h2, h3⟩, h4⟩ := h i r hr
  exact ⟨(hb.cell (lt_of_cell h1)).trans h1, ⟨u, (hb.cell (lt_of_cell h2)).trans h2, h3.below hb⟩, (hb.cell (lt_of_cell h4)).trans h4⟩
def spkL (l : List Ln3) (n : Int) : Bool := l.any fun x => (x.1 : Int) == n
end Go.Proofs.YthhepebkfokddaaGreatDoor
namespace Go.Proofs.YthhepebkfokddaaGreatDoor
open Go Go.RowKit Go.Kt Go.Kt.Rg Go.Maps
def ZnO (H : Nat) (v : Value) (l : List Int) (W : World) : Prop := OwnS (fun b => H ≤ b) 21 1 v l.length (encZ l) W
theorem zno_nil (H : Nat) (W : World) : ZnO H (.slice none 0 0) [] W := own_nil _ _ _ _
theorem ZnO.below {H : Nat} {v : Value} {l : List Int} {A B : World} (h : ZnO H v l A) (hb : Below A.heap.size A B) : ZnO H v l B := OwnS.keep h (Keep.of_all hb) (fun _ h => False.elim h)
theorem ZnO.app {H : Nat} {v : Value} {l : List Int} {W : World} (h : ZnO H v l W) (hz : H ≤ W.heap.size) (hn : l.length ≤ 1048576) (x : Int) :
 ∃ v' W', (∀ ty, (Builtin.append_ #[62, 62] ty #[v, .slice (some ⟨W.heap.size, 0, none⟩) 1 1]).run Tryz.prog (W.alloc (.cells #[.int .i32 x] 21)) = .ok v' W') ∧ ZnO H v' (l ++ [x]) W' ∧ Below H W W' := by
 obtain ⟨g, cap, w3, hrun, hown3, hk3, hg3, hz3⟩ := append_x (P := Tryz.prog) W 62 21 Tryz.underlying62 tinfoI32 rfl (by omega) h [.int .i32 x] rfl
  (by intro u hu; simp at hu; subst hu; rfl) (by unfold maxLen; omega) (by omega)
 have hgg : H ≤ g := by
  rcases hg3 with hx | hx
  ·exact h.2 _ hx
  ·omega
 refine ⟨_, w3, hrun, ?_, hk3.below hz (fun b hb => h.2 b hb)⟩
 have e : encZ (l ++ [x]) = encZ l ++ [.int .i32 x] := by simp [encZ]
 unfold ZnO
 rw [e, List.length_append]
 exact hown3.weaken (fun b hb => by subst hb; exact hgg)
set_option maxRecDepth 100000 in
set_option maxHeartbeats 4000000 in
theorem ycopy (l : List Int) (sv : Value) (w : World) (hS : Sl .i32 w sv l) (hn : l.length ≤ 1048576) :
 Calls Tryz.prog 124 #[sv] w fun e w' => ∃ v, e = .returned v ∧ ZnO w.heap.size v l w' ∧ Below w.heap.size w w' := by
 obtain ⟨ao, cp, rfl, hc⟩ := hS
 obtain ⟨n, hln⟩ : ∃ n, l.length = n := ⟨_, rfl⟩
 rw [hln] at hn ⊢
 have HC := Lib.hid (And.intro hc hln)
 clear hc hln
 go_enter Tryz.func124, Tryz.ntmps124
 go_wp2_with fail
 go_loopw [3, 4] (fun u x wr => ∃ k : Nat, x = .int .i64 (k : Nat) ∧ k ≤ n ∧ Hid (ZnO w.heap.size u (l.take k) wr ∧ Below w.heap.size w wr)) (fun _ x _ => n - (RowKit.intOf x).toNat)
 case atStart => exact ⟨0, rfl, Nat.zero_le _, Lib.hid ⟨zno_nil _ _, Below.refl _ _⟩⟩
 case round =>
  obtain ⟨k, rfl, hk, H⟩ := hrel
  by_cases hlt : k < n
  ·have e1 : (k : Int) < n := by omega
   have hk0 : (0 : Int) ≤ (k : Int) := by omega
   have hk1 : IntKind.i64.wrap ((k : Int) + 1) = ((k + 1 : Nat) : Int) := by rw [IntWalk.i64_in _ (by omega)]; omega
   obtain ⟨x, hx⟩ : ∃ x, l[k]? = some x := ⟨_, List.getElem?_eq_getElem (by rw [HC.out.2]; omega)⟩
   obtain ⟨g, off, rfl, c0⟩ : ∃ g off, ao = some ⟨g, off, none⟩ ∧ w.cell? ⟨g, off + k, none⟩ = some (.int .i32 x) := by
    rcases HC.out.1 with h | ⟨g, off, e, h⟩
    ·rw [h] at hx; cases hx
    ·exact ⟨g, off, e, h k _ hx⟩
   have d0 := (H.out.2.cell (lt_of_cell c0)).trans c0
   obtain ⟨v', W', hrun, hz', hb'⟩ := H.out.1.app H.out.2.size (by rw [List.length_take]; omega) x
   have ht : l.take (k + 1) = l.take k ++ [x] := by rw [List.take_add_one, hx]; rfl
   rw [← ht] at hz'
   have HRun := Lib.hid hrun
   have HB := Lib.hid (And.intro hz' (H.out.2.trans hb'))
   clear hrun hz' hb' ht hx c0 hlt
   go_wp2_with (first | (at_builtin; refine wpList_append_eq rfl rfl rfl rfl HRun.out ?_; clear HRun) | fail)
   go_roundw
   case rel => exact ⟨k + 1, by go_num, by omega, Lib.hid ⟨HB.out.1, HB.out.2⟩⟩
   case measure => simp [RowKit.intOf]; omega
  ·have e1 : ¬ (k : Int) < n := by omega
   have hz := H.out.1
   rw [List.take_of_length_le (by rw [HC.out.2]; omega)] at hz
   have HB := Lib.hid hz
   clear hlt hz
   go_wp2
   go_ret
   exact ⟨_, rfl, HB.out, H.out.2⟩
end Go.Proofs.YthhepebkfokddaaGreatDoor
namespace Go.Proofs.YthhepebkfokddaaGreatDoor
open Go Go.RowKit Go.Kt Go.Kt.Rg Go.Maps
theorem ZnO.sl {H : Nat} {v : Value} {l : List Int} {w : World} (ho : ZnO H v l w) : Sl .i32 w v l := by
 rcases OwnS.shape ho with ⟨hv, h0⟩ | ⟨gb, cap, hv, hg, hgl⟩
 ·exact ⟨none, 0, by rw [hv, h0], .inl (List.length_eq_zero_iff.1 h0)⟩
 ·subst hv
  refine ⟨_, cap, rfl, .inr ⟨gb, 0, rfl, fun i x hx => ?_⟩⟩
  rw [Nat.zero_add]
  refine OwnS.at0 ho (i := i) ?_
  simp [encZ, List.getElem?_map, hx]
def ofL (l : List Ln3) (r : Int) : Option (List Nat) := (l.find? fun x => (x.1 : Int) == r).map (·.2.1)
theorem ofL_cons (x : Ln3) (t : List Ln3) (r : Int) : ofL (x :: t) r = if (x.1 : Int) = r then some x.2.1 else ofL t r := by
 unfold ofL
 rw [List.find?_cons]
 by_cases h : (x.1 : Int) = r
 ·rw [if_pos h]
  have : ((x.1 : Int) == r) = true := by simpa using h
  rw [this]; rfl
 ·rw [if_neg h]
  have : ((x.1 : Int) == r) = false := by simpa using h
  rw [this]
def xfldV (l : List Ln3) (r : Int) : List Int := match ofL l r with
 | some t => toZ t
 | none => [r]
theorem LfW.at {w : World} {ao : Option Addr} {n cp : Nat} {l : List Ln3} (h : LfW w (.slice ao n cp) l) {k : Nat} {x : Ln3} (hx : l[k]? = some x) :
 ∃ g v, ao = some ⟨g, 0, none⟩ ∧ w.cell? ⟨g, k * 3, none⟩ = some (.int .i64 (x.1 : Nat)) ∧ w.cell? ⟨g, k * 3 + 1, none⟩ = some v ∧ Sl .i32 w v (toZ x.2.1) := by
 obtain ⟨ao', cp', e, hc⟩ := h
 cases e
 rcases hc with h | ⟨g, e, h⟩
 ·rw [h] at hx; cases hx
 ·obtain ⟨h1, ⟨v, h2, h3⟩, _⟩ := h k x hx
  exact ⟨g, v, e, h1, h2, h3⟩
end Go.Proofs.YthhepebkfokddaaGreatDoor
namespace Go.Proofs.YthhepebkfokddaaGreatDoor
open Go Go.RowKit Go.Kt Go.Kt.Rg Go.Maps

theorem blk_no {n : Nat} (h : n ≠ 32 ∧ n ≠ 9) : blkP n = false := by
  unfold blkP
  rw [beq_eq_false_iff_ne.2 h.1, beq_eq_false_iff_ne.2 h.2]; rfl
theorem dec_blk (s : ByteArray) (p : Nat) (h : p < s.size) :
    (blkP (Utf8.decode s p).1 = true ∧ (Utf8.decode s p).2 = 1 ∧ blkP (s.get! p).toNat = true) ∨
    (blkP (Utf8.decode s p).1 = false ∧ 1 ≤ (Utf8.decode s p).2 ∧ p + (Utf8.decode s p).2 ≤ s.size ∧ ∀ j, j < (Utf8.decode s p).2 → blkP (s.get! (p + j)).toNat = false) := by
  rw [Lib.decode_at]
  obtain ⟨b0, h0⟩ : ∃ b, (s.get! p).toNat = b := ⟨_, rfl⟩
  obtain ⟨b1, h1⟩ : ∃ b, (s.get! (p + 1)).toNat = b := ⟨_, rfl⟩
  obtain ⟨b2, h2⟩ : ∃ b, (s.get! (p + 2)).toNat = b := ⟨_, rfl⟩
  obtain ⟨b3, h3⟩ : ∃ b, (s.get! (p + 3)).toNat = b := ⟨_, rfl⟩
  rw [h0, h1, h2, h3]
  unfold Lib.decodeN
  by_cases ha : b0 < 128
  · rw [if_pos ha]
    by_cases hb : blkP b0 = true
    · exact .inl ⟨hb, rfl, hb⟩
    · have hb2 : blkP b0 = false := by simpa using hb
      exact .inr ⟨hb2, Nat.le_refl _, by simp only; omega, fun j hj => by
        obtain rfl : j = 0 := by simp only at hj; omega
        rw [Nat.add_zero, h0]; exact hb2⟩
  · rw [if_neg ha]
    right
    repeat' split
    all_goals refine ⟨blk_no (by simp only; omega), by simp only; omega, by simp only; omega, fun j hj => ?_⟩
    all_goals simp only at hj
    all_goals (obtain rfl | rfl | rfl | rfl : j = 0 ∨ j = 1 ∨ j = 2 ∨ j = 3 := by omega)
    all_goals first
      | (exfalso; omega)
      | (rw [Nat.add_zero, h0]; exact blk_no (by omega))
      | (rw [h1]; exact blk_no (by omega))
      | (rw [h2]; exact blk_no (by omega))
      | (rw [h3]; exact blk_no (by omega))

def wordsB : List UInt8 → List UInt8 → List (List UInt8)
  | cur, [] => if cur = [] then [] else [cur]
  | cur, b :: t => if blkP b.toNat then (if cur = [] then wordsB [] t else cur :: wordsB [] t) else wordsB (cur ++ [b]) t
theorem wordsB_take : ∀ (k : Nat) (cur l : List UInt8), k ≤ l.length → (∀ j b, j < k → l[j]? = some b → blkP b.toNat = false) → wordsB cur l = wordsB (cur ++ l.take k) (l.drop k) := by
  intro k
  induction k with
  | zero => intro cur l _ _; simp
  | succ k ih =>
    intro cur l hk h
    cases l with
    | nil => simp at hk
    | cons b t =>
      have hb := h 0 b (by omega) rfl
      rw [wordsB, hb]
      simp only [Bool.false_eq_true, if_false]
      rw [ih (cur ++ [b]) t (by simpa using hk) (fun j c hj hc => h (j + 1) c (by omega) (by simpa using hc))]
      simp
theorem get_at (s : ByteArray) (i : Nat) (h : i < s.size) : s.data.toList[i]? = some (s.get! i) := by
  have hl : i < s.data.toList.length := by rw [← Lib.size_eq]; exact h
  rw [List.getElem?_eq_getElem hl]
  congr 1
  have e : s.get! i = s[i]'h := by
    simp [ByteArray.get!, getElem!_pos, h]
    rfl
  rw [e]
  simp
  rfl
theorem drop_at (s : ByteArray) (i : Nat) (h : i < s.size) : s.data.toList.drop i = s.get! i :: s.data.toList.drop (i + 1) := by
  have hl : i < s.data.toList.length := by rw [← Lib.size_eq]; exact h
  rw [List.drop_eq_getElem_cons hl]
  congr 1
  have := get_at s i h
  rw [List.getElem?_eq_getElem hl] at this
  exact Option.some.inj this
def curB (l : List UInt8) (p : Nat) : Option Nat → List UInt8
  | some a => (l.take p).drop a
  | none => []
theorem curB_ne (l : List UInt8) (p a : Nat) (h : a < p) (hp : p ≤ l.length) : curB l p (some a) ≠ [] := fun e => by
  have := congrArg List.length e
  simp [curB] at this
  omega
theorem curB_more (l : List UInt8) (p k : Nat) (o : Option Nat) (ha : ∀ a, o = some a → a ≤ p) (hp : p + k ≤ l.length) : curB l (p + k) (some (o.getD p)) = curB l p o ++ (l.drop p).take k := by
  cases o with
  | none =>
    show (l.take (p + k)).drop p = [] ++ _
    rw [List.nil_append, List.drop_take, Nat.add_sub_cancel_left]
  | some a =>
    have := ha a rfl
    show (l.take (p + k)).drop a = (l.take p).drop a ++ _
    rw [List.take_add, List.drop_append_of_le_length (by rw [List.length_take]; omega)]
theorem spans_words (s : ByteArray) : ∀ (f p : Nat) (st : Option Nat) (acc : List (Nat × Nat)), s.size ≤ p + f → p ≤ s.size → (∀ a, st = some a → a < p) →
    (Lib.closeSpans s (Lib.spansFromP blkP s f p st acc)).map (fun x => (s.data.toList.take x.2).drop x.1) = acc.map (fun x => (s.data.toList.take x.2).drop x.1) ++ wordsB (curB s.data.toList p st) (s.data.toList.drop p) := by
  have hln : s.data.toList.length = s.size := (Lib.size_eq s).symm
  have fin : ∀ (p : Nat) (st : Option Nat) (acc : List (Nat × Nat)), ¬ p < s.size → p ≤ s.size → (∀ a, st = some a → a < p) →
      (Lib.closeSpans s (acc, st)).map (fun x => (s.data.toList.take x.2).drop x.1) = acc.map (fun x => (s.data.toList.take x.2).drop x.1) ++ wordsB (curB s.data.toList p st) (s.data.toList.drop p) := by
    intro p st acc hp hps hst
    obtain rfl : p = s.size := by omega
    rw [List.drop_eq_nil_of_le (by omega), wordsB]
    cases st with
    | none => simp [Lib.closeSpans, curB]
    | some a =>
      rw [if_neg (curB_ne _ _ _ (hst a rfl) (by omega))]
      simp [Lib.closeSpans, curB]
  intro f
  induction f with
  | zero => intro p st acc h1 h2 h3; exact fin p st acc (by omega) h2 h3
  | succ f ih =>
    intro p st acc h1 h2 h3
    by_cases hp : p < s.size
    rotate_left
    · rw [Lib.spansFromP_end _ _ _ _ _ _ hp]
      exact fin p st acc hp h2 h3
    unfold Lib.spansFromP
    rw [if_pos hp]
    rcases dec_blk s p hp with ⟨d1, d2, d3⟩ | ⟨d1, d2, d3, d4⟩
    · rw [d1, d2, if_pos rfl, drop_at s p hp, wordsB, if_pos d3]
      cases st with
      | none => simp only; rw [ih _ _ _ (by omega) (by omega) (fun a h => by cases h)]; rfl
      | some a =>
        simp only
        rw [ih _ _ _ (by omega) (by omega) (fun a h => by cases h), if_neg (curB_ne _ _ _ (h3 a rfl) (by omega))]
        simp [curB]
    · rw [d1, if_neg (by decide)]
      have hw := wordsB_take (Utf8.decode s p).2 (curB s.data.toList p st) (s.data.toList.drop p) (by rw [List.length_drop]; omega) (fun j b hj hb => by
        rw [List.getElem?_drop, get_at s (p + j) (by omega)] at hb
        injection hb with hb
        rw [← hb]; exact d4 j hj)
      rw [hw, List.drop_drop, ← curB_more _ _ _ _ (fun a h => Nat.le_of_lt (h3 a h)) (by omega)]
      cases st with
      | none => exact ih _ _ _ (by omega) d3 (fun a h => by cases h; omega)
      | some a => exact ih _ _ _ (by omega) d3 (fun b h => by cases h; have := h3 a rfl; omega)
theorem wrdP_eq (l : List UInt8) : wrdP l = wordsB [] (lineP l) := by
  have h := spans_words ⟨(lineP l).toArray⟩ (⟨(lineP l).toArray⟩ : ByteArray).size 0 none [] (by omega) (by omega) (fun a h => by cases h)
  simp only [List.map_nil, List.nil_append, List.drop_zero] at h
  have e : curB (lineP l) 0 none = [] := rfl
  rw [e] at h
  rw [← h]
  unfold wrdP Lib.goFieldsP Lib.spansOfP
  rw [List.map_map]
  apply List.map_congr_left
  intro x _
  show (ByteArray.extract ⟨(lineP l).toArray⟩ x.1 x.2).data.toList = _
  have := Lib.extract_toList ⟨(lineP l).toArray⟩ x.1 x.2
  rw [ByteArray.toList_eq] at this
  rw [this, List.drop_take]

def wordsH : List UInt8 → List UInt8 → List (List UInt8)
  | cur, [] => if cur = [] then [] else [cur]
  | cur, b :: t => if b = 35 then (if cur = [] then [] else [cur]) else if blkP b.toNat then (if cur = [] then wordsH [] t else cur :: wordsH [] t) else wordsH (cur ++ [b]) t
theorem cut_one (l : List UInt8) (x : UInt8) : (Lib.cut l [x]).1 = l.takeWhile (· != x) := by
  induction l with
  | nil => simp [Lib.cut, Lib.index]
  | cons b t ih =>
    unfold Lib.cut at ih ⊢
    rw [Lib.index]
    by_cases hb : b = x
    · subst hb
      simp
    · have e1 : ([x] : List UInt8).isPrefixOf (b :: t) = false := by simp [List.isPrefixOf]; exact fun h => hb h.symm
      have e2 : (b != x) = true := by simpa using hb
      rw [e1, List.takeWhile_cons_of_pos (by simpa using hb)]
      have hge := Lib.index_ge t [x]
      by_cases hi : Lib.index t [x] = -1
      · rw [hi] at ih ⊢
        simp at ih ⊢
        exact ih
      · obtain ⟨n, hn⟩ : ∃ n : Nat, Lib.index t [x] = (n : Int) := ⟨(Lib.index t [x]).toNat, by omega⟩
        rw [hn] at ih ⊢
        have e3 : ((n : Int) == -1) = false := by simp
        simp only [e3, Bool.false_eq_true, if_false]
        rw [if_pos (by omega)] at ih ⊢
        rw [show ((n : Int) + 1).toNat = n + 1 by omega]
        simp at ih ⊢
        exact ih
theorem wordsH_cut (l : List UInt8) : ∀ cur, wordsB cur (l.takeWhile (· != 35)) = wordsH cur l := by
  induction l with
  | nil => intro cur; rfl
  | cons b t ih =>
    intro cur
    by_cases hb : b = 35
    · subst hb
      simp [wordsH, wordsB]
    · rw [List.takeWhile_cons_of_pos (by simpa using hb), wordsB, wordsH, if_neg hb, ih, ih]
theorem wrdP_H (l : List UInt8) : wrdP l = wordsH [] (Lib.trimSuffix (Lib.trimSuffix l [10]) [13]) := by
  rw [wrdP_eq, lineP, cut_one, wordsH_cut]
theorem trims_cons (b c : UInt8) (t : List UInt8) : Lib.trimSuffix (b :: t) [c] = if t = [] then (if b = c then [] else [b]) else b :: Lib.trimSuffix t [c] := by
  unfold Lib.trimSuffix Lib.hasSuffix
  cases t with
  | nil =>
    by_cases h : b = c
    · subst h; simp
    · have : ([c] : List UInt8).isSuffixOf [b] = false := by
        cases e : ([c] : List UInt8).isSuffixOf [b] with
        | false => rfl
        | true =>
          have := List.isSuffixOf_iff_suffix.1 e
          have := this.eq_of_length rfl
          injection this with this
          exact absurd this.symm h
      rw [this]; simp [h]
  | cons d u =>
    have : ([c] : List UInt8).isSuffixOf (b :: d :: u) = ([c] : List UInt8).isSuffixOf (d :: u) := by
      rw [Bool.eq_iff_iff, List.isSuffixOf_iff_suffix, List.isSuffixOf_iff_suffix, List.suffix_cons_iff]
      constructor
      · rintro (h | h)
        · simp at h
        · exact h
      · exact .inr
    rw [this, if_neg (List.cons_ne_nil d u)]
    by_cases h : ([c] : List UInt8).isSuffixOf (d :: u) = true
    · rw [if_pos h, if_pos h]; rfl
    · rw [if_neg h, if_neg h]
theorem trims_end (c : UInt8) (l : List UInt8) : Lib.trimSuffix (l ++ [c]) [c] = l := by
  induction l with
  | nil => rw [List.nil_append, trims_cons, if_pos rfl, if_pos rfl]
  | cons b t ih => rw [List.cons_append, trims_cons, if_neg (by simp), ih]
theorem trims_not (c : UInt8) (l : List UInt8) (h : l.getLast? ≠ some c) : Lib.trimSuffix l [c] = l := by
  induction l with
  | nil => rfl
  | cons b t ih =>
    rw [trims_cons]
    cases t with
    | nil => rw [if_pos rfl, if_neg (fun e => h (by rw [e]; rfl))]
    | cons d u => rw [if_neg (by simp), ih (by simpa using h)]
end Go.Proofs.YthhepebkfokddaaGreatDoor
namespace Go.Proofs.YthhepebkfokddaaGreatDoor
open Go Go.RowKit Go.Kt Go.Kt.Rg Go.Maps
/-! ### Lines of bytes -/
theorem ixb_some (c rest : List UInt8) (h : ∀ x ∈ c, x ≠ 10) : Lib.indexByte (c ++ 10 :: rest) 10 = (c.length : Int) := by
 induction c with
 | nil => simp [Lib.indexByte]
 | cons b t ih =>
   have hb := h b List.mem_cons_self
   have := ih (fun x hx => h x (List.mem_cons_of_mem _ hx))
   rw [List.cons_append, Lib.indexByte, if_neg (by simpa using hb), this, if_neg (by simp)]
   simp
theorem ixb_none (c : List UInt8) (h : ∀ x ∈ c, x ≠ 10) : Lib.indexByte c 10 = -1 := by
 induction c with
 | nil => rfl
 | cons b t ih =>
   have hb := h b List.mem_cons_self
   rw [Lib.indexByte, if_neg (by simpa using hb), ih (fun x hx => h x (List.mem_cons_of_mem _ hx))]
   rfl
theorem lines_cons (c rest : List UInt8) (h : ∀ x ∈ c, x ≠ 10) : linesP (c ++ 10 :: rest) = (c ++ [10]) :: linesP rest := by
 rw [linesP_some (by simp) (ixb_some c rest h)]
 congr 1
 ·rw [List.take_append, List.take_of_length_le (by omega), Nat.add_sub_cancel_left]; rfl
 ·rw [List.drop_append, List.drop_eq_nil_of_le (by omega), Nat.add_sub_cancel_left]; rfl
theorem lines_one (c : List UInt8) (h : ∀ x ∈ c, x ≠ 10) : linesP c = if c = [] then [] else [c] := by
 by_cases hc : c = []
 ·subst hc; rfl
 ·rw [if_neg hc, linesP_none hc (ixb_none c h)]
theorem line_cut (l : List UInt8) : (∀ x ∈ l, x ≠ 10) ∨ ∃ c rest, l = c ++ 10 :: rest ∧ (∀ x ∈ c, x ≠ 10) ∧ rest.length < l.length := by
 induction l with
 | nil => exact .inl (fun x h => by cases h)
 | cons b t ih =>
   by_cases hb : b = 10
   ·subst hb
    exact .inr ⟨[], t, rfl, (fun x h => by cases h), by simp⟩
   ·rcases ih with h | ⟨c, rest, h1, h2, h3⟩
    ·exact .inl (fun x hx => by
     rcases List.mem_cons.1 hx with rfl | hx
     ·exact hb
     ·exact h x hx)
    ·refine .inr ⟨b :: c, rest, by rw [h1]; rfl, fun x hx => ?_, by simp; omega⟩
     rcases List.mem_cons.1 hx with rfl | hx
     ·exact hb
     ·exact h2 x hx
def FW (l : List UInt8) : List (List (List UInt8)) := ((linesP l).map wrdP).filter (fun w => !w.isEmpty)
def oneW (w : List (List UInt8)) : List (List (List UInt8)) := if w = [] then [] else [w]
theorem trims10 (c : List UInt8) (h : ∀ x ∈ c, x ≠ 10) : Lib.trimSuffix c [10] = c := trims_not 10 c (fun e => h 10 (List.mem_of_getLast? e) rfl)
/-! ### What PropsPlain writes -/
def trB : Bool → List UInt8 → List UInt8
 | _, [] => []
 | r, b :: t => if b = 32 ∧ r = false then 9 :: 32 :: 32 :: trB r t else b :: trB (r || b == 35) t
def endB : List UInt8 := [32, 35, 32, 120, 13, 10, 32, 10]
def trG : Bool → List UInt8 → List UInt8
 | _, [] => []
 | r, b :: t => if b = 13 ∧ (t = [] ∨ t.head? = some 10) then trG r t
  else if b = 32 ∧ r = false then 9 :: 32 :: 32 :: trG r t
  else if b = 10 then endB ++ trG false t
  else b :: trG (r || b == 35) t
def oneF (cur : List UInt8) : List (List UInt8) := if cur = [] then [] else [cur]
end Go.Proofs.YthhepebkfokddaaGreatDoor
