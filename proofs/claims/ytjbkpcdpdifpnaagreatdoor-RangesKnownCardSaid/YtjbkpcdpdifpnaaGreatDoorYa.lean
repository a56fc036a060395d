/- The document's made: the ends of rows put among the edges (written by gen_ya.py). -/
import Derived.Test.YtjbkpcdpdifpnaaGreatDoorRz
import Derived.Test.YtjbkpcdpdifpnaaGreatDoorK17
import Derived.Test.YtjbkpcdpdifpnaaGreatDoorCk11
import Derived.Test.YtjbkpcdpdifpnaaGreatDoorCk10
import Derived.Test.YtjbkpcdpdifpnaaGreatDoorK19
import Derived.Deep.AppendLies
import Derived.Test.YtjbkpcdpdifpnaaGreatDoorRq
namespace Go.Proofs.YtjbkpcdpdifpnaaGreatDoor
open Go Go.RowKit Go.Kt Go.Kt.Rg
attribute [local go_sem] Oper.semAt_some

def MW (w : World) (va vb : Value) (W : World) : Prop :=
  W.heap[w.heap.size]? = some (.cells #[va] 44 (0, 0)) ∧ W.heap[w.heap.size + 1]? = some (.cells #[vb] 44 (0, 0)) ∧ W.heap[w.heap.size + 2]? = some (.cells #[.slice none 0 0] 44 (0, 0)) ∧ Below w.heap.size w W ∧ w.heap.size + 3 ≤ W.heap.size
theorem MW.keep {w V V' : World} {va vb : Value} {X : Nat → Prop} (h : MW w va vb V) (hk : Keep X V V') (hX : ∀ b, X b → w.heap.size + 3 ≤ b) : MW w va vb V' := by
  obtain ⟨h1, h2, h3, h4, h5⟩ := h
  have hb : Below (w.heap.size + 3) V V' := hk.below h5 hX
  exact ⟨(hb.block _ (by omega)).trans h1, (hb.block _ (by omega)).trans h2, (hb.block _ (by omega)).trans h3, h4.trans (hb.mono (by omega)), Nat.le_trans h5 hb.size⟩
theorem MW.next {w V V' : World} {va vb : Value} (h : MW w va vb V) (hb : Below V.heap.size V V') : MW w va vb V' := h.keep (X := fun _ => False) (Keep.of_all hb) (fun _ h => h.elim)
theorem MW.start (w : World) (va vb : Value) : MW w va vb (((w.alloc (.cells #[va] 44)).alloc (.cells #[vb] 44)).alloc (.cells #[.slice none 0 0] 44)) :=
  ⟨alloc_old (alloc_old (alloc_at rfl)), alloc_old (alloc_at (by simp)), alloc_at (by simp), (((Below.refl _ _).alloc (Nat.le_refl _) _).alloc (by simp) _).alloc (by simp; omega) _, by simp⟩
theorem MW.ca {w V : World} {va vb : Value} (h : MW w va vb V) : V.cell? ⟨w.heap.size, 0, none⟩ = some va := by rw [Lib.cell_of_heap h.1]; rfl
theorem MW.cb {w V : World} {va vb : Value} (h : MW w va vb V) : V.cell? ⟨w.heap.size + 1, 0, none⟩ = some vb := by rw [Lib.cell_of_heap h.2.1]; rfl
theorem own_lit2 (W : World) (B : Nat) (hB : B ≤ W.heap.size) : OwnS (fun b => B ≤ b) 3 1 (.slice (some ⟨W.heap.size, 0, none⟩) 2 2) 2 (intV [0, 1112192]) (W.alloc (.cells #[.int .i64 0, .int .i64 1112192] 3)) :=
  ⟨World.ownsRow_lit (base := 0) W #[.int .i64 0, .int .i64 1112192] 2 (Nat.zero_le _) (by decide) rfl, fun g h => by cases h; exact hB⟩
def EdgO (B : Nat) (v : Value) (l : List Int) (W : World) : Prop := ∃ ao m cp, v = .slice ao m cp ∧ m = l.length ∧ OwnS (fun b => B ≤ b) 3 1 (.slice ao m cp) m (intV l) W
theorem EdgO.next {B : Nat} {v : Value} {l : List Int} {V V' : World} (h : EdgO B v l V) (hb : Below V.heap.size V V') : EdgO B v l V' := by
  obtain ⟨ao, m, cp, e, hm, ho⟩ := h
  exact ⟨ao, m, cp, e, hm, own_nx ho hb⟩
theorem edg_put (B : Nat) (v : Value) (l : List Int) (n : Int) (w : World) (h : EdgO B v l w) (hB : B ≤ w.heap.size) (hl : l.length ≤ 1099511627776) :
    Calls Tryz.prog 131 #[v, .int .i64 n] w fun e w' => ∃ v', e = .returned v' ∧ EdgO B v' (putL l n) w' ∧ Keep (fun b => B ≤ b) w w' := by
  obtain ⟨ao, m, cp, rfl, hm, ho⟩ := h
  refine (xput_any l n (fun b => B ≤ b) ao m cp w hm ho (by omega)).mono ?_
  rintro e w' ⟨ao', m', cp', rfl, hm', ho', hk⟩
  exact ⟨_, rfl, ⟨ao', m', cp', rfl, hm', ho'.weaken (fun b hb => by rcases hb with hb | hb; exact hb; omega)⟩, hk⟩
theorem putL_len (n : Int) : ∀ l : List Int, (putL l n).length ≤ l.length + 1
  | [] => by simp [putL]
  | x :: t => by
    rw [putL]
    split
    · have := putL_len n t
      simp only [List.length_cons]; omega
    · split
      · simp
      · simp
theorem edgL_len : ∀ (l : List Run) (es : List Int), (edgL l es).length ≤ es.length + 2 * l.length
  | [], es => by simp [edgL]
  | x :: t, es => by
    rw [edgL]
    have h1 := edgL_len t (putL (putL es x.1) x.2)
    have h2 := putL_len x.2 (putL es x.1)
    have h3 := putL_len x.1 es
    simp only [List.length_cons]; omega
theorem edgL_take : ∀ (l : List Run) (es : List Int) (k : Nat) (x : Run), l[k]? = some x → edgL (l.take (k + 1)) es = putL (putL (edgL (l.take k) es) x.1) x.2
  | [], _, _, _, h => by simp at h
  | y :: t, es, 0, x, h => by
    obtain rfl := Option.some.inj h
    rfl
  | y :: t, es, k + 1, x, h => by
    have := edgL_take t (putL (putL es y.1) y.2) k x (by simpa using h)
    simpa [edgL] using this
def pM5 (n B la capa g k : Nat) (u7 : Value) (l0 : List Int) (x1 u x2 : Int) (D : Nat → Bool) (jx : Nat) (v : Value) (W : World) : Prop := match jx with
  | 0 => v = u7
  | 1 => v = .pointer (some ⟨n, 0, none⟩)
  | 2 => v = .slice (some ⟨g, 0, none⟩) la capa
  | 3 => v = .int .i64 (k : Nat)
  | 4 => v = .pointer (some ⟨g, k * 2, none⟩)
  | 5 => v = .pointer (some ⟨g, k * 2, none⟩)
  | 6 => v = .int .i64 x1
  | 7 => (fun D v W => D 15 = false → EdgO B v (putL l0 x1) W) D v W
  | 8 => v = .pointer (some ⟨n, 0, none⟩)
  | 9 => v = .slice (some ⟨g, 0, none⟩) la capa
  | 10 => v = .int .i64 (k : Nat)
  | 11 => v = .pointer (some ⟨g, k * 2, none⟩)
  | 12 => v = .pointer (some ⟨g, k * 2 + 1, none⟩)
  | 13 => v = .int .i64 u
  | 14 => v = .int .i64 x2
  | 15 => (fun _D v W => EdgO B v (putL (putL l0 x1) x2) W) D v W
  | 16 => (fun _D v W => EdgO B v (putL (putL l0 x1) x2) W) D v W
  | _ => True
def pM9 (n B la capa g k : Nat) (u7 : Value) (l0 : List Int) (x1 u x2 : Int) (D : Nat → Bool) (jx : Nat) (v : Value) (W : World) : Prop := match jx with
  | 0 => v = u7
  | 1 => v = .pointer (some ⟨n + 1, 0, none⟩)
  | 2 => v = .slice (some ⟨g, 0, none⟩) la capa
  | 3 => v = .int .i64 (k : Nat)
  | 4 => v = .pointer (some ⟨g, k * 2, none⟩)
  | 5 => v = .pointer (some ⟨g, k * 2, none⟩)
  | 6 => v = .int .i64 x1
  | 7 => (fun D v W => D 15 = false → EdgO B v (putL l0 x1) W) D v W
  | 8 => v = .pointer (some ⟨n + 1, 0, none⟩)
  | 9 => v = .slice (some ⟨g, 0, none⟩) la capa
  | 10 => v = .int .i64 (k : Nat)
  | 11 => v = .pointer (some ⟨g, k * 2, none⟩)
  | 12 => v = .pointer (some ⟨g, k * 2 + 1, none⟩)
  | 13 => v = .int .i64 u
  | 14 => v = .int .i64 x2
  | 15 => (fun _D v W => EdgO B v (putL (putL l0 x1) x2) W) D v W
  | 16 => (fun _D v W => EdgO B v (putL (putL l0 x1) x2) W) D v W
  | _ => True
def pM14 (_n ge me ce i how : Nat) (sa sb : Value) (x0 : Int) (ua ub us : Bool) (jx : Nat) (v : Value) (_W : World) : Prop := match jx with
  | 0 => v = .int .i64 (how : Nat)
  | 1 => v = .agg #[sa]
  | 2 => v = .slice (some ⟨ge, 0, none⟩) me ce
  | 3 => v = .int .i64 (i : Nat)
  | 4 => v = .pointer (some ⟨ge, i, none⟩)
  | 5 => v = .int .i64 x0
  | 6 => v = .bool ua
  | 7 => v = .agg #[sb]
  | 8 => v = .slice (some ⟨ge, 0, none⟩) me ce
  | 9 => v = .int .i64 (i : Nat)
  | 10 => v = .pointer (some ⟨ge, i, none⟩)
  | 11 => v = .int .i64 x0
  | 12 => v = .bool ub
  | 13 => v = .bool us
  | 14 => v = .bool (!us)
  | _ => True
def OW (base : World) (v : Value) (m : Nat) (out : List Run) (W : World) : Prop :=
  W.heap[base.heap.size]? = some (.cells #[v] 44 (0, 0)) ∧ Below base.heap.size base W ∧ base.heap.size + 1 ≤ W.heap.size ∧ OwnS (fun b => base.heap.size + 1 ≤ b) 103 2 v m (encR (out.map dnR)) W
theorem OW.start (base : World) : OW base (.slice none 0 0) 0 [] (base.alloc (.cells #[.slice none 0 0] 44)) := ⟨alloc_at rfl, (Below.refl _ _).alloc (Nat.le_refl _) _, by simp, own_nil _ _ _ _⟩
theorem OW.next {base V V' : World} {v : Value} {m : Nat} {out : List Run} (h : OW base v m out V) (hb : Below V.heap.size V V') : OW base v m out V' :=
  ⟨(hb.block _ (by have := h.2.2.1; omega)).trans h.1, h.2.1.trans (hb.mono h.2.1.size), Nat.le_trans h.2.2.1 hb.size, own_nx h.2.2.2 hb⟩
theorem last_at {out : List Run} {j : Nat} {y : Run} (hj : j + 1 = out.length) (hy : out[j]? = some y) : out.getLast? = some y ∧ out = out.dropLast ++ [y] := by
  have h1 : out.getLast? = some y := by rw [List.getLast?_eq_getElem?, ← hj, Nat.add_sub_cancel]; exact hy
  have hne : out ≠ [] := fun e => by rw [e] at h1; cases h1
  have h2 : out.getLast hne = y := by rw [List.getLast?_eq_some_getLast hne] at h1; exact Option.some.inj h1
  exact ⟨h1, by rw [← h2]; exact (List.dropLast_concat_getLast hne).symm⟩
theorem OW.set {base V : World} {ga cp j : Nat} {out : List Run} {ya yb z : Int} (h : OW base (.slice (some ⟨ga, 0, none⟩) (j + 1) cp) (j + 1) out V) (hj : j + 1 = out.length) (hy : out[j]? = some (ya, yb)) :
    OW base (.slice (some ⟨ga, 0, none⟩) (j + 1) cp) (j + 1) (out.dropLast ++ [(ya, z)]) (V.setCell ⟨ga, j * 2 + 1, none⟩ (.int .i64 (z - 1))) := by
  obtain ⟨h1, h2, h3, h4⟩ := h
  have hg : base.heap.size + 1 ≤ ga := h4.2 ga rfl
  have hk : Keep (fun b => b = ga) V (V.setCell ⟨ga, j * 2 + 1, none⟩ (.int .i64 (z - 1))) := Keep.setCell (X := fun b => b = ga) (Keep.refl _ _) (p := ⟨ga, j * 2 + 1, none⟩) rfl _
  have hb : Below ga V (V.setCell ⟨ga, j * 2 + 1, none⟩ (.int .i64 (z - 1))) := (Below.refl _ _).setCell (p := ⟨ga, j * 2 + 1, none⟩) (Nat.le_refl _) _
  refine ⟨hk.heap h1 (by show ¬ base.heap.size = ga; omega), h2.trans (hb.mono (by omega)), Nat.le_trans h3 hb.size, ?_⟩
  have hd : out.dropLast.length = j := by rw [List.length_dropLast]; omega
  have e : encR ((out.dropLast ++ [(ya, z)]).map dnR) = (encR (out.map dnR)).set (j * 2 + 1) (.int .i64 (z - 1)) := by
    rw [show out.map dnR = (out.dropLast ++ [(ya, yb)]).map dnR by rw [← (last_at hj hy).2]]
    simp only [List.map_append, List.map_cons, List.map_nil]
    rw [encR_snoc, encR_snoc, List.set_append_right _ _ (by rw [encR_len, List.length_map, hd]; omega), encR_len, List.length_map, hd, show j * 2 + 1 - j * 2 = 1 by omega]
    rfl
  rw [e]
  exact ⟨(h4.1.stored (j * 2 + 1) (.int .i64 (z - 1))).1, h4.2⟩
theorem mkR_step {f : Int → Bool} {es : List Int} {i : Nat} {x y : Int} {out : List Run} (hx : es[i]? = some x) (hy : es[i + 1]? = some y) : mkR f (es.drop i) out = mkR f (es.drop (i + 1)) (if f x = true then addR out x y else out) := by
  obtain ⟨hi, rfl⟩ := List.getElem?_eq_some_iff.1 hx
  obtain ⟨hi2, rfl⟩ := List.getElem?_eq_some_iff.1 hy
  rw [List.drop_eq_getElem_cons hi, List.drop_eq_getElem_cons hi2, mkR]
theorem mkR_end {f : Int → Bool} {es : List Int} {i : Nat} {out : List Run} (h : es.length ≤ i + 1) : mkR f (es.drop i) out = out := by
  rcases Nat.lt_or_ge i es.length with hi | hi
  · rw [List.drop_eq_getElem_cons hi, List.drop_eq_nil_of_le (by omega)]; rfl
  · rw [List.drop_eq_nil_of_le hi]; rfl
theorem sub_one_ (X : World) (x1 x2 : Operand) (u v : Int) (h : IntKind.i64.wrap (u - 1) = v) : (do eqGuard .sub 3 x1 x2 (.int .i64 u) (.int .i64 1); binOp .sub 3 (.int .i64 u) (.int .i64 1) : Sem Value).run Tryz.prog X = .ok (.int .i64 v) X := by
  subst h
  go_simp
theorem add_one_ (X : World) (x1 x2 : Operand) (u v : Int) (h : IntKind.i64.wrap (u + 1) = v) : (do eqGuard .add 3 x1 x2 (.int .i64 u) (.int .i64 1); binOp .add 3 (.int .i64 u) (.int .i64 1) : Sem Value).run Tryz.prog X = .ok (.int .i64 v) X := by
  subst h
  go_simp

set_option maxRecDepth 100000 in
set_option maxHeartbeats 4000000 in
theorem made_loops (a b : List Run) (va vb : Value) (how : Nat) (w : World) (ha : SlR w va (a.map dnR)) (hb : SlR w vb (b.map dnR)) (hca : Canon a) (hcb : Canon b) (hh : how < 4) :
    Calls Tryz.prog 91 #[.agg #[va], .agg #[vb], .int .i64 (how : Nat)] w fun e w' => ∃ v, e = .returned (.agg #[v]) ∧ SlR w' v ((madeL how a b).map dnR) ∧ Below w.heap.size w w' := by
  obtain ⟨aa, capa, rfl, hrowa⟩ := slr_at ha
  obtain ⟨ab, capb, rfl, hrowb⟩ := slr_at hb
  have HVA := Lib.hid ha
  have HVB := Lib.hid hb
  have hla : a.length ≤ 1112192 := by have := canon_len hca (Int.le_refl _); unfold allN at this; omega
  have hlb : b.length ≤ 1112192 := by have := canon_len hcb (Int.le_refl _); unfold allN at this; omega
  have HRA := Lib.hid hrowa
  have HRB := Lib.hid hrowb
  have HCA := Lib.hid hca
  have HCB := Lib.hid hcb
  clear hrowa hrowb ha hb hca hcb
  obtain ⟨la, hna⟩ : ∃ n, a.length = n := ⟨_, rfl⟩
  obtain ⟨lb, hnb⟩ : ∃ n, b.length = n := ⟨_, rfl⟩
  have HNA := Lib.hid hna
  have HNB := Lib.hid hnb
  rw [hna] at hla HVA ⊢
  rw [hnb] at hlb HVB ⊢
  clear hna hnb
  go_enter Tryz.func91, Tryz.ntmps91
  go_wp2_with fail
  go_loopw [7, 8] (fun es x wr => ∃ k : Nat, x = .int .i64 k ∧ k ≤ la ∧ EdgO (w.heap.size + 3) es (edgL (a.take k) [0, 1112192]) wr ∧ MW w (.slice aa la capa) (.slice ab lb capb) wr) (fun _ x _ => la - (RowKit.intOf x).toNat)
  case atStart =>
    refine ⟨0, rfl, by omega, ?_, ?_⟩
    · exact ⟨_, _, _, rfl, rfl, by have h := own_lit2 (((w.alloc (.cells #[.slice aa la capa] 44)).alloc (.cells #[.slice ab lb capb] 44)).alloc (.cells #[.slice none 0 0] 44)) (w.heap.size + 3) (by simp); simp only [World.size_alloc] at h; exact h⟩
    · exact (MW.start w _ _).next ((Below.refl _ _).alloc (Nat.le_refl _) _)
  case round =>
    obtain ⟨k, rfl, hk, he, hm⟩ := hrel
    have HE := Lib.hid he
    have HM := Lib.hid hm
    have ca := hm.ca
    clear he hm
    by_cases hlt : k < la
    · have hlt' : (k : Int) < la := by omega
      obtain ⟨x, hx⟩ : ∃ x, a[k]? = some x := ⟨_, List.getElem?_eq_getElem (by rw [HNA.out]; exact hlt)⟩
      obtain ⟨g, rfl, _, _⟩ := HRA.out wr HM.out.2.2.2.1 k x hx
      have hf := Canon.fit HCA.out x (List.mem_of_getElem? hx)
      unfold allN at hf
      have HT := Lib.hid (edgL_take a [0, 1112192] k x hx)
      obtain ⟨x1, x2⟩ := x
      simp only at hf
      try simp only at HT
      obtain ⟨u, hu⟩ : ∃ u, x2 - 1 = u := ⟨_, rfl⟩
      obtain ⟨l0, hl⟩ : ∃ l, edgL (a.take k) [0, 1112192] = l := ⟨_, rfl⟩
      rw [hl] at HE HT
      have hlen := edgL_len (a.take k) [0, 1112192]
      rw [hl, List.length_take] at hlen
      simp only [List.length_cons, List.length_nil] at hlen
      have hl0 : l0.length ≤ 1099511627776 := by omega
      have hl1 : (putL l0 x1).length ≤ 1099511627776 := by have := putL_len x1 l0; omega
      obtain ⟨B, hB⟩ : ∃ B, w.heap.size + 3 = B := ⟨_, rfl⟩
      have hBX : Hid (∀ X, MW w (.slice (some ⟨g, 0, none⟩) la capa) (.slice ab lb capb) X → B ≤ X.heap.size) := Lib.hid fun X h => by rw [← hB]; exact h.2.2.2.2
      have hBn : Hid (∀ b, B ≤ b → w.heap.size + 3 ≤ b) := Lib.hid fun b h => by omega
      rw [hB] at HE
      have hfa : ∀ X : World, (Instr.fieldAt 44 (.pointer (some ⟨w.heap.size, 0, none⟩)) 0).run Tryz.prog X = .ok (.pointer (some ⟨w.heap.size, 0, none⟩)) X := fun X => by go_simp
      have hls : ∀ X, MW w (.slice (some ⟨g, 0, none⟩) la capa) (.slice ab lb capb) X → (Instr.loadAt 42 (.pointer (some ⟨w.heap.size, 0, none⟩))).run Tryz.prog X = .ok (.slice (some ⟨g, 0, none⟩) la capa) X := fun X hX => by
        have q := hX.ca
        go_simp
      have RK : ∀ X, MW w (.slice (some ⟨g, 0, none⟩) la capa) (.slice ab lb capb) X → X.cell? ⟨g, k * 2, none⟩ = some (.int .i64 x1) ∧ X.cell? ⟨g, k * 2 + 1, none⟩ = some (.int .i64 u) := fun X hX => by
        obtain ⟨g', e, h1, h2⟩ := HRA.out X hX.2.2.2.1 k _ hx
        injection e with e
        injection e with e
        subst e
        simp only [hu] at h2
        exact ⟨h1, h2⟩
      have hld0 : ∀ X, MW w (.slice (some ⟨g, 0, none⟩) la capa) (.slice ab lb capb) X → (Instr.loadAt 3 (.pointer (some ⟨g, k * 2, none⟩))).run Tryz.prog X = .ok (.int .i64 x1) X := fun X hX => by
        have q := (RK X hX).1
        go_simp
      have hld1 : ∀ X, MW w (.slice (some ⟨g, 0, none⟩) la capa) (.slice ab lb capb) X → (Instr.loadAt 3 (.pointer (some ⟨g, k * 2 + 1, none⟩))).run Tryz.prog X = .ok (.int .i64 u) X := fun X hX => by
        have q := (RK X hX).2
        go_simp
      have hix : ∀ X : World, (Instr.indexAt 42 (.slice (some ⟨g, 0, none⟩) la capa) (.int .i64 (k : Nat))).run Tryz.prog X = .ok (.pointer (some ⟨g, k * 2, none⟩)) X := fun X => by go_simp
      have hi0 : ∀ X : World, (Instr.indexAt 103 (.pointer (some ⟨g, k * 2, none⟩)) (.int .i64 0)).run Tryz.prog X = .ok (.pointer (some ⟨g, k * 2, none⟩)) X := fun X => by go_simp
      have hi1 : ∀ X : World, (Instr.indexAt 103 (.pointer (some ⟨g, k * 2, none⟩)) (.int .i64 1)).run Tryz.prog X = .ok (.pointer (some ⟨g, k * 2 + 1, none⟩)) X := fun X => by go_simp
      have had : ∀ (X : World) (y1 y2 : Operand), (do eqGuard .add 3 y1 y2 (.int .i64 u) (.int .i64 1); binOp .add 3 (.int .i64 u) (.int .i64 1) : Sem Value).run Tryz.prog X = .ok (.int .i64 x2) X := fun X y1 y2 => add_one_ X y1 y2 u x2 ((IntWalk.i64_in _ (by omega)).trans (by omega))
      have QS : Hid (∀ (D : Nat → Bool) (i : Nat) X, i ≠ 7 → (MW w (.slice (some ⟨g, 0, none⟩) la capa) (.slice ab lb capb) X ∧ (D 7 = false → EdgO B u7 l0 X)) → (MW w (.slice (some ⟨g, 0, none⟩) la capa) (.slice ab lb capb) X ∧ ((D 7 || 7 == i) = false → EdgO B u7 l0 X))) := Lib.hid fun D i X _ h => ⟨h.1, fun e => h.2 (orb_l e)⟩
      have QP : Hid (∀ (D : Nat → Bool) (i j : Nat) v X, pM5 w.heap.size B la capa g k u7 l0 x1 u x2 D j v X → pM5 w.heap.size B la capa g k u7 l0 x1 u x2 (fun j => D j || j == i) j v X) := Lib.hid fun D i j v X h => by
        unfold pM5 at h ⊢
        split at h <;> first | exact h | exact fun e => h (orb_l e)
      have PK : Hid (∀ (D D' : Nat → Bool) (j : Nat) v X Y, j ≠ 7 → j ≠ 15 → j ≠ 16 → pM5 w.heap.size B la capa g k u7 l0 x1 u x2 D j v X → pM5 w.heap.size B la capa g k u7 l0 x1 u x2 D' j v Y) := Lib.hid fun D D' j v X Y h7 h15 h16 h => by
        unfold pM5 at h ⊢
        split at h <;> first | exact h | (exfalso; omega)
      have S0 : MW w (.slice (some ⟨g, 0, none⟩) la capa) (.slice ab lb capb) wr.drew ∧ ((fun _ : Nat => false) 7 = false → EdgO B u7 l0 wr.drew) := ⟨HM.out.next (show Below wr.heap.size wr (wr.drewN 1) from below_drewN (Below.refl _ _) 1), fun _ => HE.out.next (show Below wr.heap.size wr (wr.drewN 1) from below_drewN (Below.refl _ _) 1)⟩
      have HS0 := Lib.hid S0
      have HFF := Lib.hid (And.intro hf hu)
      have HBB := Lib.hid hB
      clear S0 hlen hf hu hx hB
      go_wp2_with fail
      refine wp_region_told (fun D X => MW w (.slice (some ⟨g, 0, none⟩) la capa) (.slice ab lb capb) X ∧ (D 7 = false → EdgO B u7 l0 X)) (pM5 w.heap.size B la capa g k u7 l0 x1 u x2) (by kernel_rfl) (by kernel_rfl) (by kernel_rfl) ⟨HS0.out.1, fun _ => HS0.out.2 trivial⟩ ?hs ?hd
      case hs =>
        refine TSteps.cons ?_ (TSteps.cons ?_ (TSteps.cons ?_ (TSteps.cons ?_ (TSteps.cons ?_ (TSteps.cons ?_ (TSteps.cons ?_ (TSteps.cons ?_ (TSteps.cons ?_ (TSteps.cons ?_ (TSteps.cons ?_ (TSteps.cons ?_ (TSteps.cons ?_ (TSteps.cons ?_ (TSteps.cons ?_ (TSteps.cons ?_ (TSteps.cons ?_ (TSteps.nil)))))))))))))))))
        · intro D a X hi hnw hcl hw hX hL hU hd
          refine ⟨rfl, ?_⟩
          have e0 : a.eval (.tmp 7) = u7 := (hU 16 7 (hnw 16 (by kernel_rfl)) (by kernel_rfl)).trans (by kernel_rfl)
          exact wp_value (exec_move rfl e0) ⟨_, rfl, QS.out D 0 X (by decide) hX, fun j u _ h => QP.out D 0 j u X h, rfl⟩
        · intro D a X hi hnw hcl hw hX hL hU hd
          refine ⟨rfl, ?_⟩
          have e0 : a.eval (.tmp 3) = .pointer (some ⟨w.heap.size, 0, none⟩) := hL.far 3 (by kernel_rfl)
          exact wp_value (exec_fieldAddr rfl e0 (hfa X)) ⟨_, rfl, QS.out D 1 X (by decide) hX, fun j u _ h => QP.out D 1 j u X h, rfl⟩
        · intro D a X hi hnw hcl hw hX hL hU hd
          refine ⟨rfl, ?_⟩
          have e0 : a.eval (.tmp 22) = .pointer (some ⟨w.heap.size, 0, none⟩) := hd 1 22 (by kernel_rfl) (by kernel_rfl)
          exact wp_value (exec_load rfl e0 (hls X hX.1)) ⟨_, rfl, QS.out D 2 X (by decide) hX, fun j u _ h => QP.out D 2 j u X h, rfl⟩
        · intro D a X hi hnw hcl hw hX hL hU hd
          refine ⟨rfl, ?_⟩
          have e0 : a.eval (.tmp 8) = .int .i64 (k : Nat) := hL.far 8 (by kernel_rfl)
          exact wp_value (exec_move rfl e0) ⟨_, rfl, QS.out D 3 X (by decide) hX, fun j u _ h => QP.out D 3 j u X h, rfl⟩
        · intro D a X hi hnw hcl hw hX hL hU hd
          refine ⟨rfl, ?_⟩
          have e0 : a.eval (.tmp 23) = .slice (some ⟨g, 0, none⟩) la capa := hd 2 23 (by kernel_rfl) (by kernel_rfl)
          have e1 : a.eval (.tmp 24) = .int .i64 (k : Nat) := hd 3 24 (by kernel_rfl) (by kernel_rfl)
          exact wp_value (exec_indexAddr rfl e0 e1 (hix X)) ⟨_, rfl, QS.out D 4 X (by decide) hX, fun j u _ h => QP.out D 4 j u X h, rfl⟩
        · intro D a X hi hnw hcl hw hX hL hU hd
          refine ⟨rfl, ?_⟩
          have e0 : a.eval (.tmp 25) = .pointer (some ⟨g, k * 2, none⟩) := hd 4 25 (by kernel_rfl) (by kernel_rfl)
          exact wp_value (exec_indexAddr rfl e0 rfl (hi0 X)) ⟨_, rfl, QS.out D 5 X (by decide) hX, fun j u _ h => QP.out D 5 j u X h, rfl⟩
        · intro D a X hi hnw hcl hw hX hL hU hd
          refine ⟨rfl, ?_⟩
          have e0 : a.eval (.tmp 26) = .pointer (some ⟨g, k * 2, none⟩) := hd 5 26 (by kernel_rfl) (by kernel_rfl)
          exact wp_value (exec_load rfl e0 (hld0 X hX.1)) ⟨_, rfl, QS.out D 6 X (by decide) hX, fun j u _ h => QP.out D 6 j u X h, rfl⟩
        · intro D a X hi hnw hcl hw hX hL hU hd
          refine ⟨rfl, ?_⟩
          have e0 : a.eval (.tmp 21) = u7 := hd 0 21 (by kernel_rfl) (by kernel_rfl)
          have e1 : a.eval (.tmp 27) = .int .i64 x1 := hd 6 27 (by kernel_rfl) (by kernel_rfl)
          refine wp_enter (exec_call (vs := #[u7, .int .i64 x1]) rfl (by simp only [List.map_toArray, List.map_cons, List.map_nil, e0, e1]) Tryz.func131 rfl rfl) ?_
          refine (edg_put B u7 l0 x1 X (hX.2 hi) (hBX.out X hX.1) hl0).mono ?_
          rintro e w' ⟨v', rfl, hv', hk⟩
          exact ⟨_, rfl, _, rfl, ⟨hX.1.keep hk (fun b h => hBn.out b h), fun e => by simp at e⟩, fun j u hj h => PK.out D _ j u X _ (fun e => by subst e; rw [hi] at hj; cases hj) (fun e => by subst e; rw [hnw 15 (by kernel_rfl)] at hj; cases hj) (fun e => by subst e; have := hcl 16 15 hj (by kernel_rfl); rw [hnw 15 (by kernel_rfl)] at this; cases this) h, fun _ => hv'⟩
        · intro D a X hi hnw hcl hw hX hL hU hd
          refine ⟨rfl, ?_⟩
          have e0 : a.eval (.tmp 3) = .pointer (some ⟨w.heap.size, 0, none⟩) := hL.far 3 (by kernel_rfl)
          exact wp_value (exec_fieldAddr rfl e0 (hfa X)) ⟨_, rfl, QS.out D 8 X (by decide) hX, fun j u _ h => QP.out D 8 j u X h, rfl⟩
        · intro D a X hi hnw hcl hw hX hL hU hd
          refine ⟨rfl, ?_⟩
          have e0 : a.eval (.tmp 29) = .pointer (some ⟨w.heap.size, 0, none⟩) := hd 8 29 (by kernel_rfl) (by kernel_rfl)
          exact wp_value (exec_load rfl e0 (hls X hX.1)) ⟨_, rfl, QS.out D 9 X (by decide) hX, fun j u _ h => QP.out D 9 j u X h, rfl⟩
        · intro D a X hi hnw hcl hw hX hL hU hd
          refine ⟨rfl, ?_⟩
          have e0 : a.eval (.tmp 8) = .int .i64 (k : Nat) := hL.far 8 (by kernel_rfl)
          exact wp_value (exec_move rfl e0) ⟨_, rfl, QS.out D 10 X (by decide) hX, fun j u _ h => QP.out D 10 j u X h, rfl⟩
        · intro D a X hi hnw hcl hw hX hL hU hd
          refine ⟨rfl, ?_⟩
          have e0 : a.eval (.tmp 30) = .slice (some ⟨g, 0, none⟩) la capa := hd 9 30 (by kernel_rfl) (by kernel_rfl)
          have e1 : a.eval (.tmp 31) = .int .i64 (k : Nat) := hd 10 31 (by kernel_rfl) (by kernel_rfl)
          exact wp_value (exec_indexAddr rfl e0 e1 (hix X)) ⟨_, rfl, QS.out D 11 X (by decide) hX, fun j u _ h => QP.out D 11 j u X h, rfl⟩
        · intro D a X hi hnw hcl hw hX hL hU hd
          refine ⟨rfl, ?_⟩
          have e0 : a.eval (.tmp 32) = .pointer (some ⟨g, k * 2, none⟩) := hd 11 32 (by kernel_rfl) (by kernel_rfl)
          exact wp_value (exec_indexAddr rfl e0 rfl (hi1 X)) ⟨_, rfl, QS.out D 12 X (by decide) hX, fun j u _ h => QP.out D 12 j u X h, rfl⟩
        · intro D a X hi hnw hcl hw hX hL hU hd
          refine ⟨rfl, ?_⟩
          have e0 : a.eval (.tmp 33) = .pointer (some ⟨g, k * 2 + 1, none⟩) := hd 12 33 (by kernel_rfl) (by kernel_rfl)
          exact wp_value (exec_load rfl e0 (hld1 X hX.1)) ⟨_, rfl, QS.out D 13 X (by decide) hX, fun j u _ h => QP.out D 13 j u X h, rfl⟩
        · intro D a X hi hnw hcl hw hX hL hU hd
          refine ⟨rfl, ?_⟩
          have e0 : a.eval (.tmp 34) = .int .i64 u := hd 13 34 (by kernel_rfl) (by kernel_rfl)
          exact wp_value (exec_binop rfl e0 rfl (had X _ _)) ⟨_, rfl, QS.out D 14 X (by decide) hX, fun j u _ h => QP.out D 14 j u X h, rfl⟩
        · intro D a X hi hnw hcl hw hX hL hU hd
          refine ⟨rfl, ?_⟩
          have q0 : (fun D v W => D 15 = false → EdgO B v (putL l0 x1) W) D (a.eval (.tmp 28)) X := hd 7 28 (by kernel_rfl) (by kernel_rfl)
          have e1 : a.eval (.tmp 35) = .int .i64 x2 := hd 14 35 (by kernel_rfl) (by kernel_rfl)
          refine wp_enter (exec_call (vs := #[a.eval (.tmp 28), .int .i64 x2]) rfl (by simp only [List.map_toArray, List.map_cons, List.map_nil, e1]) Tryz.func131 rfl rfl) ?_
          refine (edg_put B _ (putL l0 x1) x2 X (q0 hi) (hBX.out X hX.1) hl1).mono ?_
          rintro e w' ⟨v', rfl, hv', hk⟩
          refine ⟨_, rfl, _, rfl, ⟨hX.1.keep hk (fun b h => hBn.out b h), fun e => absurd (orb_l e) (by rw [hw 7 (by kernel_rfl)]; simp)⟩, fun j u hj h => ?_, hv'⟩
          by_cases h7 : j = 7
          · subst h7
            exact fun e => by simp at e
          · exact PK.out D _ j u X _ h7 (fun e => by subst e; rw [hi] at hj; cases hj) (fun e => by subst e; have := hcl 16 15 hj (by kernel_rfl); rw [hi] at this; cases this) h
        · intro D a X hi hnw hcl hw hX hL hU hd
          refine ⟨rfl, ?_⟩
          have q0 : (fun _D v W => EdgO B v (putL (putL l0 x1) x2) W) D (a.eval (.tmp 36)) X := hd 15 36 (by kernel_rfl) (by kernel_rfl)
          exact wp_value (exec_asg rfl rfl) ⟨_, rfl, QS.out D 16 X (by decide) hX, fun j u _ h => QP.out D 16 j u X h, q0⟩
      case hd =>
        intro D a2 X hAll hX hL hd hE2
        have h7 := hd 16 7 (by kernel_rfl)
        obtain ⟨f, ha2, hf⟩ := hL.out [21, 22, 23, 24, 25, 26, 27, 28, 29, 30, 31, 32, 33, 34, 35, 36, 7] rfl
        have v7 : f 7 = a2.tmps.getD 7 undef := hf 7
        rw [← v7] at h7
        have HX := Lib.hid (And.intro h7 hX.1)
        clear hf hAll hX hL hd hE2 h7 v7 hfa hls RK hld0 hld1 hix hi0 hi1 had
        simp only [List.foldl_cons, List.foldl_nil, List.setIfInBounds_toArray, List.set_cons_zero, List.set_cons_succ] at ha2
        subst ha2
        generalize f 7 = y7 at *
        go_wp2_with fail
        go_roundw
        case rel =>
          have hrl : EdgO (w.heap.size + 3) y7 (edgL (a.take (k + 1)) [0, 1112192]) X := by rw [HT.out, HBB.out]; exact HX.out.1
          first
            | exact ⟨k + 1, by go_num, by omega, hrl, HX.out.2⟩
            | ((repeat apply Exists.intro); exact ⟨⟨by go_num, by omega, hrl, HX.out.2⟩, rfl⟩)
            | ((repeat apply Exists.intro); exact ⟨⟨k + 1, by go_num, by omega, hrl, HX.out.2⟩, rfl⟩)
        case measure => simp [RowKit.intOf]; omega
    · have hlt' : ¬ (k : Int) < la := by omega
      obtain rfl : la = k := by omega
      have e1 : a.take la = a := by rw [← HNA.out, List.take_length]
      rw [e1] at HE
      have hlE := edgL_len a [0, 1112192]
      rw [HNA.out] at hlE
      simp only [List.length_cons, List.length_nil] at hlE
      obtain ⟨E1, hE1⟩ : ∃ E, edgL a [0, 1112192] = E := ⟨_, rfl⟩
      rw [hE1] at HE hlE
      have HE1 := Lib.hid hE1
      clear hE1 e1
      obtain ⟨wo, hwo⟩ : ∃ W : World, W = wr := ⟨_, rfl⟩
      subst hwo
      go_wp2_with fail
      go_loopw [7, 9] (fun es x wr => ∃ k : Nat, x = .int .i64 k ∧ k ≤ lb ∧ EdgO (w.heap.size + 3) es (edgL (b.take k) E1) wr ∧ MW w (.slice aa la capa) (.slice ab lb capb) wr) (fun _ x _ => lb - (RowKit.intOf x).toNat)
      case atStart => exact ⟨0, rfl, by omega, HE.out, HM.out⟩
      case round =>
        clear HE HM ca
        obtain ⟨k, rfl, hk, he, hm⟩ := hrel
        have HE := Lib.hid he
        have HM := Lib.hid hm
        have cb := hm.cb
        clear he hm
        by_cases hlt : k < lb
        · have hlt' : (k : Int) < lb := by omega
          obtain ⟨x, hx⟩ : ∃ x, b[k]? = some x := ⟨_, List.getElem?_eq_getElem (by rw [HNB.out]; exact hlt)⟩
          obtain ⟨g, rfl, _, _⟩ := HRB.out wr HM.out.2.2.2.1 k x hx
          have hf := Canon.fit HCB.out x (List.mem_of_getElem? hx)
          unfold allN at hf
          have HT := Lib.hid (edgL_take b E1 k x hx)
          obtain ⟨x1, x2⟩ := x
          simp only at hf
          try simp only at HT
          obtain ⟨u, hu⟩ : ∃ u, x2 - 1 = u := ⟨_, rfl⟩
          obtain ⟨l0, hl⟩ : ∃ l, edgL (b.take k) E1 = l := ⟨_, rfl⟩
          rw [hl] at HE HT
          have hlen := edgL_len (b.take k) E1
          rw [hl, List.length_take] at hlen
          have hl0 : l0.length ≤ 1099511627776 := by omega
          have hl1 : (putL l0 x1).length ≤ 1099511627776 := by have := putL_len x1 l0; omega
          obtain ⟨B, hB⟩ : ∃ B, w.heap.size + 3 = B := ⟨_, rfl⟩
          have hBX : Hid (∀ X, MW w (.slice aa la capa) (.slice (some ⟨g, 0, none⟩) lb capb) X → B ≤ X.heap.size) := Lib.hid fun X h => by rw [← hB]; exact h.2.2.2.2
          have hBn : Hid (∀ b, B ≤ b → w.heap.size + 3 ≤ b) := Lib.hid fun b h => by omega
          rw [hB] at HE
          have hfa : ∀ X : World, (Instr.fieldAt 44 (.pointer (some ⟨w.heap.size + 1, 0, none⟩)) 0).run Tryz.prog X = .ok (.pointer (some ⟨w.heap.size + 1, 0, none⟩)) X := fun X => by go_simp
          have hls : ∀ X, MW w (.slice aa la capa) (.slice (some ⟨g, 0, none⟩) lb capb) X → (Instr.loadAt 42 (.pointer (some ⟨w.heap.size + 1, 0, none⟩))).run Tryz.prog X = .ok (.slice (some ⟨g, 0, none⟩) lb capb) X := fun X hX => by
            have q := hX.cb
            go_simp
          have RK : ∀ X, MW w (.slice aa la capa) (.slice (some ⟨g, 0, none⟩) lb capb) X → X.cell? ⟨g, k * 2, none⟩ = some (.int .i64 x1) ∧ X.cell? ⟨g, k * 2 + 1, none⟩ = some (.int .i64 u) := fun X hX => by
            obtain ⟨g', e, h1, h2⟩ := HRB.out X hX.2.2.2.1 k _ hx
            injection e with e
            injection e with e
            subst e
            simp only [hu] at h2
            exact ⟨h1, h2⟩
          have hld0 : ∀ X, MW w (.slice aa la capa) (.slice (some ⟨g, 0, none⟩) lb capb) X → (Instr.loadAt 3 (.pointer (some ⟨g, k * 2, none⟩))).run Tryz.prog X = .ok (.int .i64 x1) X := fun X hX => by
            have q := (RK X hX).1
            go_simp
          have hld1 : ∀ X, MW w (.slice aa la capa) (.slice (some ⟨g, 0, none⟩) lb capb) X → (Instr.loadAt 3 (.pointer (some ⟨g, k * 2 + 1, none⟩))).run Tryz.prog X = .ok (.int .i64 u) X := fun X hX => by
            have q := (RK X hX).2
            go_simp
          have hix : ∀ X : World, (Instr.indexAt 42 (.slice (some ⟨g, 0, none⟩) lb capb) (.int .i64 (k : Nat))).run Tryz.prog X = .ok (.pointer (some ⟨g, k * 2, none⟩)) X := fun X => by go_simp
          have hi0 : ∀ X : World, (Instr.indexAt 103 (.pointer (some ⟨g, k * 2, none⟩)) (.int .i64 0)).run Tryz.prog X = .ok (.pointer (some ⟨g, k * 2, none⟩)) X := fun X => by go_simp
          have hi1 : ∀ X : World, (Instr.indexAt 103 (.pointer (some ⟨g, k * 2, none⟩)) (.int .i64 1)).run Tryz.prog X = .ok (.pointer (some ⟨g, k * 2 + 1, none⟩)) X := fun X => by go_simp
          have had : ∀ (X : World) (y1 y2 : Operand), (do eqGuard .add 3 y1 y2 (.int .i64 u) (.int .i64 1); binOp .add 3 (.int .i64 u) (.int .i64 1) : Sem Value).run Tryz.prog X = .ok (.int .i64 x2) X := fun X y1 y2 => add_one_ X y1 y2 u x2 ((IntWalk.i64_in _ (by omega)).trans (by omega))
          have QS : Hid (∀ (D : Nat → Bool) (i : Nat) X, i ≠ 7 → (MW w (.slice aa la capa) (.slice (some ⟨g, 0, none⟩) lb capb) X ∧ (D 7 = false → EdgO B u7 l0 X)) → (MW w (.slice aa la capa) (.slice (some ⟨g, 0, none⟩) lb capb) X ∧ ((D 7 || 7 == i) = false → EdgO B u7 l0 X))) := Lib.hid fun D i X _ h => ⟨h.1, fun e => h.2 (orb_l e)⟩
          have QP : Hid (∀ (D : Nat → Bool) (i j : Nat) v X, pM9 w.heap.size B lb capb g k u7 l0 x1 u x2 D j v X → pM9 w.heap.size B lb capb g k u7 l0 x1 u x2 (fun j => D j || j == i) j v X) := Lib.hid fun D i j v X h => by
            unfold pM9 at h ⊢
            split at h <;> first | exact h | exact fun e => h (orb_l e)
          have PK : Hid (∀ (D D' : Nat → Bool) (j : Nat) v X Y, j ≠ 7 → j ≠ 15 → j ≠ 16 → pM9 w.heap.size B lb capb g k u7 l0 x1 u x2 D j v X → pM9 w.heap.size B lb capb g k u7 l0 x1 u x2 D' j v Y) := Lib.hid fun D D' j v X Y h7 h15 h16 h => by
            unfold pM9 at h ⊢
            split at h <;> first | exact h | (exfalso; omega)
          have S0 : MW w (.slice aa la capa) (.slice (some ⟨g, 0, none⟩) lb capb) wr.drew ∧ ((fun _ : Nat => false) 7 = false → EdgO B u7 l0 wr.drew) := ⟨HM.out.next (show Below wr.heap.size wr (wr.drewN 1) from below_drewN (Below.refl _ _) 1), fun _ => HE.out.next (show Below wr.heap.size wr (wr.drewN 1) from below_drewN (Below.refl _ _) 1)⟩
          have HS0 := Lib.hid S0
          have HFF := Lib.hid (And.intro hf hu)
          have HBB := Lib.hid hB
          clear S0 hlen hf hu hx hB
          go_wp2_with fail
          refine wp_region_told (fun D X => MW w (.slice aa la capa) (.slice (some ⟨g, 0, none⟩) lb capb) X ∧ (D 7 = false → EdgO B u7 l0 X)) (pM9 w.heap.size B lb capb g k u7 l0 x1 u x2) (by kernel_rfl) (by kernel_rfl) (by kernel_rfl) ⟨HS0.out.1, fun _ => HS0.out.2 trivial⟩ ?hs ?hd
          case hs =>
            refine TSteps.cons ?_ (TSteps.cons ?_ (TSteps.cons ?_ (TSteps.cons ?_ (TSteps.cons ?_ (TSteps.cons ?_ (TSteps.cons ?_ (TSteps.cons ?_ (TSteps.cons ?_ (TSteps.cons ?_ (TSteps.cons ?_ (TSteps.cons ?_ (TSteps.cons ?_ (TSteps.cons ?_ (TSteps.cons ?_ (TSteps.cons ?_ (TSteps.cons ?_ (TSteps.nil)))))))))))))))))
            · intro D a X hi hnw hcl hw hX hL hU hd
              refine ⟨rfl, ?_⟩
              have e0 : a.eval (.tmp 7) = u7 := (hU 16 7 (hnw 16 (by kernel_rfl)) (by kernel_rfl)).trans (by kernel_rfl)
              exact wp_value (exec_move rfl e0) ⟨_, rfl, QS.out D 0 X (by decide) hX, fun j u _ h => QP.out D 0 j u X h, rfl⟩
            · intro D a X hi hnw hcl hw hX hL hU hd
              refine ⟨rfl, ?_⟩
              have e0 : a.eval (.tmp 4) = .pointer (some ⟨w.heap.size + 1, 0, none⟩) := hL.far 4 (by kernel_rfl)
              exact wp_value (exec_fieldAddr rfl e0 (hfa X)) ⟨_, rfl, QS.out D 1 X (by decide) hX, fun j u _ h => QP.out D 1 j u X h, rfl⟩
            · intro D a X hi hnw hcl hw hX hL hU hd
              refine ⟨rfl, ?_⟩
              have e0 : a.eval (.tmp 45) = .pointer (some ⟨w.heap.size + 1, 0, none⟩) := hd 1 45 (by kernel_rfl) (by kernel_rfl)
              exact wp_value (exec_load rfl e0 (hls X hX.1)) ⟨_, rfl, QS.out D 2 X (by decide) hX, fun j u _ h => QP.out D 2 j u X h, rfl⟩
            · intro D a X hi hnw hcl hw hX hL hU hd
              refine ⟨rfl, ?_⟩
              have e0 : a.eval (.tmp 9) = .int .i64 (k : Nat) := hL.far 9 (by kernel_rfl)
              exact wp_value (exec_move rfl e0) ⟨_, rfl, QS.out D 3 X (by decide) hX, fun j u _ h => QP.out D 3 j u X h, rfl⟩
            · intro D a X hi hnw hcl hw hX hL hU hd
              refine ⟨rfl, ?_⟩
              have e0 : a.eval (.tmp 46) = .slice (some ⟨g, 0, none⟩) lb capb := hd 2 46 (by kernel_rfl) (by kernel_rfl)
              have e1 : a.eval (.tmp 47) = .int .i64 (k : Nat) := hd 3 47 (by kernel_rfl) (by kernel_rfl)
              exact wp_value (exec_indexAddr rfl e0 e1 (hix X)) ⟨_, rfl, QS.out D 4 X (by decide) hX, fun j u _ h => QP.out D 4 j u X h, rfl⟩
            · intro D a X hi hnw hcl hw hX hL hU hd
              refine ⟨rfl, ?_⟩
              have e0 : a.eval (.tmp 48) = .pointer (some ⟨g, k * 2, none⟩) := hd 4 48 (by kernel_rfl) (by kernel_rfl)
              exact wp_value (exec_indexAddr rfl e0 rfl (hi0 X)) ⟨_, rfl, QS.out D 5 X (by decide) hX, fun j u _ h => QP.out D 5 j u X h, rfl⟩
            · intro D a X hi hnw hcl hw hX hL hU hd
              refine ⟨rfl, ?_⟩
              have e0 : a.eval (.tmp 49) = .pointer (some ⟨g, k * 2, none⟩) := hd 5 49 (by kernel_rfl) (by kernel_rfl)
              exact wp_value (exec_load rfl e0 (hld0 X hX.1)) ⟨_, rfl, QS.out D 6 X (by decide) hX, fun j u _ h => QP.out D 6 j u X h, rfl⟩
            · intro D a X hi hnw hcl hw hX hL hU hd
              refine ⟨rfl, ?_⟩
              have e0 : a.eval (.tmp 44) = u7 := hd 0 44 (by kernel_rfl) (by kernel_rfl)
              have e1 : a.eval (.tmp 50) = .int .i64 x1 := hd 6 50 (by kernel_rfl) (by kernel_rfl)
              refine wp_enter (exec_call (vs := #[u7, .int .i64 x1]) rfl (by simp only [List.map_toArray, List.map_cons, List.map_nil, e0, e1]) Tryz.func131 rfl rfl) ?_
              refine (edg_put B u7 l0 x1 X (hX.2 hi) (hBX.out X hX.1) hl0).mono ?_
              rintro e w' ⟨v', rfl, hv', hk⟩
              exact ⟨_, rfl, _, rfl, ⟨hX.1.keep hk (fun b h => hBn.out b h), fun e => by simp at e⟩, fun j u hj h => PK.out D _ j u X _ (fun e => by subst e; rw [hi] at hj; cases hj) (fun e => by subst e; rw [hnw 15 (by kernel_rfl)] at hj; cases hj) (fun e => by subst e; have := hcl 16 15 hj (by kernel_rfl); rw [hnw 15 (by kernel_rfl)] at this; cases this) h, fun _ => hv'⟩
            · intro D a X hi hnw hcl hw hX hL hU hd
              refine ⟨rfl, ?_⟩
              have e0 : a.eval (.tmp 4) = .pointer (some ⟨w.heap.size + 1, 0, none⟩) := hL.far 4 (by kernel_rfl)
              exact wp_value (exec_fieldAddr rfl e0 (hfa X)) ⟨_, rfl, QS.out D 8 X (by decide) hX, fun j u _ h => QP.out D 8 j u X h, rfl⟩
            · intro D a X hi hnw hcl hw hX hL hU hd
              refine ⟨rfl, ?_⟩
              have e0 : a.eval (.tmp 52) = .pointer (some ⟨w.heap.size + 1, 0, none⟩) := hd 8 52 (by kernel_rfl) (by kernel_rfl)
              exact wp_value (exec_load rfl e0 (hls X hX.1)) ⟨_, rfl, QS.out D 9 X (by decide) hX, fun j u _ h => QP.out D 9 j u X h, rfl⟩
            · intro D a X hi hnw hcl hw hX hL hU hd
              refine ⟨rfl, ?_⟩
              have e0 : a.eval (.tmp 9) = .int .i64 (k : Nat) := hL.far 9 (by kernel_rfl)
              exact wp_value (exec_move rfl e0) ⟨_, rfl, QS.out D 10 X (by decide) hX, fun j u _ h => QP.out D 10 j u X h, rfl⟩
            · intro D a X hi hnw hcl hw hX hL hU hd
              refine ⟨rfl, ?_⟩
              have e0 : a.eval (.tmp 53) = .slice (some ⟨g, 0, none⟩) lb capb := hd 9 53 (by kernel_rfl) (by kernel_rfl)
              have e1 : a.eval (.tmp 54) = .int .i64 (k : Nat) := hd 10 54 (by kernel_rfl) (by kernel_rfl)
              exact wp_value (exec_indexAddr rfl e0 e1 (hix X)) ⟨_, rfl, QS.out D 11 X (by decide) hX, fun j u _ h => QP.out D 11 j u X h, rfl⟩
            · intro D a X hi hnw hcl hw hX hL hU hd
              refine ⟨rfl, ?_⟩
              have e0 : a.eval (.tmp 55) = .pointer (some ⟨g, k * 2, none⟩) := hd 11 55 (by kernel_rfl) (by kernel_rfl)
              exact wp_value (exec_indexAddr rfl e0 rfl (hi1 X)) ⟨_, rfl, QS.out D 12 X (by decide) hX, fun j u _ h => QP.out D 12 j u X h, rfl⟩
            · intro D a X hi hnw hcl hw hX hL hU hd
              refine ⟨rfl, ?_⟩
              have e0 : a.eval (.tmp 56) = .pointer (some ⟨g, k * 2 + 1, none⟩) := hd 12 56 (by kernel_rfl) (by kernel_rfl)
              exact wp_value (exec_load rfl e0 (hld1 X hX.1)) ⟨_, rfl, QS.out D 13 X (by decide) hX, fun j u _ h => QP.out D 13 j u X h, rfl⟩
            · intro D a X hi hnw hcl hw hX hL hU hd
              refine ⟨rfl, ?_⟩
              have e0 : a.eval (.tmp 57) = .int .i64 u := hd 13 57 (by kernel_rfl) (by kernel_rfl)
              exact wp_value (exec_binop rfl e0 rfl (had X _ _)) ⟨_, rfl, QS.out D 14 X (by decide) hX, fun j u _ h => QP.out D 14 j u X h, rfl⟩
            · intro D a X hi hnw hcl hw hX hL hU hd
              refine ⟨rfl, ?_⟩
              have q0 : (fun D v W => D 15 = false → EdgO B v (putL l0 x1) W) D (a.eval (.tmp 51)) X := hd 7 51 (by kernel_rfl) (by kernel_rfl)
              have e1 : a.eval (.tmp 58) = .int .i64 x2 := hd 14 58 (by kernel_rfl) (by kernel_rfl)
              refine wp_enter (exec_call (vs := #[a.eval (.tmp 51), .int .i64 x2]) rfl (by simp only [List.map_toArray, List.map_cons, List.map_nil, e1]) Tryz.func131 rfl rfl) ?_
              refine (edg_put B _ (putL l0 x1) x2 X (q0 hi) (hBX.out X hX.1) hl1).mono ?_
              rintro e w' ⟨v', rfl, hv', hk⟩
              refine ⟨_, rfl, _, rfl, ⟨hX.1.keep hk (fun b h => hBn.out b h), fun e => absurd (orb_l e) (by rw [hw 7 (by kernel_rfl)]; simp)⟩, fun j u hj h => ?_, hv'⟩
              by_cases h7 : j = 7
              · subst h7
                exact fun e => by simp at e
              · exact PK.out D _ j u X _ h7 (fun e => by subst e; rw [hi] at hj; cases hj) (fun e => by subst e; have := hcl 16 15 hj (by kernel_rfl); rw [hi] at this; cases this) h
            · intro D a X hi hnw hcl hw hX hL hU hd
              refine ⟨rfl, ?_⟩
              have q0 : (fun _D v W => EdgO B v (putL (putL l0 x1) x2) W) D (a.eval (.tmp 59)) X := hd 15 59 (by kernel_rfl) (by kernel_rfl)
              exact wp_value (exec_asg rfl rfl) ⟨_, rfl, QS.out D 16 X (by decide) hX, fun j u _ h => QP.out D 16 j u X h, q0⟩
          case hd =>
            intro D a2 X hAll hX hL hd hE2
            have h7 := hd 16 7 (by kernel_rfl)
            obtain ⟨f, ha2, hf⟩ := hL.out [44, 45, 46, 47, 48, 49, 50, 51, 52, 53, 54, 55, 56, 57, 58, 59, 7] rfl
            have v7 : f 7 = a2.tmps.getD 7 undef := hf 7
            rw [← v7] at h7
            have HX := Lib.hid (And.intro h7 hX.1)
            clear hf hAll hX hL hd hE2 h7 v7 hfa hls RK hld0 hld1 hix hi0 hi1 had
            simp only [List.foldl_cons, List.foldl_nil, List.setIfInBounds_toArray, List.set_cons_zero, List.set_cons_succ] at ha2
            subst ha2
            generalize f 7 = y7 at *
            go_wp2_with fail
            go_roundw
            case rel =>
              have hrl : EdgO (w.heap.size + 3) y7 (edgL (b.take (k + 1)) E1) X := by rw [HT.out, HBB.out]; exact HX.out.1
              first
                | exact ⟨k + 1, by go_num, by omega, hrl, HX.out.2⟩
                | ((repeat apply Exists.intro); exact ⟨⟨by go_num, by omega, hrl, HX.out.2⟩, rfl⟩)
                | ((repeat apply Exists.intro); exact ⟨⟨k + 1, by go_num, by omega, hrl, HX.out.2⟩, rfl⟩)
            case measure => simp [RowKit.intOf]; omega
        · have hlt' : ¬ (k : Int) < lb := by omega
          obtain rfl : lb = k := by omega
          have e1 : b.take lb = b := by rw [← HNB.out, List.take_length]
          rw [e1] at HE
          obtain ⟨ES, hES⟩ : ∃ E, edgL b E1 = E := ⟨_, rfl⟩
          rw [hES] at HE
          have hlS := edgL_len b E1
          rw [hES, HNB.out] at hlS
          have hES2 : edgL b (edgL a [0, allN]) = ES := by rw [show allN = 1112192 from rfl, HE1.out, hES]
          have HMK : Hid (madeL how a b = mkR (fun x => saysB how (hasL a x) (hasL b x)) ES []) := Lib.hid (by unfold madeL; rw [hES2])
          have HBD : Hid (∀ e ∈ ES, 0 ≤ e ∧ e ≤ 1112192) := Lib.hid (fun e he => by
            rw [← hES2, edgL_mem, edgL_mem] at he
            simp only [List.mem_cons, List.not_mem_nil, or_false] at he
            have h0 : allN = 1112192 := rfl
            rcases he with ((h | h) | ⟨x, hx, h⟩) | ⟨x, hx, h⟩
            · omega
            · omega
            · have := Canon.fit HCA.out x hx
              rcases h with h | h <;> omega
            · have := Canon.fit HCB.out x hx
              rcases h with h | h <;> omega)
          have hne : 1 ≤ ES.length := by
            have : (0 : Int) ∈ ES := by rw [← hES2, edgL_mem, edgL_mem]; simp
            exact List.length_pos_of_mem this
          obtain ⟨ae, me, ce, rfl, hme, hoe⟩ := HE.out
          obtain ⟨ge, rfl⟩ : ∃ ge, ae = some ⟨ge, 0, none⟩ := by
            obtain ⟨z, hz⟩ : ∃ z, ES[0]? = some z := ⟨_, List.getElem?_eq_getElem (by omega)⟩
            obtain ⟨g, e, _⟩ := own_int_at hoe hz (by omega)
            exact ⟨g, e⟩
          have HCE : Hid (∀ (i : Nat) (x : Int), ES[i]? = some x → ∀ X, Below wr.heap.size wr X → X.cell? ⟨ge, i, none⟩ = some (.int .i64 x)) := Lib.hid fun i x hx X hX => by
            obtain ⟨g, e, h, _⟩ := own_int_at hoe hx (by rw [hme]; exact (List.getElem?_eq_some_iff.1 hx).1)
            injection e with e
            injection e with e
            subst e
            exact (hX.cell (lt_of_cell h)).trans h
          have HME := Lib.hid hme
          have hmeb : me ≤ 5000000 := by omega
          have hme1 : 1 ≤ me := by omega
          clear hES hES2 hoe hlE e1 hme
          obtain ⟨wo, hwo⟩ : ∃ W : World, W = wr := ⟨_, rfl⟩
          subst hwo
          go_wp2_with fail
          show Code.wp _ _ _ _ _
          go_loopw [11] (fun x wx => ∃ (i m cp : Nat) (ao : Option Addr) (out : List Run), x = .int .i64 i ∧ i + 1 ≤ me ∧ m = out.length ∧ m ≤ i ∧ madeL how a b = mkR (fun x => saysB how (hasL a x) (hasL b x)) (ES.drop i) out ∧ (∀ r ∈ out, 0 ≤ r.1 ∧ 0 ≤ r.2 ∧ r.2 ≤ 1112192) ∧ OW wo (.slice ao m cp) m out wx) (fun x _ => me - (RowKit.intOf x).toNat)
          case atStart => exact ⟨0, 0, 0, none, [], rfl, by omega, rfl, by omega, HMK.out, (fun r hr => by cases hr), OW.start wo⟩
          case round =>
            obtain ⟨i, m, cp, ao, out, rfl, hi, hm, hmi, hmk, hob, how3⟩ := hrel
            have HI := Lib.hid (And.intro hmk (And.intro hob how3))
            have HMO := Lib.hid hm
            have hwi : IntKind.i64.wrap ((i : Int) + 1) = (i : Int) + 1 := IntWalk.i64_in _ (by omega)
            clear hmk hob how3 hm
            by_cases hgo : i + 1 < me
            · have hgo' : (i : Int) + 1 < me := by omega
              obtain ⟨x0, hx0⟩ : ∃ x, ES[i]? = some x := ⟨_, List.getElem?_eq_getElem (by rw [← HME.out]; omega)⟩
              obtain ⟨y0, hy0⟩ : ∃ x, ES[i + 1]? = some x := ⟨_, List.getElem?_eq_getElem (by rw [← HME.out]; omega)⟩
              have HST := Lib.hid (mkR_step (f := fun x => saysB how (hasL a x) (hasL b x)) (out := out) hx0 hy0)
              have hB3 := HI.out.2.2.2.1
              have SNX : Hid (∀ X Y, Below wr.heap.size wr X → Below X.heap.size X Y → Below wr.heap.size wr Y) := Lib.hid fun X Y h k => h.trans (k.mono h.size)
              have KX : Hid (∀ X, Below wr.heap.size wr X → Below wo.heap.size wo X) := Lib.hid fun X h => hB3.trans (h.mono hB3.size)
              have hlsa : ∀ X, Below wr.heap.size wr X → (Instr.loadAt 44 (.pointer (some ⟨w.heap.size, 0, none⟩))).run Tryz.prog X = .ok (.agg #[.slice aa la capa]) X := fun X hX => load_set (HM.out.next (KX.out X hX)).1
              have hlsb : ∀ X, Below wr.heap.size wr X → (Instr.loadAt 44 (.pointer (some ⟨w.heap.size + 1, 0, none⟩))).run Tryz.prog X = .ok (.agg #[.slice ab lb capb]) X := fun X hX => load_set (HM.out.next (KX.out X hX)).2.1
              have hixe : ∀ X : World, (Instr.indexAt 168 (.slice (some ⟨ge, 0, none⟩) me ce) (.int .i64 (i : Nat))).run Tryz.prog X = .ok (.pointer (some ⟨ge, i, none⟩)) X := fun X => by
                have q : (i : Int) < me := by omega
                go_simp
              have hle0 : ∀ X, Below wr.heap.size wr X → (Instr.loadAt 3 (.pointer (some ⟨ge, i, none⟩))).run Tryz.prog X = .ok (.int .i64 x0) X := fun X hX => by
                have q := HCE.out i x0 hx0 X (KX.out X hX)
                go_simp
              have CHA : Hid (∀ X, Below wr.heap.size wr X → Calls Tryz.prog 103 #[.agg #[.slice aa la capa], .int .i64 x0] X fun e w' => e = .returned (.bool (hasL a x0)) ∧ Below X.heap.size X w') := Lib.hid fun X hX => xhas_any a _ x0 X (HVA.out.below (HM.out.2.2.2.1.trans ((KX.out X hX).mono HM.out.2.2.2.1.size))) HCA.out
              have CHB : Hid (∀ X, Below wr.heap.size wr X → Calls Tryz.prog 103 #[.agg #[.slice ab lb capb], .int .i64 x0] X fun e w' => e = .returned (.bool (hasL b x0)) ∧ Below X.heap.size X w') := Lib.hid fun X hX => xhas_any b _ x0 X (HVB.out.below (HM.out.2.2.2.1.trans ((KX.out X hX).mono HM.out.2.2.2.1.size))) HCB.out
              have hcw := HI.out.2.2.1
              obtain ⟨ua, hua⟩ : ∃ u, hasL a x0 = u := ⟨_, rfl⟩
              obtain ⟨ub, hub⟩ : ∃ u, hasL b x0 = u := ⟨_, rfl⟩
              obtain ⟨us, hus⟩ : ∃ u, saysB how ua ub = u := ⟨_, rfl⟩
              rw [hua] at CHA
              rw [hub] at CHB
              have CSY : Hid (∀ X, Calls Tryz.prog 132 #[.int .i64 (how : Nat), .bool ua, .bool ub] X fun e w' => e = .returned (.bool us) ∧ X = w') := Lib.hid fun X => by rw [← hus]; exact xsays_any how ua ub X hh
              have hss : saysB how (hasL a x0) (hasL b x0) = us := by rw [hua, hub, hus]
              have HSS := Lib.hid hss
              clear hua hub hus hss
              by_cases hsy : us = true
              · have hsf : (!us) = false := by rw [hsy]; rfl
                have HRL : Hid (madeL how a b = mkR (fun x => saysB how (hasL a x) (hasL b x)) (ES.drop (i + 1)) (addR out x0 y0)) := Lib.hid (by
                  rw [HI.out.1, HST.out, if_pos (by rw [HSS.out]; exact hsy)])
                have S14 : Below wr.heap.size wr wr.drew := below_drewN (Below.refl _ _) 1
                have HX0 := Lib.hid (And.intro hx0 hy0)
                have hbx := HBD.out x0 (List.mem_of_getElem? hx0)
                have hby := HBD.out y0 (List.mem_of_getElem? hy0)
                clear hsy hx0 hy0
                go_wp2_with fail
                refine wp_region_guarded (fun X => Below wr.heap.size wr X) (fun U V => Below U.heap.size U V) (pM14 w.heap.size ge me ce i how (.slice aa la capa) (.slice ab lb capb) x0 ua ub us) (by kernel_rfl) (by kernel_rfl) (by kernel_rfl) S14 ?hp ?hs ?hd
                case hp =>
                  intro i v U V _ _ hk hv
                  unfold pM14 at hv ⊢
                  split at hv <;> exact hv
                case hs =>
                  refine GSteps.cons ?_ (GSteps.cons ?_ (GSteps.cons ?_ (GSteps.cons ?_ (GSteps.cons ?_ (GSteps.cons ?_ (GSteps.cons ?_ (GSteps.cons ?_ (GSteps.cons ?_ (GSteps.cons ?_ (GSteps.cons ?_ (GSteps.cons ?_ (GSteps.cons ?_ (GSteps.cons ?_ (GSteps.cons ?_ (GSteps.nil)))))))))))))))
                  · intro a X hX hL hd
                    refine .inl ⟨rfl, ?_⟩
                    have e0 : a.eval (.tmp 2) = .int .i64 (how : Nat) := hL.far 2 (by kernel_rfl)
                    exact wp_value (exec_move rfl e0) ⟨_, rfl, hX, Below.refl _ _, rfl⟩
                  · intro a X hX hL hd
                    refine .inl ⟨rfl, ?_⟩
                    have e0 : a.eval (.tmp 3) = .pointer (some ⟨w.heap.size, 0, none⟩) := hL.far 3 (by kernel_rfl)
                    exact wp_value (exec_load rfl e0 (hlsa X hX)) ⟨_, rfl, hX, Below.refl _ _, rfl⟩
                  · intro a X hX hL hd
                    refine .inl ⟨rfl, ?_⟩
                    have e0 : a.eval (.tmp 7) = .slice (some ⟨ge, 0, none⟩) me ce := hL.far 7 (by kernel_rfl)
                    exact wp_value (exec_move rfl e0) ⟨_, rfl, hX, Below.refl _ _, rfl⟩
                  · intro a X hX hL hd
                    refine .inl ⟨rfl, ?_⟩
                    have e0 : a.eval (.tmp 11) = .int .i64 (i : Nat) := hL.far 11 (by kernel_rfl)
                    exact wp_value (exec_move rfl e0) ⟨_, rfl, hX, Below.refl _ _, rfl⟩
                  · intro a X hX hL hd
                    refine .inl ⟨rfl, ?_⟩
                    have e0 : a.eval (.tmp 69) = .slice (some ⟨ge, 0, none⟩) me ce := hd 2 69 (by kernel_rfl) (by kernel_rfl)
                    have e1 : a.eval (.tmp 70) = .int .i64 (i : Nat) := hd 3 70 (by kernel_rfl) (by kernel_rfl)
                    exact wp_value (exec_indexAddr rfl e0 e1 (hixe X)) ⟨_, rfl, hX, Below.refl _ _, rfl⟩
                  · intro a X hX hL hd
                    refine .inl ⟨rfl, ?_⟩
                    have e0 : a.eval (.tmp 71) = .pointer (some ⟨ge, i, none⟩) := hd 4 71 (by kernel_rfl) (by kernel_rfl)
                    exact wp_value (exec_load rfl e0 (hle0 X hX)) ⟨_, rfl, hX, Below.refl _ _, rfl⟩
                  · intro a X hX hL hd
                    refine .inl ⟨rfl, ?_⟩
                    have e0 : a.eval (.tmp 68) = .agg #[.slice aa la capa] := hd 1 68 (by kernel_rfl) (by kernel_rfl)
                    have e1 : a.eval (.tmp 72) = .int .i64 x0 := hd 5 72 (by kernel_rfl) (by kernel_rfl)
                    refine wp_enter (exec_call (vs := #[.agg #[.slice aa la capa], .int .i64 x0]) rfl (by simp only [List.map_toArray, List.map_cons, List.map_nil, e0, e1]) Tryz.func103 rfl rfl) ?_
                    refine (CHA.out X hX).mono ?_
                    rintro e w' ⟨rfl, hb⟩
                    exact ⟨_, rfl, _, rfl, SNX.out _ _ hX hb, hb, rfl⟩
                  · intro a X hX hL hd
                    refine .inl ⟨rfl, ?_⟩
                    have e0 : a.eval (.tmp 4) = .pointer (some ⟨w.heap.size + 1, 0, none⟩) := hL.far 4 (by kernel_rfl)
                    exact wp_value (exec_load rfl e0 (hlsb X hX)) ⟨_, rfl, hX, Below.refl _ _, rfl⟩
                  · intro a X hX hL hd
                    refine .inl ⟨rfl, ?_⟩
                    have e0 : a.eval (.tmp 7) = .slice (some ⟨ge, 0, none⟩) me ce := hL.far 7 (by kernel_rfl)
                    exact wp_value (exec_move rfl e0) ⟨_, rfl, hX, Below.refl _ _, rfl⟩
                  · intro a X hX hL hd
                    refine .inl ⟨rfl, ?_⟩
                    have e0 : a.eval (.tmp 11) = .int .i64 (i : Nat) := hL.far 11 (by kernel_rfl)
                    exact wp_value (exec_move rfl e0) ⟨_, rfl, hX, Below.refl _ _, rfl⟩
                  · intro a X hX hL hd
                    refine .inl ⟨rfl, ?_⟩
                    have e0 : a.eval (.tmp 75) = .slice (some ⟨ge, 0, none⟩) me ce := hd 8 75 (by kernel_rfl) (by kernel_rfl)
                    have e1 : a.eval (.tmp 76) = .int .i64 (i : Nat) := hd 9 76 (by kernel_rfl) (by kernel_rfl)
                    exact wp_value (exec_indexAddr rfl e0 e1 (hixe X)) ⟨_, rfl, hX, Below.refl _ _, rfl⟩
                  · intro a X hX hL hd
                    refine .inl ⟨rfl, ?_⟩
                    have e0 : a.eval (.tmp 77) = .pointer (some ⟨ge, i, none⟩) := hd 10 77 (by kernel_rfl) (by kernel_rfl)
                    exact wp_value (exec_load rfl e0 (hle0 X hX)) ⟨_, rfl, hX, Below.refl _ _, rfl⟩
                  · intro a X hX hL hd
                    refine .inl ⟨rfl, ?_⟩
                    have e0 : a.eval (.tmp 74) = .agg #[.slice ab lb capb] := hd 7 74 (by kernel_rfl) (by kernel_rfl)
                    have e1 : a.eval (.tmp 78) = .int .i64 x0 := hd 11 78 (by kernel_rfl) (by kernel_rfl)
                    refine wp_enter (exec_call (vs := #[.agg #[.slice ab lb capb], .int .i64 x0]) rfl (by simp only [List.map_toArray, List.map_cons, List.map_nil, e0, e1]) Tryz.func103 rfl rfl) ?_
                    refine (CHB.out X hX).mono ?_
                    rintro e w' ⟨rfl, hb⟩
                    exact ⟨_, rfl, _, rfl, SNX.out _ _ hX hb, hb, rfl⟩
                  · intro a X hX hL hd
                    refine .inl ⟨rfl, ?_⟩
                    have e0 : a.eval (.tmp 67) = .int .i64 (how : Nat) := hd 0 67 (by kernel_rfl) (by kernel_rfl)
                    have e1 : a.eval (.tmp 73) = .bool ua := hd 6 73 (by kernel_rfl) (by kernel_rfl)
                    have e2 : a.eval (.tmp 79) = .bool ub := hd 12 79 (by kernel_rfl) (by kernel_rfl)
                    refine wp_enter (exec_call (vs := #[.int .i64 (how : Nat), .bool ua, .bool ub]) rfl (by simp only [List.map_toArray, List.map_cons, List.map_nil, e0, e1, e2]) Tryz.func132 rfl rfl) ?_
                    refine (CSY.out X).mono ?_
                    rintro e w' ⟨rfl, rfl⟩
                    exact ⟨_, rfl, _, rfl, hX, Below.refl _ _, rfl⟩
                  · intro a X hX hL hd
                    refine .inl ⟨rfl, ?_⟩
                    have e0 : a.eval (.tmp 80) = .bool us := hd 13 80 (by kernel_rfl) (by kernel_rfl)
                    exact wp_value (exec_unop rfl e0 rfl) ⟨_, rfl, hX, Below.refl _ _, rfl⟩
                case hd =>
                  intro a2 X hX hL hd _
                  have h81 : a2.tmps.getD 81 undef = .bool false := (hd 14 81 (by kernel_rfl)).trans (by rw [hsf])
                  obtain ⟨f, ha, hf⟩ := hL.out [67, 68, 69, 70, 71, 72, 73, 74, 75, 76, 77, 78, 79, 80, 81] (by kernel_rfl)
                  have h81' : f 81 = .bool false := (hf 81).trans h81
                  simp only [List.foldl_cons, List.foldl_nil, List.setIfInBounds_toArray, List.set_cons_zero, List.set_cons_succ, h81'] at ha
                  clear hf hd hL h81
                  subst ha
                  have HX := Lib.hid (HI.out.2.2.next hX)
                  have hbo := KX.out X hX
                  have hcX := cell_one HX.out.1
                  have e0X := HCE.out i x0 HX0.out.1 X hbo
                  have e1X := HCE.out (i + 1) y0 HX0.out.2 X hbo
                  have gi1 : (i : Int) < me := by omega
                  clear hX S14 hbo hlsa hlsb hixe hle0 hcw
                  rcases Nat.eq_zero_or_pos m with hm0 | hmp
                  · subst hm0
                    go_wp2_with fail
                    go_quiet (fail)
                    go_wp2_with fail
                    have hadd : addR out x0 y0 = out ++ [(x0, y0)] := by
                      have ho0 : out = [] := List.eq_nil_of_length_eq_zero HMO.out.symm
                      rw [ho0]
                      rfl
                    rw [hadd] at HRL
                    have HNB : Hid (∀ r ∈ out ++ [(x0, y0)], 0 ≤ r.1 ∧ 0 ≤ r.2 ∧ r.2 ≤ 1112192) := Lib.hid (fun r hr => by
                      rcases List.mem_append.1 hr with hr | hr
                      · exact HI.out.2.1 r hr
                      · rw [List.mem_singleton] at hr
                        subst hr
                        exact ⟨hbx.1, hby.1, hby.2⟩)
                    have HLN : Hid (0 + 1 = (out ++ [(x0, y0)]).length) := Lib.hid (by rw [List.length_append, ← HMO.out]; rfl)
                    have hN := HX.out.next (V' := X.drewN nq) (below_drewN (Below.refl _ _) nq)
                    have HN1 := Lib.hid hN
                    generalize X.drewN nq = W1 at *
                    have hown : OwnS (fun b => wo.heap.size + 1 ≤ b) 103 2 (.slice ao 0 cp) 0 (encR (out.map dnR)) W1 := hN.2.2.2
                    have hkg : (Value.slice ao 0 cp).ownBlock ≠ some wo.heap.size := fun h => by have h9 : wo.heap.size + 1 ≤ wo.heap.size := hown.2 _ h; omega
                    have hkv : ∀ b, (Value.slice ao 0 cp).ownBlock = some b → b < W1.heap.size := fun b h => (hown.1.lt b h).2
                    have hgl : wo.heap.size < W1.heap.size := hN.2.2.1
                    have hkb : ∀ X, Keep (fun b => b = wo.heap.size ∨ (Value.slice ao 0 cp).ownBlock = some b) W1 X → Below wo.heap.size wo X := fun X hX => hN.2.1.trans (hX.below hN.2.1.size (fun b hb => by
                      rcases hb with hb | hb
                      · omega
                      · have h9 : wo.heap.size + 1 ≤ b := hown.2 _ hb
                        omega))
                    have HKB := Lib.hid hkb
                    have hfa : ∀ X : World, (Instr.fieldAt 44 (.pointer (some ⟨wo.heap.size, 0, none⟩)) 0).run Tryz.prog X = .ok (.pointer (some ⟨wo.heap.size, 0, none⟩)) X := fun X => by go_simp
                    have hls : ∀ X : World, X.heap[wo.heap.size]? = some (.cells #[.slice ao 0 cp] 44 (0, 0)) → (Instr.loadAt 42 (.pointer (some ⟨wo.heap.size, 0, none⟩))).run Tryz.prog X = .ok (.slice ao 0 cp) X := fun X h => by
                      have q := cell_one h
                      go_simp
                    have hix0 : ∀ X : World, (Instr.indexAt 168 (.slice (some ⟨ge, 0, none⟩) me ce) (.int .i64 (i : Nat))).run Tryz.prog X = .ok (.pointer (some ⟨ge, i, none⟩)) X := fun X => by
                      have q : (i : Int) < me := by omega
                      go_simp
                    have hix1 : ∀ X : World, (Instr.indexAt 168 (.slice (some ⟨ge, 0, none⟩) me ce) (.int .i64 ((i + 1 : Nat) : Int))).run Tryz.prog X = .ok (.pointer (some ⟨ge, i + 1, none⟩)) X := fun X => by
                      obtain ⟨i1, hi1⟩ : ∃ i1, i + 1 = i1 := ⟨_, rfl⟩
                      rw [hi1]
                      have q : (i1 : Int) < me := by omega
                      clear hi1
                      go_simp
                    have hl0 : ∀ X, Keep (fun b => b = wo.heap.size ∨ (Value.slice ao 0 cp).ownBlock = some b) W1 X → (Instr.loadAt 3 (.pointer (some ⟨ge, i, none⟩))).run Tryz.prog X = .ok (.int .i64 x0) X := fun X hX => by
                      have q := HCE.out i x0 HX0.out.1 X (hkb X hX)
                      go_simp
                    have hl1 : ∀ X, Keep (fun b => b = wo.heap.size ∨ (Value.slice ao 0 cp).ownBlock = some b) W1 X → (Instr.loadAt 3 (.pointer (some ⟨ge, i + 1, none⟩))).run Tryz.prog X = .ok (.int .i64 y0) X := fun X hX => by
                      have q := HCE.out (i + 1) y0 HX0.out.2 X (hkb X hX)
                      go_simp
                    have hwi2 : IntKind.i64.wrap ((i : Int) + 1) = ((i + 1 : Nat) : Int) := by rw [hwi]; omega
                    have y1w : IntKind.i64.wrap (y0 - 1) = y0 - 1 := IntWalk.i64_in _ (by omega)
                    have BD : ∀ W : World, (Instr.build 103 #[(0, .int .i64 x0), (1, .int .i64 (y0 - 1))]).run Tryz.prog W = .ok (.agg #[.int .i64 x0, .int .i64 (y0 - 1)]) W := fun W => by go_simp
                    have BS : ∀ W : World, (Instr.buildSlice 42 1 #[(0, .agg #[.int .i64 x0, .int .i64 (y0 - 1)])]).run Tryz.prog W = .ok (.slice (some ⟨W.heap.size, 0, none⟩) 1 1) (W.alloc (.cells #[.int .i64 x0, .int .i64 (y0 - 1)] 103)) := fun W => by go_simp
                    have ST : ∀ (W : World) (ao9 : Option Addr) (m2 cap : Nat), W.heap[wo.heap.size]? = some (.cells #[.slice ao 0 cp] 44 (0, 0)) → (Instr.storeAt 42 (.pointer (some ⟨wo.heap.size, 0, none⟩)) (.slice ao9 m2 cap)).run Tryz.prog W = .ok () (W.setCell ⟨wo.heap.size, 0, none⟩ (.slice ao9 m2 cap)) := fun W ao9 m2 cap h => by
                      have q := cell_one h
                      have q2 : W.frozen? ⟨wo.heap.size, 0, none⟩ = false := Lib.frozen_of_heap h _
                      go_simp
                    have S1 : ∀ {W : World} {u : Value}, W.heap[wo.heap.size]? = some (.cells #[.slice ao 0 cp] 44 (0, 0)) → (W.setCell ⟨wo.heap.size, 0, none⟩ u).heap[wo.heap.size]? = some (.cells #[u] 44 (0, 0)) := fun h => one_cell h
                    obtain ⟨ti, hti, hz, hs1, hbt⟩ := info_parts tinfoTwo
                    have HI2 := And.intro hti (And.intro hz (And.intro hs1 hbt))
                    have HOC : ∀ z ∈ [Value.int .i64 x0, .int .i64 (y0 - 1)], z.oneCell' = true := by intro z hz; simp at hz; rcases hz with rfl | rfl <;> rfl
                    have HM1 : 0 + 1 ≤ maxLen := by unfold maxLen; omega
                    have HM2 : (0 + 1) * 16 ≤ 140737488355328 := by omega
                    obtain ⟨FF, hFF⟩ : ∃ FF : FldR, FF = ⟨wo.heap.size, W1, .slice ao 0 cp, 103, 2, 0, 0 + 1, encR (out.map dnR), encR (out.map dnR) ++ [.int .i64 x0, .int .i64 (y0 - 1)], 44, fun u => #[u], #[.int .i64 x0, .int .i64 (y0 - 1)], 14, 16, 13, fun z => match z with | 0 => some (.pointer (some ⟨wo.heap.size, 0, none⟩)) | 1 => some (.slice ao 0 cp) | 2 => some (.slice (some ⟨ge, 0, none⟩) me ce) | 3 => some (.int .i64 (i : Nat)) | 4 => some (.pointer (some ⟨ge, i, none⟩)) | 5 => some (.int .i64 x0) | 6 => some (.slice (some ⟨ge, 0, none⟩) me ce) | 7 => some (.int .i64 (i : Nat)) | 8 => some (.int .i64 ((i + 1 : Nat) : Int)) | 9 => some (.pointer (some ⟨ge, i + 1, none⟩)) | 10 => some (.int .i64 y0) | 11 => some (.int .i64 (y0 - 1)) | 12 => some (.agg #[.int .i64 x0, .int .i64 (y0 - 1)]) | 15 => some (.pointer (some ⟨wo.heap.size, 0, none⟩)) | _ => none⟩ := ⟨_, rfl⟩
                    have H0 : FldR.S FF (fun _ => false) W1.drew := by rw [hFF]; exact ⟨fun _ => hN.1, fun _ => hown.weaken (fun b h => by intro e; subst e; have h9 : wo.heap.size + 1 ≤ wo.heap.size := h; omega), (Keep.refl _ W1).drew⟩
                    clear hN
                    refine wp_region_done (FldR.S FF) (FldR.P FF) (by kernel_rfl) (by kernel_rfl) (by kernel_rfl) H0 ?hs ?hd
                    case hs =>
                      rw [hFF]
                      refine DSteps.cons ?_ (DSteps.cons ?_ (DSteps.cons ?_ (DSteps.cons ?_ (DSteps.cons ?_ (DSteps.cons ?_ (DSteps.cons ?_ (DSteps.cons ?_ (DSteps.cons ?_ (DSteps.cons ?_ (DSteps.cons ?_ (DSteps.cons ?_ (DSteps.cons ?_ (DSteps.cons ?_ (DSteps.cons ?_ (DSteps.cons ?_ (DSteps.cons ?_ (DSteps.nil)))))))))))))))))
                      · intro D2 a X hDi hDa _ hX hL hd
                        refine ⟨rfl, ?_⟩
                        have e0 : a.eval (.tmp 10) = .pointer (some ⟨wo.heap.size, 0, none⟩) := hL.far 10 (by kernel_rfl)
                        exact wp_value (exec_fieldAddr rfl e0 (hfa X)) ⟨_, rfl, hX.more, fun _ _ _ h => h, FldR.P.mk rfl ⟨by simp, by simp, by simp⟩⟩
                      · intro D2 a X hDi hDa _ hX hL hd
                        refine ⟨rfl, ?_⟩
                        have e0 : a.eval (.tmp 114) = .pointer (some ⟨wo.heap.size, 0, none⟩) := (hd 0 114 (by kernel_rfl) (by kernel_rfl)).is rfl
                        exact wp_value (exec_load rfl e0 (hls X (hX.1 (hDa 16 (by kernel_rfl))))) ⟨_, rfl, hX.more, fun _ _ _ h => h, FldR.P.mk rfl ⟨by simp, by simp, by simp⟩⟩
                      · intro D2 a X hDi hDa _ hX hL hd
                        refine ⟨rfl, ?_⟩
                        have e0 : a.eval (.tmp 7) = .slice (some ⟨ge, 0, none⟩) me ce := hL.far 7 (by kernel_rfl)
                        exact wp_value (exec_move rfl e0) ⟨_, rfl, hX.more, fun _ _ _ h => h, FldR.P.mk rfl ⟨by simp, by simp, by simp⟩⟩
                      · intro D2 a X hDi hDa _ hX hL hd
                        refine ⟨rfl, ?_⟩
                        have e0 : a.eval (.tmp 11) = .int .i64 (i : Nat) := hL.far 11 (by kernel_rfl)
                        exact wp_value (exec_move rfl e0) ⟨_, rfl, hX.more, fun _ _ _ h => h, FldR.P.mk rfl ⟨by simp, by simp, by simp⟩⟩
                      · intro D2 a X hDi hDa _ hX hL hd
                        refine ⟨rfl, ?_⟩
                        have e0 : a.eval (.tmp 116) = .slice (some ⟨ge, 0, none⟩) me ce := (hd 2 116 (by kernel_rfl) (by kernel_rfl)).is rfl
                        have e1 : a.eval (.tmp 117) = .int .i64 (i : Nat) := (hd 3 117 (by kernel_rfl) (by kernel_rfl)).is rfl
                        exact wp_value (exec_indexAddr rfl e0 e1 (hix0 X)) ⟨_, rfl, hX.more, fun _ _ _ h => h, FldR.P.mk rfl ⟨by simp, by simp, by simp⟩⟩
                      · intro D2 a X hDi hDa _ hX hL hd
                        refine ⟨rfl, ?_⟩
                        have e0 : a.eval (.tmp 118) = .pointer (some ⟨ge, i, none⟩) := (hd 4 118 (by kernel_rfl) (by kernel_rfl)).is rfl
                        exact wp_value (exec_load rfl e0 (hl0 X hX.2.2)) ⟨_, rfl, hX.more, fun _ _ _ h => h, FldR.P.mk rfl ⟨by simp, by simp, by simp⟩⟩
                      · intro D2 a X hDi hDa _ hX hL hd
                        refine ⟨rfl, ?_⟩
                        have e0 : a.eval (.tmp 7) = .slice (some ⟨ge, 0, none⟩) me ce := hL.far 7 (by kernel_rfl)
                        exact wp_value (exec_move rfl e0) ⟨_, rfl, hX.more, fun _ _ _ h => h, FldR.P.mk rfl ⟨by simp, by simp, by simp⟩⟩
                      · intro D2 a X hDi hDa _ hX hL hd
                        refine ⟨rfl, ?_⟩
                        have e0 : a.eval (.tmp 11) = .int .i64 (i : Nat) := hL.far 11 (by kernel_rfl)
                        exact wp_value (exec_move rfl e0) ⟨_, rfl, hX.more, fun _ _ _ h => h, FldR.P.mk rfl ⟨by simp, by simp, by simp⟩⟩
                      · intro D2 a X hDi hDa _ hX hL hd
                        refine ⟨rfl, ?_⟩
                        have e0 : a.eval (.tmp 121) = .int .i64 (i : Nat) := (hd 7 121 (by kernel_rfl) (by kernel_rfl)).is rfl
                        exact wp_value (exec_binop rfl e0 rfl (add_one_ X _ _ _ _ hwi2)) ⟨_, rfl, hX.more, fun _ _ _ h => h, FldR.P.mk rfl ⟨by simp, by simp, by simp⟩⟩
                      · intro D2 a X hDi hDa _ hX hL hd
                        refine ⟨rfl, ?_⟩
                        have e0 : a.eval (.tmp 120) = .slice (some ⟨ge, 0, none⟩) me ce := (hd 6 120 (by kernel_rfl) (by kernel_rfl)).is rfl
                        have e1 : a.eval (.tmp 122) = .int .i64 ((i + 1 : Nat) : Int) := (hd 8 122 (by kernel_rfl) (by kernel_rfl)).is rfl
                        exact wp_value (exec_indexAddr rfl e0 e1 (hix1 X)) ⟨_, rfl, hX.more, fun _ _ _ h => h, FldR.P.mk rfl ⟨by simp, by simp, by simp⟩⟩
                      · intro D2 a X hDi hDa _ hX hL hd
                        refine ⟨rfl, ?_⟩
                        have e0 : a.eval (.tmp 123) = .pointer (some ⟨ge, i + 1, none⟩) := (hd 9 123 (by kernel_rfl) (by kernel_rfl)).is rfl
                        exact wp_value (exec_load rfl e0 (hl1 X hX.2.2)) ⟨_, rfl, hX.more, fun _ _ _ h => h, FldR.P.mk rfl ⟨by simp, by simp, by simp⟩⟩
                      · intro D2 a X hDi hDa _ hX hL hd
                        refine ⟨rfl, ?_⟩
                        have e0 : a.eval (.tmp 124) = .int .i64 y0 := (hd 10 124 (by kernel_rfl) (by kernel_rfl)).is rfl
                        exact wp_value (exec_binop rfl e0 rfl (sub_one_ X _ _ _ _ y1w)) ⟨_, rfl, hX.more, fun _ _ _ h => h, FldR.P.mk rfl ⟨by simp, by simp, by simp⟩⟩
                      · intro D2 a X hDi hDa _ hX hL hd
                        refine ⟨rfl, ?_⟩
                        have e0 : a.eval (.tmp 119) = .int .i64 x0 := (hd 5 119 (by kernel_rfl) (by kernel_rfl)).is rfl
                        have e1 : a.eval (.tmp 125) = .int .i64 (y0 - 1) := (hd 11 125 (by kernel_rfl) (by kernel_rfl)).is rfl
                        exact wp_value (exec_build rfl (ps := #[(0, .int .i64 x0), (1, .int .i64 (y0 - 1))]) (by simp only [List.map_toArray, List.map_cons, List.map_nil, e0, e1] <;> rfl) (BD X)) ⟨_, rfl, hX.more, fun _ _ _ h => h, FldR.P.mk rfl ⟨by simp, by simp, by simp⟩⟩
                      · intro D2 a X hDi hDa _ hX hL hd
                        refine ⟨rfl, ?_⟩
                        have e0 : a.eval (.tmp 126) = .agg #[.int .i64 x0, .int .i64 (y0 - 1)] := (hd 12 126 (by kernel_rfl) (by kernel_rfl)).is rfl
                        refine wp_value (exec_buildSlice rfl (ps := #[(0, .agg #[.int .i64 x0, .int .i64 (y0 - 1)])]) (by simp only [List.map_toArray, List.map_cons, List.map_nil, e0] <;> rfl) (BS X)) ⟨_, rfl, (hX.below ((Below.refl _ X).alloc (Nat.le_refl _) _)).more, fun _ _ _ h => h.below ((Below.refl _ X).alloc (Nat.le_refl _) _), FldR.P.bs rfl ⟨by simp, by simp⟩ ⟨X.heap.size, rfl, alloc_at rfl, hX.2.2.size⟩⟩
                      · intro D2 a X hDi hDa _ hX hL hd
                        refine ⟨rfl, ?_⟩
                        have e0 : a.eval (.tmp 115) = .slice ao 0 cp := (hd 1 115 (by kernel_rfl) (by kernel_rfl)).is rfl
                        obtain ⟨b2, hb1, hb2, hb3⟩ := (hd 13 127 (by kernel_rfl) (by kernel_rfl)).2.1 rfl
                        have h28 := hDa 16 (by kernel_rfl)
                        have hown := hX.2.1 hDi
                        refine wp_append_lies X (.tmp 115) (.tmp 127) 42 rfl 0 103 ti (.agg #[.int .i64 0, .int .i64 0]) 2 16 Tryz.underlying42 HI2.1 HI2.2.1 HI2.2.2.1 HI2.2.2.2 rfl (by decide) (.slice ao 0 cp) 0 (encR (out.map dnR)) e0 hown.1 ⟨b2, 0, none⟩ 1 1 [.int .i64 x0, .int .i64 (y0 - 1)] hb1 rfl (World.news_of_block hb2) HOC (by decide) HM1 HM2 (Nat.zero_le _) _ rfl ?_
                        intro g2 cap2 X2 hown2 hgrow hat hlt2
                        exact ⟨_, rfl, hX.app hkg h28 (keep_grown hgrow), fun j u hj h => h.app hkv (keep_grown hgrow) (fun e => by subst e; rw [hDi] at hj; cases hj) (fun e => by subst e; rw [h28] at hj; cases hj), FldR.P.row rfl ⟨by simp, by simp⟩ (FldR.row_of (ln := 0 + 1) hX.2.2.size hgl hkg ⟨hown2, fun y hy => by
                          have : g2 = y := by simpa [Value.ownBlock] using hy
                          subst this
                          rcases hat with h | h
                          · exact .inl h
                          · exact .inr (by omega)⟩ rfl)⟩
                      · intro D2 a X hDi hDa _ hX hL hd
                        refine ⟨rfl, ?_⟩
                        have e0 : a.eval (.tmp 10) = .pointer (some ⟨wo.heap.size, 0, none⟩) := hL.far 10 (by kernel_rfl)
                        exact wp_value (exec_fieldAddr rfl e0 (hfa X)) ⟨_, rfl, hX.more, fun _ _ _ h => h, FldR.P.mk rfl ⟨by simp, by simp, by simp⟩⟩
                      · intro D2 a X hDi hDa _ hX hL hd
                        refine ⟨rfl, ?_⟩
                        have e0 : a.eval (.tmp 129) = .pointer (some ⟨wo.heap.size, 0, none⟩) := (hd 15 129 (by kernel_rfl) (by kernel_rfl)).is rfl
                        obtain ⟨ao3, ln, cp3, he, ho⟩ := (hd 14 128 (by kernel_rfl) (by kernel_rfl)).2.2.1 rfl
                        have hc := hX.1 hDi
                        exact wp_skipped (exec_store rfl e0 he (ST X _ _ _ hc)) ⟨undef, rfl, hX.store, fun j u hj h => h.store hgl (fun e => by subst e; rw [hDi] at hj; cases hj), FldR.P.last rfl ⟨by simp, by simp⟩ ⟨_, FldR.Row.store ⟨ao3, ln, cp3, rfl, by rw [← he]; exact ho⟩, S1 hc⟩⟩
                    case hd =>
                      intro D2 a X hAll hX hL hP hE
                      obtain ⟨_, hp⟩ := hE 16 (by decide)
                      rw [hFF] at hp hX
                      obtain ⟨u, ⟨ao2, ln, cp2, hu0, ho⟩, hu⟩ := hp.2.2.2 rfl
                      simp only at ho hu
                      obtain ⟨ao3, cap3, rfl⟩ := own_slice ho
                      have hK := hX.2.2
                      obtain ⟨f, ha, hf⟩ := hL.out [114, 115, 116, 117, 118, 119, 120, 121, 122, 123, 124, 125, 126, 127, 128, 129] rfl
                      have HF := Lib.hid (And.intro ho (And.intro hu hK))
                      clear hf hAll hP hX hL hE hp ho hu hu0 hK S1 hfa hls hix0 hix1 hl0 hl1 BD BS ST HI2 HOC HM1 HM2 H0 hFF hti hz hs1 hbt hown hkg hkv hkb
                      simp only [List.foldl_cons, List.foldl_nil, List.setIfInBounds_toArray, List.set_cons_zero, List.set_cons_succ] at ha
                      subst ha
                      go_wp2_with fail
                      go_roundw
                      case rel =>
                        obtain ⟨ho, hu, hK⟩ := HF.out
                        refine ⟨i + 1, 0 + 1, cap3, ao3, out ++ [(x0, y0)], by go_num, by omega, HLN.out, by omega, HRL.out, HNB.out, hu, HKB.out _ hK, Nat.le_trans hgl hK.size, ?_⟩
                        have e : encR ((out ++ [(x0, y0)]).map dnR) = encR (out.map dnR) ++ [.int .i64 x0, .int .i64 (y0 - 1)] := by
                          rw [List.map_append]
                          exact encR_snoc _ _
                        rw [e]
                        exact ho.weaken (fun b hb => by
                          rcases hb.1 with h | h
                          · exact HN1.out.2.2.2.2 b h
                          · have h9 : W1.heap.size ≤ b := h
                            show wo.heap.size + 1 ≤ b
                            omega)
                      case measure => simp [RowKit.intOf]; omega
                  · obtain ⟨j, rfl⟩ : ∃ j, m = j + 1 := ⟨m - 1, by omega⟩
                    obtain ⟨y, hy⟩ : ∃ y, out[j]? = some y := ⟨_, List.getElem?_eq_getElem (by rw [← HMO.out]; omega)⟩
                    have hyb := HI.out.2.1 y (List.mem_of_getElem? hy)
                    obtain ⟨ya, yb⟩ := y
                    simp only at hyb
                    obtain ⟨ga, rfl, d2, fd2⟩ : ∃ ga, ao = some ⟨ga, 0, none⟩ ∧ X.cell? ⟨ga, j * 2 + 1, none⟩ = some (.int .i64 (yb - 1)) ∧ X.frozen? ⟨ga, j * 2 + 1, none⟩ = false := by
                      have hS := slr_own HX.out.2.2.2 (by rw [List.length_map]; exact HMO.out)
                      obtain ⟨ao', cap', e, h⟩ := hS
                      injection e with e1 _ _
                      subst e1
                      rcases h with h | ⟨g', e2, h⟩
                      · have := congrArg List.length h
                        rw [List.length_map, ← HMO.out] at this
                        simp at this
                      · have h3 := (h j (dnR (ya, yb)) (by rw [List.getElem?_map, hy]; rfl)).2
                        subst e2
                        exact ⟨g', rfl, h3, HX.out.2.2.2.1.frozenAt _⟩
                    obtain ⟨yd, hyd⟩ : ∃ yd, yb - 1 = yd := ⟨_, rfl⟩
                    obtain rfl : yb = yd + 1 := by omega
                    rw [show yd + 1 - 1 = yd by omega] at d2
                    have jw : IntKind.i64.wrap ((j : Int) + 1 - 1) = (j : Int) := by rw [show (j : Int) + 1 - 1 = j by omega]; exact IntWalk.i64_in _ (by omega)
                    have jp : (0 : Int) < (j : Int) + 1 := by omega
                    have j0 : (0 : Int) ≤ (j : Int) := by omega
                    have yw : IntKind.i64.wrap (yd + 1) = yd + 1 := IntWalk.i64_in _ (by omega)
                    have HY := Lib.hid hy
                    clear hyd hy
                    by_cases hyx : yd + 1 = x0
                    · have hyq : (yd + 1 == x0) = true := by rw [hyx]; simp
                      have y1w : IntKind.i64.wrap (y0 - 1) = y0 - 1 := IntWalk.i64_in _ (by omega)
                      have HYX := Lib.hid hyx
                      clear hyx
                      go_wp2_with fail
                      go_quiet (fail)
                      have hlast := last_at HMO.out HY.out
                      have hadd : addR out x0 y0 = out.dropLast ++ [(ya, y0)] := by
                        unfold addR
                        rw [hlast.1]
                        simp only
                        rw [if_pos HYX.out]
                      rw [hadd] at HRL
                      have HNB : Hid (∀ r ∈ out.dropLast ++ [(ya, y0)], 0 ≤ r.1 ∧ 0 ≤ r.2 ∧ r.2 ≤ 1112192) := Lib.hid (fun r hr => by
                        rcases List.mem_append.1 hr with hr | hr
                        · exact HI.out.2.1 r (by rw [hlast.2]; exact List.mem_append_left _ hr)
                        · rw [List.mem_singleton] at hr
                          subst hr
                          exact ⟨hyb.1, hby.1, hby.2⟩)
                      have HLN : Hid (j + 1 = (out.dropLast ++ [(ya, y0)]).length) := Lib.hid (by rw [List.length_append, List.length_dropLast, ← HMO.out]; rfl)
                      have HOS := Lib.hid (fun q : Nat => (HX.out.next (V' := X.drewN q) (below_drewN (Below.refl _ _) q)).set (z := y0) HMO.out HY.out)
                      have ht1 : ((i : Int) + 1).toNat = i + 1 := by omega
                      clear hlast hadd
                      go_wp2_with fail
                      have HOS2 : Hid (OW wo (.slice (some ⟨ga, 0, none⟩) (j + 1) cp) (j + 1) (out.dropLast ++ [(ya, y0)]) ((X.drewN nq).drew.setCell ⟨ga, j * 2 + 1, none⟩ (.int .i64 (y0 - 1)))) := Lib.hid (HOS.out (nq + 1))
                      have c1 : (X.drewN nq).drew.cell? ⟨wo.heap.size, 0, none⟩ = some (.slice (some ⟨ga, 0, none⟩) (j + 1) cp) := hcX
                      have c2 : (X.drewN nq).drew.cell? ⟨ga, j * 2 + 1, none⟩ = some (.int .i64 yd) := d2
                      have c3 : (X.drewN nq).drew.frozen? ⟨ga, j * 2 + 1, none⟩ = false := fd2
                      have c4 : (X.drewN nq).drew.cell? ⟨ge, i + 1, none⟩ = some (.int .i64 y0) := e1X
                      generalize X.drewN nq = W1 at *
                      obtain ⟨W2, hW2⟩ : ∃ W2 : World, W1.drew = W2 := ⟨_, rfl⟩
                      rw [hW2] at HOS2 c1 c2 c3 c4
                      have hfa : ∀ X : World, (Instr.fieldAt 44 (.pointer (some ⟨wo.heap.size, 0, none⟩)) 0).run Tryz.prog X = .ok (.pointer (some ⟨wo.heap.size, 0, none⟩)) X := fun X => by go_simp
                      have hls : ∀ X : World, X = W2 → (Instr.loadAt 42 (.pointer (some ⟨wo.heap.size, 0, none⟩))).run Tryz.prog X = .ok (.slice (some ⟨ga, 0, none⟩) (j + 1) cp) X := fun X h => by
                        subst h
                        go_simp
                      have hl1 : ∀ X : World, X = W2 → (Instr.loadAt 3 (.pointer (some ⟨ge, i + 1, none⟩))).run Tryz.prog X = .ok (.int .i64 y0) X := fun X h => by
                        subst h
                        go_simp
                      have hix1 : ∀ X : World, (Instr.indexAt 168 (.slice (some ⟨ge, 0, none⟩) me ce) (.int .i64 ((i + 1 : Nat) : Int))).run Tryz.prog X = .ok (.pointer (some ⟨ge, i + 1, none⟩)) X := fun X => by
                        obtain ⟨i1, hi1⟩ : ∃ i1, i + 1 = i1 := ⟨_, rfl⟩
                        rw [hi1]
                        have q : (i1 : Int) < me := by omega
                        clear hi1
                        go_simp
                      have hixo : ∀ X : World, (Instr.indexAt 42 (.slice (some ⟨ga, 0, none⟩) (j + 1) cp) (.int .i64 (j : Nat))).run Tryz.prog X = .ok (.pointer (some ⟨ga, j * 2, none⟩)) X := fun X => by
                        obtain ⟨j1, hj1⟩ : ∃ j1, j + 1 = j1 := ⟨_, rfl⟩
                        rw [hj1]
                        have q : (j : Int) < j1 := by omega
                        clear hj1
                        go_simp
                      have hi1 : ∀ X : World, (Instr.indexAt 103 (.pointer (some ⟨ga, j * 2, none⟩)) (.int .i64 1)).run Tryz.prog X = .ok (.pointer (some ⟨ga, j * 2 + 1, none⟩)) X := fun X => by go_simp
                      have ST : ∀ X : World, X = W2 → (Instr.storeAt 3 (.pointer (some ⟨ga, j * 2 + 1, none⟩)) (.int .i64 (y0 - 1))).run Tryz.prog X = .ok () (X.setCell ⟨ga, j * 2 + 1, none⟩ (.int .i64 (y0 - 1))) := fun X h => by
                        subst h
                        go_simp
                      have hwi2 : IntKind.i64.wrap ((i : Int) + 1) = ((i + 1 : Nat) : Int) := by rw [hwi]; omega
                      obtain ⟨FF, hFF⟩ : ∃ FF : StoR, FF = ⟨W2, W2.setCell ⟨ga, j * 2 + 1, none⟩ (.int .i64 (y0 - 1)), 12, fun z => match z with | 0 => some (.pointer (some ⟨wo.heap.size, 0, none⟩)) | 1 => some (.slice (some ⟨ga, 0, none⟩) (j + 1) cp) | 2 => some (.int .i64 ((j : Int) + 1)) | 3 => some (.int .i64 (j : Nat)) | 4 => some (.slice (some ⟨ge, 0, none⟩) me ce) | 5 => some (.int .i64 (i : Nat)) | 6 => some (.int .i64 ((i + 1 : Nat) : Int)) | 7 => some (.pointer (some ⟨ge, i + 1, none⟩)) | 8 => some (.int .i64 y0) | 9 => some (.int .i64 (y0 - 1)) | 10 => some (.pointer (some ⟨ga, j * 2, none⟩)) | 11 => some (.pointer (some ⟨ga, j * 2 + 1, none⟩)) | _ => none⟩ := ⟨_, rfl⟩
                      have H0 : StoR.S FF (fun _ => false) W1.drew := by rw [hFF]; exact fun _ => hW2
                      refine wp_region_done (StoR.S FF) (StoR.P FF) (by kernel_rfl) (by kernel_rfl) (by kernel_rfl) H0 ?hs ?hd
                      case hs =>
                        rw [hFF]
                        refine DSteps.cons ?_ (DSteps.cons ?_ (DSteps.cons ?_ (DSteps.cons ?_ (DSteps.cons ?_ (DSteps.cons ?_ (DSteps.cons ?_ (DSteps.cons ?_ (DSteps.cons ?_ (DSteps.cons ?_ (DSteps.cons ?_ (DSteps.cons ?_ (DSteps.cons ?_ (DSteps.nil)))))))))))))
                        · intro D2 a X9 hDi hDa _ hX hL hd
                          refine ⟨rfl, ?_⟩
                          have e0 : a.eval (.tmp 10) = .pointer (some ⟨wo.heap.size, 0, none⟩) := hL.far 10 (by kernel_rfl)
                          exact wp_value (exec_fieldAddr rfl e0 (hfa X9)) ⟨_, rfl, hX.more, fun _ _ _ h => h, StoR.P.mk rfl (by simp)⟩
                        · intro D2 a X9 hDi hDa _ hX hL hd
                          refine ⟨rfl, ?_⟩
                          have e0 : a.eval (.tmp 102) = .pointer (some ⟨wo.heap.size, 0, none⟩) := (hd 0 102 (by kernel_rfl) (by kernel_rfl)).is rfl
                          exact wp_value (exec_load rfl e0 (hls X9 (hX (hDa 12 (by kernel_rfl))))) ⟨_, rfl, hX.more, fun _ _ _ h => h, StoR.P.mk rfl (by simp)⟩
                        · intro D2 a X9 hDi hDa _ hX hL hd
                          refine ⟨rfl, ?_⟩
                          have e0 : a.eval (.tmp 12) = .int .i64 ((j : Int) + 1) := hL.far 12 (by kernel_rfl)
                          exact wp_value (exec_move rfl e0) ⟨_, rfl, hX.more, fun _ _ _ h => h, StoR.P.mk rfl (by simp)⟩
                        · intro D2 a X9 hDi hDa _ hX hL hd
                          refine ⟨rfl, ?_⟩
                          have e0 : a.eval (.tmp 104) = .int .i64 ((j : Int) + 1) := (hd 2 104 (by kernel_rfl) (by kernel_rfl)).is rfl
                          exact wp_value (exec_binop rfl e0 rfl (sub_one_ X9 _ _ _ _ jw)) ⟨_, rfl, hX.more, fun _ _ _ h => h, StoR.P.mk rfl (by simp)⟩
                        · intro D2 a X9 hDi hDa _ hX hL hd
                          refine ⟨rfl, ?_⟩
                          have e0 : a.eval (.tmp 7) = .slice (some ⟨ge, 0, none⟩) me ce := hL.far 7 (by kernel_rfl)
                          exact wp_value (exec_move rfl e0) ⟨_, rfl, hX.more, fun _ _ _ h => h, StoR.P.mk rfl (by simp)⟩
                        · intro D2 a X9 hDi hDa _ hX hL hd
                          refine ⟨rfl, ?_⟩
                          have e0 : a.eval (.tmp 11) = .int .i64 (i : Nat) := hL.far 11 (by kernel_rfl)
                          exact wp_value (exec_move rfl e0) ⟨_, rfl, hX.more, fun _ _ _ h => h, StoR.P.mk rfl (by simp)⟩
                        · intro D2 a X9 hDi hDa _ hX hL hd
                          refine ⟨rfl, ?_⟩
                          have e0 : a.eval (.tmp 107) = .int .i64 (i : Nat) := (hd 5 107 (by kernel_rfl) (by kernel_rfl)).is rfl
                          exact wp_value (exec_binop rfl e0 rfl (add_one_ X9 _ _ _ _ hwi2)) ⟨_, rfl, hX.more, fun _ _ _ h => h, StoR.P.mk rfl (by simp)⟩
                        · intro D2 a X9 hDi hDa _ hX hL hd
                          refine ⟨rfl, ?_⟩
                          have e0 : a.eval (.tmp 106) = .slice (some ⟨ge, 0, none⟩) me ce := (hd 4 106 (by kernel_rfl) (by kernel_rfl)).is rfl
                          have e1 : a.eval (.tmp 108) = .int .i64 ((i + 1 : Nat) : Int) := (hd 6 108 (by kernel_rfl) (by kernel_rfl)).is rfl
                          exact wp_value (exec_indexAddr rfl e0 e1 (hix1 X9)) ⟨_, rfl, hX.more, fun _ _ _ h => h, StoR.P.mk rfl (by simp)⟩
                        · intro D2 a X9 hDi hDa _ hX hL hd
                          refine ⟨rfl, ?_⟩
                          have e0 : a.eval (.tmp 109) = .pointer (some ⟨ge, i + 1, none⟩) := (hd 7 109 (by kernel_rfl) (by kernel_rfl)).is rfl
                          exact wp_value (exec_load rfl e0 (hl1 X9 (hX (hDa 12 (by kernel_rfl))))) ⟨_, rfl, hX.more, fun _ _ _ h => h, StoR.P.mk rfl (by simp)⟩
                        · intro D2 a X9 hDi hDa _ hX hL hd
                          refine ⟨rfl, ?_⟩
                          have e0 : a.eval (.tmp 110) = .int .i64 y0 := (hd 8 110 (by kernel_rfl) (by kernel_rfl)).is rfl
                          exact wp_value (exec_binop rfl e0 rfl (sub_one_ X9 _ _ _ _ y1w)) ⟨_, rfl, hX.more, fun _ _ _ h => h, StoR.P.mk rfl (by simp)⟩
                        · intro D2 a X9 hDi hDa _ hX hL hd
                          refine ⟨rfl, ?_⟩
                          have e0 : a.eval (.tmp 103) = .slice (some ⟨ga, 0, none⟩) (j + 1) cp := (hd 1 103 (by kernel_rfl) (by kernel_rfl)).is rfl
                          have e1 : a.eval (.tmp 105) = .int .i64 (j : Nat) := (hd 3 105 (by kernel_rfl) (by kernel_rfl)).is rfl
                          exact wp_value (exec_indexAddr rfl e0 e1 (hixo X9)) ⟨_, rfl, hX.more, fun _ _ _ h => h, StoR.P.mk rfl (by simp)⟩
                        · intro D2 a X9 hDi hDa _ hX hL hd
                          refine ⟨rfl, ?_⟩
                          have e0 : a.eval (.tmp 112) = .pointer (some ⟨ga, j * 2, none⟩) := (hd 10 112 (by kernel_rfl) (by kernel_rfl)).is rfl
                          exact wp_value (exec_indexAddr rfl e0 rfl (hi1 X9)) ⟨_, rfl, hX.more, fun _ _ _ h => h, StoR.P.mk rfl (by simp)⟩
                        · intro D2 a X9 hDi hDa _ hX hL hd
                          refine ⟨rfl, ?_⟩
                          have e0 : a.eval (.tmp 113) = .pointer (some ⟨ga, j * 2 + 1, none⟩) := (hd 11 113 (by kernel_rfl) (by kernel_rfl)).is rfl
                          have e1 : a.eval (.tmp 111) = .int .i64 (y0 - 1) := (hd 9 111 (by kernel_rfl) (by kernel_rfl)).is rfl
                          exact wp_skipped (exec_store rfl e0 e1 (ST X9 (hX hDi))) ⟨undef, rfl, StoR.S.store, fun k2 u hj h => h.store (fun e => by subst e; rw [hDi] at hj; cases hj), StoR.P.last rfl (by rw [hX hDi])⟩
                      case hd =>
                        intro D2 a X9 hAll hX hL hP hE
                        obtain ⟨_, hp⟩ := hE 12 (by decide)
                        rw [hFF] at hp
                        have hX9 : X9 = W2.setCell ⟨ga, j * 2 + 1, none⟩ (.int .i64 (y0 - 1)) := hp.2 rfl
                        obtain ⟨f, ha, hf⟩ := hL.out [102, 103, 104, 105, 106, 107, 108, 109, 110, 111, 112, 113] rfl
                        clear hf hAll hP hX hL hE hp hFF H0 hfa hls hl1 hix1 hixo hi1 ST c1 c2 c3 c4 hcX d2 fd2 e1X e0X hwi2
                        simp only [List.foldl_cons, List.foldl_nil, List.setIfInBounds_toArray, List.set_cons_zero, List.set_cons_succ] at ha
                        subst ha
                        subst hX9
                        clear hW2
                        go_wp2_with fail
                        go_roundw
                        case rel => exact ⟨i + 1, j + 1, cp, some ⟨ga, 0, none⟩, out.dropLast ++ [(ya, y0)], by go_num, by omega, HLN.out, by omega, HRL.out, HNB.out, HOS2.out⟩
                        case measure => simp [RowKit.intOf]; omega
                    · have hyq : (yd + 1 == x0) = false := by rw [beq_eq_false_iff_ne]; exact hyx
                      have HYX := Lib.hid hyx
                      clear hyx
                      go_wp2_with fail
                      go_quiet (fail)
                      go_wp2_with fail
                      have hlast := last_at HMO.out HY.out
                      have hadd : addR out x0 y0 = out ++ [(x0, y0)] := by
                        unfold addR
                        rw [hlast.1]
                        simp only
                        rw [if_neg HYX.out]
                      clear hlast
                      rw [hadd] at HRL
                      have HNB : Hid (∀ r ∈ out ++ [(x0, y0)], 0 ≤ r.1 ∧ 0 ≤ r.2 ∧ r.2 ≤ 1112192) := Lib.hid (fun r hr => by
                        rcases List.mem_append.1 hr with hr | hr
                        · exact HI.out.2.1 r hr
                        · rw [List.mem_singleton] at hr
                          subst hr
                          exact ⟨hbx.1, hby.1, hby.2⟩)
                      have HLN : Hid ((j + 1) + 1 = (out ++ [(x0, y0)]).length) := Lib.hid (by rw [List.length_append, ← HMO.out]; rfl)
                      have hN := HX.out.next (V' := X.drewN nq) (below_drewN (Below.refl _ _) nq)
                      have HN1 := Lib.hid hN
                      generalize X.drewN nq = W1 at *
                      have hown : OwnS (fun b => wo.heap.size + 1 ≤ b) 103 2 (.slice (some ⟨ga, 0, none⟩) (j + 1) cp) ((j + 1)) (encR (out.map dnR)) W1 := hN.2.2.2
                      have hkg : (Value.slice (some ⟨ga, 0, none⟩) (j + 1) cp).ownBlock ≠ some wo.heap.size := fun h => by have h9 : wo.heap.size + 1 ≤ wo.heap.size := hown.2 _ h; omega
                      have hkv : ∀ b, (Value.slice (some ⟨ga, 0, none⟩) (j + 1) cp).ownBlock = some b → b < W1.heap.size := fun b h => (hown.1.lt b h).2
                      have hgl : wo.heap.size < W1.heap.size := hN.2.2.1
                      have hkb : ∀ X, Keep (fun b => b = wo.heap.size ∨ (Value.slice (some ⟨ga, 0, none⟩) (j + 1) cp).ownBlock = some b) W1 X → Below wo.heap.size wo X := fun X hX => hN.2.1.trans (hX.below hN.2.1.size (fun b hb => by
                        rcases hb with hb | hb
                        · omega
                        · have h9 : wo.heap.size + 1 ≤ b := hown.2 _ hb
                          omega))
                      have HKB := Lib.hid hkb
                      have hfa : ∀ X : World, (Instr.fieldAt 44 (.pointer (some ⟨wo.heap.size, 0, none⟩)) 0).run Tryz.prog X = .ok (.pointer (some ⟨wo.heap.size, 0, none⟩)) X := fun X => by go_simp
                      have hls : ∀ X : World, X.heap[wo.heap.size]? = some (.cells #[.slice (some ⟨ga, 0, none⟩) (j + 1) cp] 44 (0, 0)) → (Instr.loadAt 42 (.pointer (some ⟨wo.heap.size, 0, none⟩))).run Tryz.prog X = .ok (.slice (some ⟨ga, 0, none⟩) (j + 1) cp) X := fun X h => by
                        have q := cell_one h
                        go_simp
                      have hix0 : ∀ X : World, (Instr.indexAt 168 (.slice (some ⟨ge, 0, none⟩) me ce) (.int .i64 (i : Nat))).run Tryz.prog X = .ok (.pointer (some ⟨ge, i, none⟩)) X := fun X => by
                        have q : (i : Int) < me := by omega
                        go_simp
                      have hix1 : ∀ X : World, (Instr.indexAt 168 (.slice (some ⟨ge, 0, none⟩) me ce) (.int .i64 ((i + 1 : Nat) : Int))).run Tryz.prog X = .ok (.pointer (some ⟨ge, i + 1, none⟩)) X := fun X => by
                        obtain ⟨i1, hi1⟩ : ∃ i1, i + 1 = i1 := ⟨_, rfl⟩
                        rw [hi1]
                        have q : (i1 : Int) < me := by omega
                        clear hi1
                        go_simp
                      have hl0 : ∀ X, Keep (fun b => b = wo.heap.size ∨ (Value.slice (some ⟨ga, 0, none⟩) (j + 1) cp).ownBlock = some b) W1 X → (Instr.loadAt 3 (.pointer (some ⟨ge, i, none⟩))).run Tryz.prog X = .ok (.int .i64 x0) X := fun X hX => by
                        have q := HCE.out i x0 HX0.out.1 X (hkb X hX)
                        go_simp
                      have hl1 : ∀ X, Keep (fun b => b = wo.heap.size ∨ (Value.slice (some ⟨ga, 0, none⟩) (j + 1) cp).ownBlock = some b) W1 X → (Instr.loadAt 3 (.pointer (some ⟨ge, i + 1, none⟩))).run Tryz.prog X = .ok (.int .i64 y0) X := fun X hX => by
                        have q := HCE.out (i + 1) y0 HX0.out.2 X (hkb X hX)
                        go_simp
                      have hwi2 : IntKind.i64.wrap ((i : Int) + 1) = ((i + 1 : Nat) : Int) := by rw [hwi]; omega
                      have y1w : IntKind.i64.wrap (y0 - 1) = y0 - 1 := IntWalk.i64_in _ (by omega)
                      have BD : ∀ W : World, (Instr.build 103 #[(0, .int .i64 x0), (1, .int .i64 (y0 - 1))]).run Tryz.prog W = .ok (.agg #[.int .i64 x0, .int .i64 (y0 - 1)]) W := fun W => by go_simp
                      have BS : ∀ W : World, (Instr.buildSlice 42 1 #[(0, .agg #[.int .i64 x0, .int .i64 (y0 - 1)])]).run Tryz.prog W = .ok (.slice (some ⟨W.heap.size, 0, none⟩) 1 1) (W.alloc (.cells #[.int .i64 x0, .int .i64 (y0 - 1)] 103)) := fun W => by go_simp
                      have ST : ∀ (W : World) (ao9 : Option Addr) (m2 cap : Nat), W.heap[wo.heap.size]? = some (.cells #[.slice (some ⟨ga, 0, none⟩) (j + 1) cp] 44 (0, 0)) → (Instr.storeAt 42 (.pointer (some ⟨wo.heap.size, 0, none⟩)) (.slice ao9 m2 cap)).run Tryz.prog W = .ok () (W.setCell ⟨wo.heap.size, 0, none⟩ (.slice ao9 m2 cap)) := fun W ao9 m2 cap h => by
                        have q := cell_one h
                        have q2 : W.frozen? ⟨wo.heap.size, 0, none⟩ = false := Lib.frozen_of_heap h _
                        go_simp
                      have S1 : ∀ {W : World} {u : Value}, W.heap[wo.heap.size]? = some (.cells #[.slice (some ⟨ga, 0, none⟩) (j + 1) cp] 44 (0, 0)) → (W.setCell ⟨wo.heap.size, 0, none⟩ u).heap[wo.heap.size]? = some (.cells #[u] 44 (0, 0)) := fun h => one_cell h
                      obtain ⟨ti, hti, hz, hs1, hbt⟩ := info_parts tinfoTwo
                      have HI2 := And.intro hti (And.intro hz (And.intro hs1 hbt))
                      have HOC : ∀ z ∈ [Value.int .i64 x0, .int .i64 (y0 - 1)], z.oneCell' = true := by intro z hz; simp at hz; rcases hz with rfl | rfl <;> rfl
                      have HM1 : (j + 1) + 1 ≤ maxLen := by unfold maxLen; omega
                      have HM2 : ((j + 1) + 1) * 16 ≤ 140737488355328 := by omega
                      obtain ⟨FF, hFF⟩ : ∃ FF : FldR, FF = ⟨wo.heap.size, W1, .slice (some ⟨ga, 0, none⟩) (j + 1) cp, 103, 2, (j + 1), (j + 1) + 1, encR (out.map dnR), encR (out.map dnR) ++ [.int .i64 x0, .int .i64 (y0 - 1)], 44, fun u => #[u], #[.int .i64 x0, .int .i64 (y0 - 1)], 14, 16, 13, fun z => match z with | 0 => some (.pointer (some ⟨wo.heap.size, 0, none⟩)) | 1 => some (.slice (some ⟨ga, 0, none⟩) (j + 1) cp) | 2 => some (.slice (some ⟨ge, 0, none⟩) me ce) | 3 => some (.int .i64 (i : Nat)) | 4 => some (.pointer (some ⟨ge, i, none⟩)) | 5 => some (.int .i64 x0) | 6 => some (.slice (some ⟨ge, 0, none⟩) me ce) | 7 => some (.int .i64 (i : Nat)) | 8 => some (.int .i64 ((i + 1 : Nat) : Int)) | 9 => some (.pointer (some ⟨ge, i + 1, none⟩)) | 10 => some (.int .i64 y0) | 11 => some (.int .i64 (y0 - 1)) | 12 => some (.agg #[.int .i64 x0, .int .i64 (y0 - 1)]) | 15 => some (.pointer (some ⟨wo.heap.size, 0, none⟩)) | _ => none⟩ := ⟨_, rfl⟩
                      have H0 : FldR.S FF (fun _ => false) W1.drew := by rw [hFF]; exact ⟨fun _ => hN.1, fun _ => hown.weaken (fun b h => by intro e; subst e; have h9 : wo.heap.size + 1 ≤ wo.heap.size := h; omega), (Keep.refl _ W1).drew⟩
                      clear hN
                      refine wp_region_done (FldR.S FF) (FldR.P FF) (by kernel_rfl) (by kernel_rfl) (by kernel_rfl) H0 ?hs ?hd
                      case hs =>
                        rw [hFF]
                        refine DSteps.cons ?_ (DSteps.cons ?_ (DSteps.cons ?_ (DSteps.cons ?_ (DSteps.cons ?_ (DSteps.cons ?_ (DSteps.cons ?_ (DSteps.cons ?_ (DSteps.cons ?_ (DSteps.cons ?_ (DSteps.cons ?_ (DSteps.cons ?_ (DSteps.cons ?_ (DSteps.cons ?_ (DSteps.cons ?_ (DSteps.cons ?_ (DSteps.cons ?_ (DSteps.nil)))))))))))))))))
                        · intro D2 a X hDi hDa _ hX hL hd
                          refine ⟨rfl, ?_⟩
                          have e0 : a.eval (.tmp 10) = .pointer (some ⟨wo.heap.size, 0, none⟩) := hL.far 10 (by kernel_rfl)
                          exact wp_value (exec_fieldAddr rfl e0 (hfa X)) ⟨_, rfl, hX.more, fun _ _ _ h => h, FldR.P.mk rfl ⟨by simp, by simp, by simp⟩⟩
                        · intro D2 a X hDi hDa _ hX hL hd
                          refine ⟨rfl, ?_⟩
                          have e0 : a.eval (.tmp 114) = .pointer (some ⟨wo.heap.size, 0, none⟩) := (hd 0 114 (by kernel_rfl) (by kernel_rfl)).is rfl
                          exact wp_value (exec_load rfl e0 (hls X (hX.1 (hDa 16 (by kernel_rfl))))) ⟨_, rfl, hX.more, fun _ _ _ h => h, FldR.P.mk rfl ⟨by simp, by simp, by simp⟩⟩
                        · intro D2 a X hDi hDa _ hX hL hd
                          refine ⟨rfl, ?_⟩
                          have e0 : a.eval (.tmp 7) = .slice (some ⟨ge, 0, none⟩) me ce := hL.far 7 (by kernel_rfl)
                          exact wp_value (exec_move rfl e0) ⟨_, rfl, hX.more, fun _ _ _ h => h, FldR.P.mk rfl ⟨by simp, by simp, by simp⟩⟩
                        · intro D2 a X hDi hDa _ hX hL hd
                          refine ⟨rfl, ?_⟩
                          have e0 : a.eval (.tmp 11) = .int .i64 (i : Nat) := hL.far 11 (by kernel_rfl)
                          exact wp_value (exec_move rfl e0) ⟨_, rfl, hX.more, fun _ _ _ h => h, FldR.P.mk rfl ⟨by simp, by simp, by simp⟩⟩
                        · intro D2 a X hDi hDa _ hX hL hd
                          refine ⟨rfl, ?_⟩
                          have e0 : a.eval (.tmp 116) = .slice (some ⟨ge, 0, none⟩) me ce := (hd 2 116 (by kernel_rfl) (by kernel_rfl)).is rfl
                          have e1 : a.eval (.tmp 117) = .int .i64 (i : Nat) := (hd 3 117 (by kernel_rfl) (by kernel_rfl)).is rfl
                          exact wp_value (exec_indexAddr rfl e0 e1 (hix0 X)) ⟨_, rfl, hX.more, fun _ _ _ h => h, FldR.P.mk rfl ⟨by simp, by simp, by simp⟩⟩
                        · intro D2 a X hDi hDa _ hX hL hd
                          refine ⟨rfl, ?_⟩
                          have e0 : a.eval (.tmp 118) = .pointer (some ⟨ge, i, none⟩) := (hd 4 118 (by kernel_rfl) (by kernel_rfl)).is rfl
                          exact wp_value (exec_load rfl e0 (hl0 X hX.2.2)) ⟨_, rfl, hX.more, fun _ _ _ h => h, FldR.P.mk rfl ⟨by simp, by simp, by simp⟩⟩
                        · intro D2 a X hDi hDa _ hX hL hd
                          refine ⟨rfl, ?_⟩
                          have e0 : a.eval (.tmp 7) = .slice (some ⟨ge, 0, none⟩) me ce := hL.far 7 (by kernel_rfl)
                          exact wp_value (exec_move rfl e0) ⟨_, rfl, hX.more, fun _ _ _ h => h, FldR.P.mk rfl ⟨by simp, by simp, by simp⟩⟩
                        · intro D2 a X hDi hDa _ hX hL hd
                          refine ⟨rfl, ?_⟩
                          have e0 : a.eval (.tmp 11) = .int .i64 (i : Nat) := hL.far 11 (by kernel_rfl)
                          exact wp_value (exec_move rfl e0) ⟨_, rfl, hX.more, fun _ _ _ h => h, FldR.P.mk rfl ⟨by simp, by simp, by simp⟩⟩
                        · intro D2 a X hDi hDa _ hX hL hd
                          refine ⟨rfl, ?_⟩
                          have e0 : a.eval (.tmp 121) = .int .i64 (i : Nat) := (hd 7 121 (by kernel_rfl) (by kernel_rfl)).is rfl
                          exact wp_value (exec_binop rfl e0 rfl (add_one_ X _ _ _ _ hwi2)) ⟨_, rfl, hX.more, fun _ _ _ h => h, FldR.P.mk rfl ⟨by simp, by simp, by simp⟩⟩
                        · intro D2 a X hDi hDa _ hX hL hd
                          refine ⟨rfl, ?_⟩
                          have e0 : a.eval (.tmp 120) = .slice (some ⟨ge, 0, none⟩) me ce := (hd 6 120 (by kernel_rfl) (by kernel_rfl)).is rfl
                          have e1 : a.eval (.tmp 122) = .int .i64 ((i + 1 : Nat) : Int) := (hd 8 122 (by kernel_rfl) (by kernel_rfl)).is rfl
                          exact wp_value (exec_indexAddr rfl e0 e1 (hix1 X)) ⟨_, rfl, hX.more, fun _ _ _ h => h, FldR.P.mk rfl ⟨by simp, by simp, by simp⟩⟩
                        · intro D2 a X hDi hDa _ hX hL hd
                          refine ⟨rfl, ?_⟩
                          have e0 : a.eval (.tmp 123) = .pointer (some ⟨ge, i + 1, none⟩) := (hd 9 123 (by kernel_rfl) (by kernel_rfl)).is rfl
                          exact wp_value (exec_load rfl e0 (hl1 X hX.2.2)) ⟨_, rfl, hX.more, fun _ _ _ h => h, FldR.P.mk rfl ⟨by simp, by simp, by simp⟩⟩
                        · intro D2 a X hDi hDa _ hX hL hd
                          refine ⟨rfl, ?_⟩
                          have e0 : a.eval (.tmp 124) = .int .i64 y0 := (hd 10 124 (by kernel_rfl) (by kernel_rfl)).is rfl
                          exact wp_value (exec_binop rfl e0 rfl (sub_one_ X _ _ _ _ y1w)) ⟨_, rfl, hX.more, fun _ _ _ h => h, FldR.P.mk rfl ⟨by simp, by simp, by simp⟩⟩
                        · intro D2 a X hDi hDa _ hX hL hd
                          refine ⟨rfl, ?_⟩
                          have e0 : a.eval (.tmp 119) = .int .i64 x0 := (hd 5 119 (by kernel_rfl) (by kernel_rfl)).is rfl
                          have e1 : a.eval (.tmp 125) = .int .i64 (y0 - 1) := (hd 11 125 (by kernel_rfl) (by kernel_rfl)).is rfl
                          exact wp_value (exec_build rfl (ps := #[(0, .int .i64 x0), (1, .int .i64 (y0 - 1))]) (by simp only [List.map_toArray, List.map_cons, List.map_nil, e0, e1] <;> rfl) (BD X)) ⟨_, rfl, hX.more, fun _ _ _ h => h, FldR.P.mk rfl ⟨by simp, by simp, by simp⟩⟩
                        · intro D2 a X hDi hDa _ hX hL hd
                          refine ⟨rfl, ?_⟩
                          have e0 : a.eval (.tmp 126) = .agg #[.int .i64 x0, .int .i64 (y0 - 1)] := (hd 12 126 (by kernel_rfl) (by kernel_rfl)).is rfl
                          refine wp_value (exec_buildSlice rfl (ps := #[(0, .agg #[.int .i64 x0, .int .i64 (y0 - 1)])]) (by simp only [List.map_toArray, List.map_cons, List.map_nil, e0] <;> rfl) (BS X)) ⟨_, rfl, (hX.below ((Below.refl _ X).alloc (Nat.le_refl _) _)).more, fun _ _ _ h => h.below ((Below.refl _ X).alloc (Nat.le_refl _) _), FldR.P.bs rfl ⟨by simp, by simp⟩ ⟨X.heap.size, rfl, alloc_at rfl, hX.2.2.size⟩⟩
                        · intro D2 a X hDi hDa _ hX hL hd
                          refine ⟨rfl, ?_⟩
                          have e0 : a.eval (.tmp 115) = .slice (some ⟨ga, 0, none⟩) (j + 1) cp := (hd 1 115 (by kernel_rfl) (by kernel_rfl)).is rfl
                          obtain ⟨b2, hb1, hb2, hb3⟩ := (hd 13 127 (by kernel_rfl) (by kernel_rfl)).2.1 rfl
                          have h28 := hDa 16 (by kernel_rfl)
                          have hown := hX.2.1 hDi
                          refine wp_append_lies X (.tmp 115) (.tmp 127) 42 rfl 0 103 ti (.agg #[.int .i64 0, .int .i64 0]) 2 16 Tryz.underlying42 HI2.1 HI2.2.1 HI2.2.2.1 HI2.2.2.2 rfl (by decide) (.slice (some ⟨ga, 0, none⟩) (j + 1) cp) (j + 1) (encR (out.map dnR)) e0 hown.1 ⟨b2, 0, none⟩ 1 1 [.int .i64 x0, .int .i64 (y0 - 1)] hb1 rfl (World.news_of_block hb2) HOC (by decide) HM1 HM2 (Nat.zero_le _) _ rfl ?_
                          intro g2 cap2 X2 hown2 hgrow hat hlt2
                          exact ⟨_, rfl, hX.app hkg h28 (keep_grown hgrow), fun j u hj h => h.app hkv (keep_grown hgrow) (fun e => by subst e; rw [hDi] at hj; cases hj) (fun e => by subst e; rw [h28] at hj; cases hj), FldR.P.row rfl ⟨by simp, by simp⟩ (FldR.row_of (ln := (j + 1) + 1) hX.2.2.size hgl hkg ⟨hown2, fun y hy => by
                            have : g2 = y := by simpa [Value.ownBlock] using hy
                            subst this
                            rcases hat with h | h
                            · exact .inl h
                            · exact .inr (by omega)⟩ rfl)⟩
                        · intro D2 a X hDi hDa _ hX hL hd
                          refine ⟨rfl, ?_⟩
                          have e0 : a.eval (.tmp 10) = .pointer (some ⟨wo.heap.size, 0, none⟩) := hL.far 10 (by kernel_rfl)
                          exact wp_value (exec_fieldAddr rfl e0 (hfa X)) ⟨_, rfl, hX.more, fun _ _ _ h => h, FldR.P.mk rfl ⟨by simp, by simp, by simp⟩⟩
                        · intro D2 a X hDi hDa _ hX hL hd
                          refine ⟨rfl, ?_⟩
                          have e0 : a.eval (.tmp 129) = .pointer (some ⟨wo.heap.size, 0, none⟩) := (hd 15 129 (by kernel_rfl) (by kernel_rfl)).is rfl
                          obtain ⟨ao3, ln, cp3, he, ho⟩ := (hd 14 128 (by kernel_rfl) (by kernel_rfl)).2.2.1 rfl
                          have hc := hX.1 hDi
                          exact wp_skipped (exec_store rfl e0 he (ST X _ _ _ hc)) ⟨undef, rfl, hX.store, fun j u hj h => h.store hgl (fun e => by subst e; rw [hDi] at hj; cases hj), FldR.P.last rfl ⟨by simp, by simp⟩ ⟨_, FldR.Row.store ⟨ao3, ln, cp3, rfl, by rw [← he]; exact ho⟩, S1 hc⟩⟩
                      case hd =>
                        intro D2 a X hAll hX hL hP hE
                        obtain ⟨_, hp⟩ := hE 16 (by decide)
                        rw [hFF] at hp hX
                        obtain ⟨u, ⟨ao2, ln, cp2, hu0, ho⟩, hu⟩ := hp.2.2.2 rfl
                        simp only at ho hu
                        obtain ⟨ao3, cap3, rfl⟩ := own_slice ho
                        have hK := hX.2.2
                        obtain ⟨f, ha, hf⟩ := hL.out [114, 115, 116, 117, 118, 119, 120, 121, 122, 123, 124, 125, 126, 127, 128, 129] rfl
                        have HF := Lib.hid (And.intro ho (And.intro hu hK))
                        clear hf hAll hP hX hL hE hp ho hu hu0 hK S1 hfa hls hix0 hix1 hl0 hl1 BD BS ST HI2 HOC HM1 HM2 H0 hFF hti hz hs1 hbt hown hkg hkv hkb
                        simp only [List.foldl_cons, List.foldl_nil, List.setIfInBounds_toArray, List.set_cons_zero, List.set_cons_succ] at ha
                        subst ha
                        go_wp2_with fail
                        go_roundw
                        case rel =>
                          obtain ⟨ho, hu, hK⟩ := HF.out
                          refine ⟨i + 1, (j + 1) + 1, cap3, ao3, out ++ [(x0, y0)], by go_num, by omega, HLN.out, by omega, HRL.out, HNB.out, hu, HKB.out _ hK, Nat.le_trans hgl hK.size, ?_⟩
                          have e : encR ((out ++ [(x0, y0)]).map dnR) = encR (out.map dnR) ++ [.int .i64 x0, .int .i64 (y0 - 1)] := by
                            rw [List.map_append]
                            exact encR_snoc _ _
                          rw [e]
                          exact ho.weaken (fun b hb => by
                            rcases hb.1 with h | h
                            · exact HN1.out.2.2.2.2 b h
                            · have h9 : W1.heap.size ≤ b := h
                              show wo.heap.size + 1 ≤ b
                              omega)
                        case measure => simp [RowKit.intOf]; omega
              · have hsf : (!us) = true := by rw [Bool.eq_false_iff.2 hsy]; rfl
                have HRL : Hid (madeL how a b = mkR (fun x => saysB how (hasL a x) (hasL b x)) (ES.drop (i + 1)) out) := Lib.hid (by
                  rw [HI.out.1, HST.out, if_neg (by rw [HSS.out]; exact hsy)])
                have S14 : Below wr.heap.size wr wr.drew := below_drewN (Below.refl _ _) 1
                clear hsy hx0 hy0
                go_wp2_with fail
                refine wp_region_guarded (fun X => Below wr.heap.size wr X) (fun U V => Below U.heap.size U V) (pM14 w.heap.size ge me ce i how (.slice aa la capa) (.slice ab lb capb) x0 ua ub us) (by kernel_rfl) (by kernel_rfl) (by kernel_rfl) S14 ?hp ?hs ?hd
                case hp =>
                  intro i v U V _ _ hk hv
                  unfold pM14 at hv ⊢
                  split at hv <;> exact hv
                case hs =>
                  refine GSteps.cons ?_ (GSteps.cons ?_ (GSteps.cons ?_ (GSteps.cons ?_ (GSteps.cons ?_ (GSteps.cons ?_ (GSteps.cons ?_ (GSteps.cons ?_ (GSteps.cons ?_ (GSteps.cons ?_ (GSteps.cons ?_ (GSteps.cons ?_ (GSteps.cons ?_ (GSteps.cons ?_ (GSteps.cons ?_ (GSteps.nil)))))))))))))))
                  · intro a X hX hL hd
                    refine .inl ⟨rfl, ?_⟩
                    have e0 : a.eval (.tmp 2) = .int .i64 (how : Nat) := hL.far 2 (by kernel_rfl)
                    exact wp_value (exec_move rfl e0) ⟨_, rfl, hX, Below.refl _ _, rfl⟩
                  · intro a X hX hL hd
                    refine .inl ⟨rfl, ?_⟩
                    have e0 : a.eval (.tmp 3) = .pointer (some ⟨w.heap.size, 0, none⟩) := hL.far 3 (by kernel_rfl)
                    exact wp_value (exec_load rfl e0 (hlsa X hX)) ⟨_, rfl, hX, Below.refl _ _, rfl⟩
                  · intro a X hX hL hd
                    refine .inl ⟨rfl, ?_⟩
                    have e0 : a.eval (.tmp 7) = .slice (some ⟨ge, 0, none⟩) me ce := hL.far 7 (by kernel_rfl)
                    exact wp_value (exec_move rfl e0) ⟨_, rfl, hX, Below.refl _ _, rfl⟩
                  · intro a X hX hL hd
                    refine .inl ⟨rfl, ?_⟩
                    have e0 : a.eval (.tmp 11) = .int .i64 (i : Nat) := hL.far 11 (by kernel_rfl)
                    exact wp_value (exec_move rfl e0) ⟨_, rfl, hX, Below.refl _ _, rfl⟩
                  · intro a X hX hL hd
                    refine .inl ⟨rfl, ?_⟩
                    have e0 : a.eval (.tmp 69) = .slice (some ⟨ge, 0, none⟩) me ce := hd 2 69 (by kernel_rfl) (by kernel_rfl)
                    have e1 : a.eval (.tmp 70) = .int .i64 (i : Nat) := hd 3 70 (by kernel_rfl) (by kernel_rfl)
                    exact wp_value (exec_indexAddr rfl e0 e1 (hixe X)) ⟨_, rfl, hX, Below.refl _ _, rfl⟩
                  · intro a X hX hL hd
                    refine .inl ⟨rfl, ?_⟩
                    have e0 : a.eval (.tmp 71) = .pointer (some ⟨ge, i, none⟩) := hd 4 71 (by kernel_rfl) (by kernel_rfl)
                    exact wp_value (exec_load rfl e0 (hle0 X hX)) ⟨_, rfl, hX, Below.refl _ _, rfl⟩
                  · intro a X hX hL hd
                    refine .inl ⟨rfl, ?_⟩
                    have e0 : a.eval (.tmp 68) = .agg #[.slice aa la capa] := hd 1 68 (by kernel_rfl) (by kernel_rfl)
                    have e1 : a.eval (.tmp 72) = .int .i64 x0 := hd 5 72 (by kernel_rfl) (by kernel_rfl)
                    refine wp_enter (exec_call (vs := #[.agg #[.slice aa la capa], .int .i64 x0]) rfl (by simp only [List.map_toArray, List.map_cons, List.map_nil, e0, e1]) Tryz.func103 rfl rfl) ?_
                    refine (CHA.out X hX).mono ?_
                    rintro e w' ⟨rfl, hb⟩
                    exact ⟨_, rfl, _, rfl, SNX.out _ _ hX hb, hb, rfl⟩
                  · intro a X hX hL hd
                    refine .inl ⟨rfl, ?_⟩
                    have e0 : a.eval (.tmp 4) = .pointer (some ⟨w.heap.size + 1, 0, none⟩) := hL.far 4 (by kernel_rfl)
                    exact wp_value (exec_load rfl e0 (hlsb X hX)) ⟨_, rfl, hX, Below.refl _ _, rfl⟩
                  · intro a X hX hL hd
                    refine .inl ⟨rfl, ?_⟩
                    have e0 : a.eval (.tmp 7) = .slice (some ⟨ge, 0, none⟩) me ce := hL.far 7 (by kernel_rfl)
                    exact wp_value (exec_move rfl e0) ⟨_, rfl, hX, Below.refl _ _, rfl⟩
                  · intro a X hX hL hd
                    refine .inl ⟨rfl, ?_⟩
                    have e0 : a.eval (.tmp 11) = .int .i64 (i : Nat) := hL.far 11 (by kernel_rfl)
                    exact wp_value (exec_move rfl e0) ⟨_, rfl, hX, Below.refl _ _, rfl⟩
                  · intro a X hX hL hd
                    refine .inl ⟨rfl, ?_⟩
                    have e0 : a.eval (.tmp 75) = .slice (some ⟨ge, 0, none⟩) me ce := hd 8 75 (by kernel_rfl) (by kernel_rfl)
                    have e1 : a.eval (.tmp 76) = .int .i64 (i : Nat) := hd 9 76 (by kernel_rfl) (by kernel_rfl)
                    exact wp_value (exec_indexAddr rfl e0 e1 (hixe X)) ⟨_, rfl, hX, Below.refl _ _, rfl⟩
                  · intro a X hX hL hd
                    refine .inl ⟨rfl, ?_⟩
                    have e0 : a.eval (.tmp 77) = .pointer (some ⟨ge, i, none⟩) := hd 10 77 (by kernel_rfl) (by kernel_rfl)
                    exact wp_value (exec_load rfl e0 (hle0 X hX)) ⟨_, rfl, hX, Below.refl _ _, rfl⟩
                  · intro a X hX hL hd
                    refine .inl ⟨rfl, ?_⟩
                    have e0 : a.eval (.tmp 74) = .agg #[.slice ab lb capb] := hd 7 74 (by kernel_rfl) (by kernel_rfl)
                    have e1 : a.eval (.tmp 78) = .int .i64 x0 := hd 11 78 (by kernel_rfl) (by kernel_rfl)
                    refine wp_enter (exec_call (vs := #[.agg #[.slice ab lb capb], .int .i64 x0]) rfl (by simp only [List.map_toArray, List.map_cons, List.map_nil, e0, e1]) Tryz.func103 rfl rfl) ?_
                    refine (CHB.out X hX).mono ?_
                    rintro e w' ⟨rfl, hb⟩
                    exact ⟨_, rfl, _, rfl, SNX.out _ _ hX hb, hb, rfl⟩
                  · intro a X hX hL hd
                    refine .inl ⟨rfl, ?_⟩
                    have e0 : a.eval (.tmp 67) = .int .i64 (how : Nat) := hd 0 67 (by kernel_rfl) (by kernel_rfl)
                    have e1 : a.eval (.tmp 73) = .bool ua := hd 6 73 (by kernel_rfl) (by kernel_rfl)
                    have e2 : a.eval (.tmp 79) = .bool ub := hd 12 79 (by kernel_rfl) (by kernel_rfl)
                    refine wp_enter (exec_call (vs := #[.int .i64 (how : Nat), .bool ua, .bool ub]) rfl (by simp only [List.map_toArray, List.map_cons, List.map_nil, e0, e1, e2]) Tryz.func132 rfl rfl) ?_
                    refine (CSY.out X).mono ?_
                    rintro e w' ⟨rfl, rfl⟩
                    exact ⟨_, rfl, _, rfl, hX, Below.refl _ _, rfl⟩
                  · intro a X hX hL hd
                    refine .inl ⟨rfl, ?_⟩
                    have e0 : a.eval (.tmp 80) = .bool us := hd 13 80 (by kernel_rfl) (by kernel_rfl)
                    exact wp_value (exec_unop rfl e0 rfl) ⟨_, rfl, hX, Below.refl _ _, rfl⟩
                case hd =>
                  intro a2 X hX hL hd _
                  have h81 : a2.tmps.getD 81 undef = .bool true := (hd 14 81 (by kernel_rfl)).trans (by rw [hsf])
                  obtain ⟨f, ha, hf⟩ := hL.out [67, 68, 69, 70, 71, 72, 73, 74, 75, 76, 77, 78, 79, 80, 81] (by kernel_rfl)
                  have h81' : f 81 = .bool true := (hf 81).trans h81
                  simp only [List.foldl_cons, List.foldl_nil, List.setIfInBounds_toArray, List.set_cons_zero, List.set_cons_succ, h81'] at ha
                  clear hf hd hL h81
                  subst ha
                  have HX := Lib.hid (HI.out.2.2.next hX)
                  clear hX S14
                  go_wp2_with fail
                  go_roundw
                  case rel => exact ⟨i + 1, m, cp, ao, out, by go_num, by omega, HMO.out, by omega, HRL.out, HI.out.2.1, HX.out⟩
                  case measure => simp [RowKit.intOf]; omega
            · have hgo' : ¬ (i : Int) + 1 < me := by omega
              have HEN : Hid (madeL how a b = out) := Lib.hid (by rw [HI.out.1]; exact mkR_end (by rw [← HME.out]; omega))
              have hq := HI.out.2.2
              have HVV := Lib.hid (slr_own hq.2.2.2 (by rw [List.length_map]; exact HMO.out))
              have hMW := HM.out.keep (X := fun b => wo.heap.size ≤ b) (Keep.of_below hq.2.1 (fun b _ h => h)) (fun b h => Nat.le_trans HM.out.2.2.2.2 h)
              have k0 : wr.cell? ⟨w.heap.size + 2, 0, none⟩ = some (.slice none 0 0) := by rw [Lib.cell_of_heap hMW.2.2.1]; rfl
              have f0 : wr.frozen? ⟨w.heap.size + 2, 0, none⟩ = false := Lib.frozen_of_heap hMW.2.2.1 _
              have k1 := cell_one hq.1
              have HF := Lib.hid (And.intro hMW hq)
              clear hMW hq
              go_wp2_with fail
              (try simp only [Exit.inBlock, Exit.then])
              refine bodyPost_ret (results_cell_row rfl _ _ (w.heap.size + 1 + 1) 44 #[.slice ao m cp] (0, 0) _ rfl (one_cell HF.out.1.2.2.1) Tryz.underlying44 rfl (by kernel_rfl)) rfl ?_
              refine ⟨_, rfl, ?_, HF.out.1.2.2.2.1.setCell (by show w.heap.size ≤ w.heap.size + 1 + 1; omega) _⟩
              rw [HEN.out]
              exact slr_own (own_set HF.out.2.2.2.2 (g := w.heap.size + 1 + 1) (o := 0) (.slice ao m cp) (by have := HM.out.2.2.2.2; omega)) (by rw [List.length_map]; exact HMO.out)
end Go.Proofs.YtjbkpcdpdifpnaaGreatDoor
