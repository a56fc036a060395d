/- As K18, up to 2000 lists; as K16, where the block of the list of lists has room behind (ex: what stands there): a look at lists that were handed out, which marks each thing, makes each list longer and asks for the marks again: what its loops keep. -/
import Derived.Test.YtfpfpaaojdodnaaGreatDoorDa
import Derived.Test.YtfpfpaaojdodnaaGreatDoorGz1
namespace Go.Kt.Ly
open Go Go.RowKit Go.Kt

def mL (M : Nat → Nat → List Value) (k n : Nat) : List Value := (List.range n).flatMap (M k)
theorem mL_succ (M : Nat → Nat → List Value) (k n : Nat) : mL M k (n + 1) = mL M k n ++ M k n := by simp [mL, List.range_succ]
theorem mL_zero (M : Nat → Nat → List Value) (k : Nat) : mL M k 0 = [] := rfl
theorem mL_len {M : Nat → Nat → List Value} {size : Nat} (hM : ∀ k i, (M k i).length = size) (k : Nat) : ∀ n, (mL M k n).length = n * size
  | 0 => by simp [mL]
  | n + 1 => by rw [mL_succ, List.length_append, mL_len hM k n, hM, Nat.succ_mul]
theorem mL_get {M : Nat → Nat → List Value} {size : Nat} (hM : ∀ k i, (M k i).length = size) (k : Nat) : ∀ (n i c : Nat) (u : Value), i < n → (M k i)[c]? = some u → (mL M k n)[i * size + c]? = some u
  | 0, i, c, u, h, _ => by omega
  | n + 1, i, c, u, h, hu => by
    have hc : c < size := by rw [← hM k i]; exact (List.getElem?_eq_some_iff.1 hu).1
    rw [mL_succ]
    rcases Nat.lt_or_ge i n with hin | hin
    · rw [List.getElem?_append_left (by
        rw [mL_len hM]
        have : (i + 1) * size ≤ n * size := Nat.mul_le_mul_right _ hin
        rw [Nat.succ_mul] at this
        omega)]
      exact mL_get hM k n i c u hin hu
    · obtain rfl : i = n := by omega
      rw [List.getElem?_append_right (by rw [mL_len hM]; omega), mL_len hM, Nat.add_sub_cancel_left]
      exact hu

structure AK (P : Program) (e t tt : TypeId) (size bytes : Nat) (z : Value) (M : Nat → Nat → List Value) : Prop where
  ht : P.underlying t = some (.slice e)
  hinfo : (P.info? e).map (fun i => (i.zero, i.size, i.bytes)) = some (some z, size, bytes)
  hzs : z.cells.size = size
  hsz : 0 < size
  htt : P.underlying tt = some (.slice t)
  hinfo2 : (P.info? t).map (fun i => (i.zero, i.size, i.bytes)) = some (some (.slice none 0 0), 1, 24)
  hM : ∀ k i, (M k i).length = size
  h1 : ∀ k i u, u ∈ M k i → u.oneCell' = true
  hb : bytes ≤ 1000

theorem at_row {Y : Nat → Prop} {e : TypeId} {sz n g cap : Nat} {xs : List Value} {W : World} (h : OwnS Y e sz (.slice (some ⟨g, 0, none⟩) n cap) n xs W) {i : Nat} {u : Value} (hi : xs[i]? = some u) : W.cell? ⟨g, i, none⟩ = some u := by
  have := h.1.cells (g := g) rfl i u hi
  rwa [Addr.add_lit, Nat.zero_add] at this
def setB : World → Nat → Nat → List Value → World
  | W, _, _, [] => W
  | W, g, o, u :: us => setB (W.setCell ⟨g, o, none⟩ u) g (o + 1) us
def setL : List Value → Nat → List Value → List Value
  | xs, _, [] => xs
  | xs, o, u :: us => setL (xs.set o u) (o + 1) us
theorem setL_take : ∀ (us xs : List Value) (o : Nat), o + us.length ≤ xs.length → (setL xs o us).take (o + us.length) = xs.take o ++ us
  | [], xs, o, _ => by simp [setL]
  | u :: us, xs, o, h => by
    rw [List.length_cons] at h
    have ih := setL_take us (xs.set o u) (o + 1) (by rw [List.length_set]; omega)
    rw [setL, List.length_cons, show o + (us.length + 1) = o + 1 + us.length by omega, ih, List.take_add_one, List.getElem?_set_self (by omega), List.take_set_of_le (by omega)]
    simp
theorem setB_own {e : TypeId} {size g n cap : Nat} {Y : Nat → Prop} : ∀ (us xs : List Value) (W : World) (o : Nat), OwnS Y e size (.slice (some ⟨g, 0, none⟩) n cap) n xs W → OwnS Y e size (.slice (some ⟨g, 0, none⟩) n cap) n (setL xs o us) (setB W g o us) ∧ Keep (fun b => b = g) W (setB W g o us)
  | [], xs, W, o, h => ⟨h, Keep.refl _ _⟩
  | u :: us, xs, W, o, h => by
    have h1 : OwnS Y e size (.slice (some ⟨g, 0, none⟩) n cap) n (xs.set o u) (W.setCell ⟨g, o, none⟩ u) := ⟨(h.1.stored o u).1, h.2⟩
    obtain ⟨h2, h3⟩ := setB_own us (xs.set o u) (W.setCell ⟨g, o, none⟩ u) (o + 1) h1
    exact ⟨h2, ((Keep.refl (fun b => b = g) W).setCell (p := ⟨g, o, none⟩) rfl u).trans h3⟩

section
variable (e t : TypeId) (size : Nat) (M : Nat → Nat → List Value) (q : Nat) (ex vs : List Value) (ns : Nat → Nat)
def Xs (b : Nat) : Prop := ∃ v ∈ vs, v.ownBlock = some b
def Apart : Prop := ∀ (i j : Nat) (u v : Value) (b : Nat), i ≠ j → vs[i]? = some u → vs[j]? = some v → u.ownBlock = some b → v.ownBlock ≠ some b
structure Handed (w : World) : Prop where
  row : w.heap[q]? = some (.cells (vs ++ ex).toArray t (0, 0))
  few : vs.length ≤ 2000
  own : ∀ k v, vs[k]? = some v → ns k ≤ 2097152 ∧ ∃ xs, OwnS (fun b => b ≠ q) e size v (ns k) xs w
  apart : Apart vs
def Mk (w : World) (k i : Nat) (W : World) : Prop :=
  W.heap[q]? = some (.cells (vs ++ ex).toArray t (0, 0)) ∧ Keep (Xs vs) w W ∧
  ∀ j v, vs[j]? = some v → ∃ xs, OwnS (fun b => b ≠ q ∧ b < w.heap.size) e size v (ns j) xs W ∧ (j < k → xs = mL M j (ns j)) ∧ (j = k → xs.take (i * size) = mL M k i)
structure Done (S : Nat → Prop) (gl : List Value) (j : Nat) (W : World) : Prop where
  long : ∃ h cap, gl[j]? = some (.slice (some ⟨h, 0, none⟩) (ns j + 64) cap) ∧ S h ∧ ∀ (c : Nat) u, (mL M j (ns j + 64))[c]? = some u → W.cell? ⟨h, c, none⟩ = some u
  own : ∀ v, vs[j]? = some v → ∀ (c : Nat) u, (mL M j (ns j))[c]? = some u → ∃ g cap, v = .slice (some ⟨g, 0, none⟩) (ns j) cap ∧ S g ∧ W.cell? ⟨g, c, none⟩ = some u
structure Base (S : Nat → Prop) (w : World) (k : Nat) (gv : Value) (gl : List Value) (W : World) : Prop where
  len : gl.length = k
  row : W.heap[q]? = some (.cells (vs ++ ex).toArray t (0, 0))
  keep : Keep (Xs vs) w W
  bd : ∀ b, S b → b ≠ q ∧ b < W.heap.size
  list : OwnS (fun b => ¬ S b ∧ b ≠ q ∧ w.heap.size ≤ b) t 1 gv k gl W
  done : ∀ j, j < k → Done M vs ns S gl j W
  rest : ∀ j v, k < j → vs[j]? = some v → OwnS (fun b => ¬ S b ∧ b ≠ q ∧ b < w.heap.size) e size v (ns j) (mL M j (ns j)) W
def Gs (w : World) (k : Nat) (gv : Value) (W : World) : Prop :=
  ∃ S gl, Base e t size M q ex vs ns S w k gv gl W ∧ ∀ v, vs[k]? = some v → OwnS (fun b => ¬ S b ∧ b ≠ q ∧ b < w.heap.size) e size v (ns k) (mL M k (ns k)) W
def In (w : World) (k i : Nat) (gv g' : Value) (W : World) : Prop :=
  ∃ S gl, Base e t size M q ex vs ns S w k gv gl W ∧ OwnS (fun b => ¬ S b ∧ b ≠ q ∧ (b < w.heap.size → Xs vs b) ∧ gv.ownBlock ≠ some b ∧ ∀ j v, k < j → vs[j]? = some v → v.ownBlock ≠ some b) e size g' (ns k + i) (mL M k (ns k + i)) W ∧
    ∀ v, vs[k]? = some v → ∀ (c : Nat) u, (mL M k (ns k))[c]? = some u → ∃ g cap, v = .slice (some ⟨g, 0, none⟩) (ns k) cap ∧ g ≠ q ∧ g < w.heap.size ∧ W.cell? ⟨g, c, none⟩ = some u
end

variable {P : Program} {e t tt : TypeId} {size bytes : Nat} {z : Value} {M : Nat → Nat → List Value} {S : Nat → Prop} {q : Nat} {ex vs : List Value} {ns : Nat → Nat}
theorem Handed.mk0 {w : World} (h : Handed e t size q ex vs ns w) : Mk e t size M q ex vs ns w 0 0 w :=
  ⟨h.row, Keep.refl _ _, fun j v hv => by
    obtain ⟨_, xs, ho⟩ := h.own j v hv
    exact ⟨xs, ⟨ho.1, fun b hb => ⟨ho.2 b hb, (ho.1.lt b hb).2⟩⟩, fun h => by omega, fun _ => by simp [mL]⟩⟩
theorem Mk.call {w W W' : World} {k i : Nat} (h : Mk e t size M q ex vs ns w k i W) (hb : Below W.heap.size W W') : Mk e t size M q ex vs ns w k i W' := by
  obtain ⟨h1, h2, h3⟩ := h
  have hk : Keep (fun _ => False) W W' := .of_all hb
  refine ⟨hk.heap h1 (fun h => h), h2.plus hk (fun _ _ h => h.elim), fun j v hv => ?_⟩
  obtain ⟨xs, ho, ha, hb2⟩ := h3 j v hv
  exact ⟨xs, ho.keep hk (fun _ h => h.elim), ha, hb2⟩
theorem Mk.start {w W : World} {k i : Nat} (h : Mk e t size M q ex vs ns w k i W) (hi : i = ns k) : Mk e t size M q ex vs ns w (k + 1) 0 W := by
  obtain ⟨h1, h2, h3⟩ := h
  refine ⟨h1, h2, fun j v hv => ?_⟩
  obtain ⟨xs, ho, ha, hb⟩ := h3 j v hv
  refine ⟨xs, ho, fun hj => ?_, fun _ => by simp [mL]⟩
  rcases Nat.lt_or_ge j k with h | h
  · exact ha h
  · obtain rfl : j = k := by omega
    have := hb rfl
    rw [hi, List.take_of_length_le (by have := ho.1.1; omega)] at this
    exact this
theorem Mk.store {w W : World} {k i g cap : Nat} (hA : AK P e t tt size bytes z M) (h : Mk e t size M q ex vs ns w k i W) (ha : Apart vs) (hv : vs[k]? = some (.slice (some ⟨g, 0, none⟩) (ns k) cap)) (hi : i < ns k) :
    Mk e t size M q ex vs ns w k (i + 1) (setB W g (i * size) (M k i)) := by
  obtain ⟨h1, h2, h3⟩ := h
  obtain ⟨xs, ho, ha1, hb1⟩ := h3 k _ hv
  have hgq : g ≠ q := (ho.2 g rfl).1
  obtain ⟨hs, hk⟩ := setB_own (M k i) xs W (i * size) ho
  refine ⟨hk.heap h1 (fun e => hgq e.symm), h2.plus hk (fun b _ e => ⟨_, List.mem_of_getElem? hv, by subst e; rfl⟩), fun j v hj => ?_⟩
  by_cases hjk : j = k
  · subst hjk
    rw [hv] at hj
    have hj := Option.some.inj hj
    subst hj
    refine ⟨_, hs, fun h => by omega, fun _ => ?_⟩
    have hl : (i + 1) * size ≤ xs.length := by
      rw [ho.1.1]
      exact Nat.mul_le_mul_right _ hi
    have ht := setL_take (M j i) xs (i * size) (by rw [hA.hM, ← Nat.succ_mul]; exact hl)
    rw [hA.hM, ← Nat.succ_mul, hb1 rfl, ← mL_succ] at ht
    exact ht
  · obtain ⟨ys, hoj, haj, hbj⟩ := h3 j v hj
    have hs2 := hoj.self.keep hk (fun b hb hy => ha k j _ _ g (fun e => hjk e.symm) hv hj rfl (by rw [hy, hb]))
    exact ⟨ys, ⟨hs2.1, hoj.2⟩, haj, fun e => absurd e hjk⟩
theorem Mk.gs0 {w W : World} (h : Mk e t size M q ex vs ns w vs.length 0 W) : Gs e t size M q ex vs ns w 0 (.slice none 0 0) W := by
  obtain ⟨h1, h2, h4⟩ := h
  have all : ∀ j v, vs[j]? = some v → OwnS (fun b => ¬ False ∧ b ≠ q ∧ b < w.heap.size) e size v (ns j) (mL M j (ns j)) W := fun j v hv => by
    obtain ⟨xs, ho, ha, _⟩ := h4 j v hv
    rw [ha (List.getElem?_eq_some_iff.1 hv).1] at ho
    exact ⟨ho.1, fun b hb => ⟨fun h => h, (ho.2 b hb).1, (ho.2 b hb).2⟩⟩
  exact ⟨fun _ => False, [], ⟨rfl, h1, h2, fun _ h => h.elim, own_nil _ _ _ _, fun j hj => by omega, fun j v _ hv => all j v hv⟩, fun v hv => all 0 v hv⟩
theorem Done.keep {gl : List Value} {j : Nat} {A B : World} {X : Nat → Prop} (h : Done M vs ns S gl j A) (hk : Keep X A B) (hX : ∀ b, X b → ¬ S b) : Done M vs ns S gl j B := by
  obtain ⟨⟨h1, cap, e, hS, hc⟩, ho⟩ := h
  refine ⟨⟨h1, cap, e, hS, fun c u hu => hk.cell (hc c u hu) (fun hx => hX _ hx hS)⟩, fun v hv c u hu => ?_⟩
  obtain ⟨g, cap, e, hg, hc⟩ := ho v hv c u hu
  exact ⟨g, cap, e, hg, hk.cell hc (fun hx => hX _ hx hg)⟩
theorem Done.more {T : Nat → Prop} {gl gl' : List Value} {j : Nat} {W : World} (h : Done M vs ns S gl j W) (hS : ∀ b, S b → T b) (hg : gl'[j]? = gl[j]?) : Done M vs ns T gl' j W := by
  obtain ⟨⟨h1, cap, e, h2, hc⟩, ho⟩ := h
  refine ⟨⟨h1, cap, hg.trans e, hS _ h2, hc⟩, fun v hv c u hu => ?_⟩
  obtain ⟨g, cap, e, hg, hc⟩ := ho v hv c u hu
  exact ⟨g, cap, e, hS _ hg, hc⟩
theorem Base.step {w : World} {k : Nat} {gv : Value} {gl : List Value} {A B : World} {X : Nat → Prop} (h : Base e t size M q ex vs ns S w k gv gl A) (hk : Keep X A B) (hS : ∀ b, X b → ¬ S b) (hq : ¬ X q) (hX : ∀ b, b < w.heap.size → X b → Xs vs b)
    (hl : ∀ b, X b → gv.ownBlock ≠ some b) (hr : ∀ j v, k < j → vs[j]? = some v → ∀ b, X b → v.ownBlock ≠ some b) : Base e t size M q ex vs ns S w k gv gl B :=
  ⟨h.len, hk.heap h.row hq, h.keep.plus hk hX, fun b hb => ⟨(h.bd b hb).1, Nat.lt_of_lt_of_le (h.bd b hb).2 hk.size⟩, h.list.keepX hk hl, fun j hj => (h.done j hj).keep hk hS, fun j v hj hv => (h.rest j v hj hv).keepX hk (hr j v hj hv)⟩
theorem Gs.enter {w : World} {k : Nat} {gv v : Value} {W : World} (h : Gs e t size M q ex vs ns w k gv W) (ha : Apart vs) (hv : vs[k]? = some v) : In e t size M q ex vs ns w k 0 gv v W := by
  obtain ⟨S, gl, hb, ho⟩ := h
  have ho := ho v hv
  refine ⟨S, gl, hb, ⟨by simpa using ho.1, fun b hb2 => ?_⟩, fun u hu c x hx => ?_⟩
  · obtain ⟨h1, h2, h3⟩ := ho.2 b hb2
    refine ⟨h1, h2, fun _ => ⟨v, List.mem_of_getElem? hv, hb2⟩, fun e => ?_, fun j u hj hu => ha k j v u b (by omega) hv hu hb2⟩
    have := (hb.list.2 b e).2.2
    omega
  · rw [hv] at hu
    have hu := Option.some.inj hu
    subst hu
    rcases ho.shape with ⟨_, h0⟩ | ⟨g, cap, rfl, hy, hlt⟩
    · rw [h0, mL_zero] at hx
      simp at hx
    · exact ⟨g, cap, rfl, hy.2.1, hy.2.2, at_row ho hx⟩
theorem In.step {w : World} {k i : Nat} {gv g' : Value} {W : World} (hA : AK P e t tt size bytes z M) (h : In e t size M q ex vs ns w k i gv g' W) (hn : ns k ≤ 2097152) (hi : i ≤ 64) :
    ∃ g cap w2, (∀ ty, (Builtin.append_ #[t, t] ty #[g', .slice (some ⟨W.heap.size, 0, none⟩) 1 1]).run P (W.alloc (.cells (M k (ns k + i)).toArray e)) = .ok (.slice (some ⟨g, 0, none⟩) (ns k + (i + 1)) cap) w2) ∧
      In e t size M q ex vs ns w k (i + 1) gv (.slice (some ⟨g, 0, none⟩) (ns k + (i + 1)) cap) w2 := by
  obtain ⟨S, gl, hb, ho, hor⟩ := h
  have hzw := hb.keep.size
  have hby : (ns k + i + 1) * bytes ≤ 140737488355328 := Nat.le_trans (Nat.mul_le_mul_left _ hA.hb) (by omega)
  obtain ⟨g, cap, w2, hrun, hown2, hk2, hg2, hz2⟩ := append_x (P := P) W t e hA.ht hA.hinfo hA.hzs hA.hsz ho (M k (ns k + i)) (hA.hM _ _)
    (hA.h1 _ _) (by unfold maxLen; omega) hby
  refine ⟨g, cap, w2, hrun, S, gl, hb.step hk2 (fun b e => (ho.2 b e).1) (fun e => (ho.2 q e).2.1 rfl) (fun b hb2 e => (ho.2 b e).2.2.1 hb2) (fun b e => (ho.2 b e).2.2.2.1) (fun j v hj hv b e => (ho.2 b e).2.2.2.2 j v hj hv), ⟨?_, ?_⟩, ?_⟩
  · have e1 : mL M k (ns k + (i + 1)) = mL M k (ns k + i) ++ M k (ns k + i) := by rw [← Nat.add_assoc, mL_succ]
    rw [e1]
    exact hown2.1
  · intro b hb2
    have e : g = b := by simpa [Value.ownBlock] using hb2
    subst e
    rcases hg2 with h | h
    · exact ho.2 g h
    · refine ⟨fun e => by have := (hb.bd g e).2; omega, fun e => ?_, fun e => by omega, fun e => ?_, fun j v hj hv e => ?_⟩
      · subst e
        have := (Array.getElem?_eq_some_iff.1 hb.row).1
        omega
      · have := (hb.list.1.lt g e).2; omega
      · have := ((hb.rest j v hj hv).1.lt g e).2; omega
  · intro v hv c u hu
    obtain ⟨g0, c0, e0, h1, h2, hc⟩ := hor v hv c u hu
    refine ⟨g0, c0, e0, h1, h2, ?_⟩
    by_cases hg : g'.ownBlock = some g0
    · rcases ho.shape with ⟨_, h0⟩ | ⟨g1, cap1, rfl, _, _⟩
      · have : ns k = 0 := by omega
        rw [this, mL_zero] at hu
        simp at hu
      · have e2 : g1 = g0 := by simpa [Value.ownBlock] using hg
        subst e2
        have hcl : c < (ns k + i) * size := by
          have h3 := (List.getElem?_eq_some_iff.1 hu).1
          rw [mL_len hA.hM] at h3
          exact Nat.lt_of_lt_of_le h3 (Nat.mul_le_mul_right _ (by omega))
        rw [append_keep (P := P) W t e hA.ht hA.hinfo hA.hzs hA.hsz ho (M k (ns k + i)) (hA.hM _ _)
          (hA.h1 _ _) (by unfold maxLen; omega) hby (hrun 0) c hcl]
        exact hc
    · exact hk2.cell hc hg
theorem In.leave {w : World} {k : Nat} {gv g' : Value} {W : World} (hA : AK P e t tt size bytes z M) (h : In e t size M q ex vs ns w k 64 gv g' W) (ha : Apart vs) (hk : k ≤ 2000) :
    ∃ g cap w2, (∀ ty, (Builtin.append_ #[tt, tt] ty #[gv, .slice (some ⟨W.heap.size, 0, none⟩) 1 1]).run P (W.alloc (.cells #[g'] t)) = .ok (.slice (some ⟨g, 0, none⟩) (k + 1) cap) w2) ∧
      Gs e t size M q ex vs ns w (k + 1) (.slice (some ⟨g, 0, none⟩) (k + 1) cap) w2 := by
  obtain ⟨S, gl, hb, ho, hor⟩ := h
  have hzw := hb.keep.size
  have hsz := hA.hsz
  rcases ho.shape with ⟨_, h0⟩ | ⟨h, ch, rfl, hy, hlt⟩
  · omega
  obtain ⟨g, cap, w2, hrun, hown2, hk2, hg2, hz2⟩ := append_x (P := P) W tt t hA.htt hA.hinfo2 rfl (by omega) hb.list [.slice (some ⟨h, 0, none⟩) (ns k + 64) ch] rfl
    (by intro u hu; simp at hu; subst hu; rfl) (by unfold maxLen; omega) (by omega)
  have hX : ∀ b, gv.ownBlock = some b → ¬ S b ∧ b ≠ q ∧ w.heap.size ≤ b := hb.list.2
  have hgB : w.heap.size ≤ g := by
    rcases hg2 with e | e
    · exact (hX g e).2.2
    · omega
  have hgh : g ≠ h := fun e => by
    subst e
    rcases hg2 with e | e
    · exact hy.2.2.2.1 e
    · omega
  have hpos0 : 0 < ns k → ∃ u, (mL M k (ns k))[0]? = some u := fun hp => by
    have hl := mL_len (M := M) hA.hM k (ns k)
    exact ⟨_, List.getElem?_eq_getElem (by rw [hl]; exact Nat.mul_pos hp hsz)⟩
  refine ⟨g, cap, w2, hrun, fun b => S b ∨ b = h ∨ ∃ v cap, vs[k]? = some v ∧ v = .slice (some ⟨b, 0, none⟩) (ns k) cap ∧ 0 < ns k, gl ++ [.slice (some ⟨h, 0, none⟩) (ns k + 64) ch], ⟨?_, ?_, ?_, ?_, ?_, ?_, ?_⟩, ?_⟩
  · simp [hb.len]
  · exact hk2.heap hb.row (fun e => (hX q e).2.1 rfl)
  · exact hb.keep.plus hk2 (fun b hb2 e => by have := (hX b e).2.2; omega)
  · rintro b (e | e | ⟨v, c, hv, rfl, hpos⟩)
    · exact ⟨(hb.bd b e).1, by have := (hb.bd b e).2; omega⟩
    · subst e; exact ⟨hy.2.1, by omega⟩
    · obtain ⟨u0, hu0⟩ := hpos0 hpos
      obtain ⟨g0, c0, e0, h1, h2, _⟩ := hor _ hv 0 u0 hu0
      injection e0 with e1 _ _
      injection e1 with e1
      injection e1 with e1
      subst e1
      exact ⟨h1, by omega⟩
  · refine ⟨hown2.1, fun b hb2 => ?_⟩
    have e : g = b := by simpa [Value.ownBlock] using hb2
    subst e
    refine ⟨?_, ?_, hgB⟩
    · rintro (e | e | ⟨v, c, hv, rfl, hpos⟩)
      · rcases hg2 with e2 | e2
        · exact (hX g e2).1 e
        · have := (hb.bd g e).2; omega
      · exact hgh e
      · obtain ⟨u0, hu0⟩ := hpos0 hpos
        obtain ⟨g0, c0, e0, h1, h2, _⟩ := hor _ hv 0 u0 hu0
        injection e0 with e1 _ _
        injection e1 with e1
        injection e1 with e1
        subst e1
        omega
    · intro e
      subst e
      rcases hg2 with e2 | e2
      · exact (hX g e2).2.1 rfl
      · have := (Array.getElem?_eq_some_iff.1 hb.row).1; omega
  · intro j hj
    rcases Nat.lt_or_ge j k with hjk | hjk
    · exact ((hb.done j hjk).keep hk2 (fun b e => (hX b e).1)).more (fun b e => .inl e) (by rw [List.getElem?_append_left (by rw [hb.len]; exact hjk)])
    · obtain rfl : j = k := by omega
      refine ⟨⟨h, ch, by rw [List.getElem?_append_right (by rw [hb.len]; omega), hb.len]; simp, .inr (.inl rfl), fun c u hu => ?_⟩, fun v hv c u hu => ?_⟩
      · exact hk2.cell (at_row ho hu) (fun e => hy.2.2.2.1 e)
      · obtain ⟨g0, c0, e, h1, h2, hc⟩ := hor v hv c u hu
        have hp : 0 < ns j := by
          rcases Nat.eq_zero_or_pos (ns j) with h0 | h0
          · rw [h0, mL_zero] at hu; simp at hu
          · exact h0
        refine ⟨g0, c0, e, .inr (.inr ⟨v, c0, hv, e, hp⟩), hk2.cell hc (fun e2 => by have := (hX g0 e2).2.2; omega)⟩
  · intro j v hj hv
    have hr := hb.rest j v (by omega) hv
    have := hr.keepX hk2 (fun b e e2 => by have := (hX b e).2.2; have := (hr.2 b e2).2.2; omega)
    refine this.1 |> fun h3 => ⟨h3, fun b hb2 => ?_⟩
    obtain ⟨k1, k2, k3⟩ := hr.2 b hb2
    refine ⟨?_, k2, k3⟩
    rintro (e | e | ⟨u, c, hu, rfl, hpos⟩)
    · exact k1 e
    · subst e; exact hy.2.2.2.2 j v (by omega) hv hb2
    · exact ha k j _ v b (by omega) hu hv rfl hb2
  · intro v hv
    have hr := hb.rest (k + 1) v (by omega) hv
    have := hr.keepX hk2 (fun b e e2 => by have := (hX b e).2.2; have := (hr.2 b e2).2.2; omega)
    refine this.1 |> fun h3 => ⟨h3, fun b hb2 => ?_⟩
    obtain ⟨k1, k2, k3⟩ := hr.2 b hb2
    refine ⟨?_, k2, k3⟩
    rintro (e | e | ⟨u, c, hu, rfl, hpos⟩)
    · exact k1 e
    · subst e; exact hy.2.2.2.2 (k + 1) v (by omega) hv hb2
    · exact ha k (k + 1) _ v b (by omega) hu hv rfl hb2
end Go.Kt.Ly
