/- Parts of the proof of what the last text says. -/
import Derived.Test.YtpddpglccjbpfaaDoorDa
import Derived.Test.YtpddpglccjbpfaaDoorK5
import Derived.Test.YtpddpglccjbpfaaDoorCj
import Derived.Laws.OwnMore
import Derived.Deep.RegionHeldLaw
import Derived.Deep.QuietTactic
import Derived.BigQuiet
import Derived.Test.YtpddpglccjbpfaaDoorQa
import Derived.Test.YtpddpglccjbpfaaDoorCe
/- The kit's look at lists of numbers that were handed out: have they memory of their own? What its loops keep. -/
namespace Go.Proofs.YtpddpglccjbpfaaDoor
open Go Go.RowKit Go.Kt Go.Shelf

theorem mark_k (k i : Nat) (w : World) (hk : k ≤ 1000) (hi : i ≤ 2097152) :
    Calls Tryd.prog 95 #[.int .i64 k, .int .i64 i] w fun e w' => e = .returned (.int .i32 (-1000 * ((k : Int) + 1) - i)) ∧ w = w' := by
  have r1 : IntKind.i32.wrap ((k : Int) + 1) = (k : Int) + 1 := by rw [IntKind.wrap_i32]; omega
  have r2 : IntKind.i32.wrap (i : Int) = i := by rw [IntKind.wrap_i32]; omega
  go_enter Tryd.func95, Tryd.ntmps95
  go_wp2
  go_ret
  exact ⟨rfl, rfl⟩

def mk (k i : Nat) : Int := -1000 * ((k : Int) + 1) - i
/-- The marks of list k. -/
def mkL (k n : Nat) : List Int := (List.range n).map fun i : Nat => mk k i
theorem mkL_succ (k n : Nat) : mkL k (n + 1) = mkL k n ++ [mk k n] := by simp [mkL, List.range_succ]
theorem mkL_len (k n : Nat) : (mkL k n).length = n := by simp [mkL]
theorem mkL_get (k n i : Nat) (h : i < n) : (i32s (mkL k n))[i]? = some (.int .i32 (mk k i)) := by simp [mkL, h]

variable (q : Nat) (vs : List Value) (ns : Nat → Nat)

/-- The lists' own blocks. -/
def Xs (b : Nat) : Prop := ∃ v ∈ vs, v.ownBlock = some b

/-- No two lists lie in one block, none where the list of lists lies. -/
structure Apart : Prop where
  two : ∀ (i j : Nat) (u v : Value) (b : Nat), i ≠ j → vs[i]? = some u → vs[j]? = some v → u.ownBlock = some b → v.ownBlock ≠ some b

/-- While the marks are written: k lists are done, of list k the first i. -/
def Mk (w : World) (k i : Nat) (W : World) : Prop :=
  W.heap[q]? = some (.cells vs.toArray 46 (0, 0)) ∧ Keep (Xs vs) w W ∧ W.heap.size = w.heap.size ∧
  ∀ j v, vs[j]? = some v → ∃ xs, OwnS (fun b => b ≠ q) 21 1 v (ns j) xs W ∧ (j < k → xs = i32s (mkL j (ns j))) ∧ (j = k → xs.take i = i32s (mkL k i))

variable {q vs ns}
theorem Mk.start {w W : World} {k i : Nat} (h : Mk q vs ns w k i W) (hi : i = ns k) : Mk q vs ns w (k + 1) 0 W := by
  obtain ⟨h1, h2, h2', h3⟩ := h
  refine ⟨h1, h2, h2', fun j v hv => ?_⟩
  obtain ⟨xs, ho, ha, hb⟩ := h3 j v hv
  refine ⟨xs, ho, fun hj => ?_, fun _ => by simp [mkL]⟩
  rcases Nat.lt_or_ge j k with h | h
  · exact ha h
  · obtain rfl : j = k := by omega
    have := hb rfl
    rw [hi, List.take_of_length_le (by have := ho.1.1; omega)] at this
    exact this
theorem Mk.store {w W : World} {k i g cap : Nat} (h : Mk q vs ns w k i W) (ha : Apart vs) (hv : vs[k]? = some (.slice (some ⟨g, 0, none⟩) (ns k) cap)) (hi : i < ns k) :
    Mk q vs ns w k (i + 1) (W.drew.setCell ⟨g, i, none⟩ (.int .i32 (mk k i))) := by
  obtain ⟨h1, h2, h2', h3⟩ := h
  obtain ⟨xs, ho, ha1, hb1⟩ := h3 k _ hv
  have hgq : g ≠ q := ho.2 g rfl
  have hk : Keep (fun b => b = g) W (W.drew.setCell ⟨g, i, none⟩ (.int .i32 (mk k i))) := ((Keep.refl (fun b => b = g) W).drew).setCell (p := ⟨g, i, none⟩) rfl _
  refine ⟨hk.heap h1 (fun e => hgq e.symm), h2.trans (hk.weaken fun b _ e => ⟨_, List.mem_of_getElem? hv, by subst e; rfl⟩), by simpa using h2', fun j v hj => ?_⟩
  by_cases hjk : j = k
  · subst hjk
    rw [hv] at hj
    have hj := Option.some.inj hj
    subst hj
    have hd : OwnS (fun b => b ≠ q) 21 1 (.slice (some ⟨g, 0, none⟩) (ns j) cap) (ns j) xs W.drew := ho.keep (X := fun _ => False) ((Keep.refl _ _).drew) (fun _ h => h.elim)
    have hs := (hd.1.stored i (.int .i32 (mk j i))).1
    refine ⟨xs.set i (.int .i32 (mk j i)), ⟨hs, hd.2⟩, fun h => by omega, fun _ => ?_⟩
    have hl : i < xs.length := by have := ho.1.1; omega
    rw [List.take_add_one, List.getElem?_set_self hl, List.take_set_of_le (by omega), hb1 rfl, mkL_succ]
    simp [i32s]
  · obtain ⟨ys, hoj, haj, hbj⟩ := h3 j v hj
    have hs : OwnS (fun b => v.ownBlock = some b) 21 1 v (ns j) ys W := ⟨hoj.1, fun g hg => hg⟩
    have hs2 := hs.keep hk (fun b hb hy => ha.two k j _ _ g (fun e => hjk e.symm) hv hj rfl (by rw [hy, hb]))
    exact ⟨ys, ⟨hs2.1, hoj.2⟩, haj, fun e => absurd e hjk⟩
end Go.Proofs.YtpddpglccjbpfaaDoor
/- The kit's look at lists that were handed out: what its two later loops keep. -/
namespace Go.Proofs.YtpddpglccjbpfaaDoor
open Go Go.RowKit Go.Kt Go.Shelf

theorem tinfoSl : (Tryd.prog.info? 46).map (fun i => (i.zero, i.size, i.bytes)) = some (some (.slice none 0 0), 1, 24) := by kernel_rfl

section
variable (S : Nat → Prop) (q : Nat) (vs : List Value) (ns : Nat → Nat)

/-- List j is done: the longer one and itself bear its marks, in blocks of S. -/
structure Done (gl : List Value) (j : Nat) (W : World) : Prop where
  long : ∃ h cap, gl[j]? = some (.slice (some ⟨h, 0, none⟩) (ns j + 64) cap) ∧ S h ∧ ∀ i, i < ns j + 64 → W.cell? ⟨h, i, none⟩ = some (.int .i32 (mk j i))
  own : ∀ v, vs[j]? = some v → ∀ i, i < ns j → ∃ g cap, v = .slice (some ⟨g, 0, none⟩) (ns j) cap ∧ S g ∧ W.cell? ⟨g, i, none⟩ = some (.int .i32 (mk j i))

/-- What every state of loops three and four has. -/
structure Base (w : World) (k : Nat) (gv : Value) (gl : List Value) (W : World) : Prop where
  len : gl.length = k
  row : W.heap[q]? = some (.cells vs.toArray 46 (0, 0))
  keep : Keep (Xs vs) w W
  bd : ∀ b, S b → b ≠ q ∧ b < W.heap.size
  list : OwnS (fun b => ¬ S b ∧ b ≠ q ∧ w.heap.size ≤ b) 46 1 gv k gl W
  done : ∀ j, j < k → Done S vs ns gl j W
  rest : ∀ j v, k < j → vs[j]? = some v → OwnS (fun b => ¬ S b ∧ b ≠ q ∧ b < w.heap.size) 21 1 v (ns j) (i32s (mkL j (ns j))) W
end

variable {S : Nat → Prop} {q : Nat} {vs : List Value} {ns : Nat → Nat}
theorem Done.keep {gl : List Value} {j : Nat} {A B : World} {X : Nat → Prop} (h : Done S vs ns gl j A) (hk : Keep X A B) (hX : ∀ b, X b → ¬ S b) : Done S vs ns gl j B := by
  obtain ⟨⟨h1, cap, e, hS, hc⟩, ho⟩ := h
  refine ⟨⟨h1, cap, e, hS, fun i hi => hk.cell (hc i hi) (fun hx => hX _ hx hS)⟩, fun v hv i hi => ?_⟩
  obtain ⟨g, cap, e, hg, hc⟩ := ho v hv i hi
  exact ⟨g, cap, e, hg, hk.cell hc (fun hx => hX _ hx hg)⟩
theorem Done.more {T : Nat → Prop} {gl gl' : List Value} {j : Nat} {W : World} (h : Done S vs ns gl j W) (hS : ∀ b, S b → T b) (hg : gl'[j]? = gl[j]?) : Done T vs ns gl' j W := by
  obtain ⟨⟨h1, cap, e, h2, hc⟩, ho⟩ := h
  refine ⟨⟨h1, cap, hg.trans e, hS _ h2, hc⟩, fun v hv i hi => ?_⟩
  obtain ⟨g, cap, e, hg, hc⟩ := ho v hv i hi
  exact ⟨g, cap, e, hS _ hg, hc⟩
/-- A step that writes the blocks X alone keeps the base. -/
theorem Base.step {w : World} {k : Nat} {gv : Value} {gl : List Value} {A B : World} {X : Nat → Prop} (h : Base S q vs ns w k gv gl A) (hk : Keep X A B) (hS : ∀ b, X b → ¬ S b) (hq : ¬ X q) (hX : ∀ b, b < w.heap.size → X b → Xs vs b)
    (hl : ∀ b, X b → gv.ownBlock ≠ some b) (hr : ∀ j v, k < j → vs[j]? = some v → ∀ b, X b → v.ownBlock ≠ some b) : Base S q vs ns w k gv gl B :=
  ⟨h.len, hk.heap h.row hq, h.keep.plus hk hX, fun b hb => ⟨(h.bd b hb).1, Nat.lt_of_lt_of_le (h.bd b hb).2 hk.size⟩, h.list.keepX hk hl, fun j hj => (h.done j hj).keep hk hS, fun j v hj hv => (h.rest j v hj hv).keepX hk (hr j v hj hv)⟩

/-- Loop three: k lists are done. -/
def Gs (q : Nat) (vs : List Value) (ns : Nat → Nat) (w : World) (k : Nat) (gv : Value) (W : World) : Prop :=
  ∃ S gl, Base S q vs ns w k gv gl W ∧ ∀ v, vs[k]? = some v → OwnS (fun b => ¬ S b ∧ b ≠ q ∧ b < w.heap.size) 21 1 v (ns k) (i32s (mkL k (ns k))) W
/-- Loop four: list k is i longer. -/
def In (q : Nat) (vs : List Value) (ns : Nat → Nat) (w : World) (k i : Nat) (gv g' : Value) (W : World) : Prop :=
  ∃ S gl, Base S q vs ns w k gv gl W ∧ OwnS (fun b => ¬ S b ∧ b ≠ q ∧ (b < w.heap.size → Xs vs b) ∧ gv.ownBlock ≠ some b ∧ ∀ j v, k < j → vs[j]? = some v → v.ownBlock ≠ some b) 21 1 g' (ns k + i) (i32s (mkL k (ns k + i))) W ∧
    ∀ v, vs[k]? = some v → ∀ j, j < ns k → ∃ g cap, v = .slice (some ⟨g, 0, none⟩) (ns k) cap ∧ g ≠ q ∧ g < w.heap.size ∧ W.cell? ⟨g, j, none⟩ = some (.int .i32 (mk k j))

theorem Gs.enter {w : World} {k : Nat} {gv v : Value} {W : World} (h : Gs q vs ns w k gv W) (ha : Apart vs) (hv : vs[k]? = some v) : In q vs ns w k 0 gv v W := by
  obtain ⟨S, gl, hb, ho⟩ := h
  have ho := ho v hv
  refine ⟨S, gl, hb, ⟨by simpa using ho.1, fun b hb2 => ?_⟩, fun u hu j hj => ?_⟩
  · obtain ⟨h1, h2, h3⟩ := ho.2 b hb2
    refine ⟨h1, h2, fun _ => ⟨v, List.mem_of_getElem? hv, hb2⟩, fun e => ?_, fun j u hj hu => ha.two k j v u b (by omega) hv hu hb2⟩
    have := (hb.list.2 b e).2.2
    omega
  · rw [hv] at hu
    have hu := Option.some.inj hu
    subst hu
    rcases ho.shape with ⟨_, h0⟩ | ⟨g, cap, rfl, hy, hlt⟩
    · omega
    · exact ⟨g, cap, rfl, hy.2.1, hy.2.2, ho.at0 (mkL_get k (ns k) j hj)⟩

theorem In.step {w : World} {k i : Nat} {gv g' : Value} {W : World} (h : In q vs ns w k i gv g' W) (hn : ns k ≤ 1048576) (hi : i ≤ 64) :
    ∃ g cap w2, (∀ ty, (Builtin.append_ #[46, 46] ty #[g', .slice (some ⟨W.heap.size, 0, none⟩) 1 1]).run Tryd.prog (W.alloc (.cells #[.int .i32 (mk k (ns k + i))] 21)) = .ok (.slice (some ⟨g, 0, none⟩) (ns k + (i + 1)) cap) w2) ∧
      In q vs ns w k (i + 1) gv (.slice (some ⟨g, 0, none⟩) (ns k + (i + 1)) cap) w2 := by
  obtain ⟨S, gl, hb, ho, hor⟩ := h
  have hzw := hb.keep.size
  obtain ⟨g, cap, w2, hrun, hown2, hk2, hg2, hz2⟩ := append_x (P := Tryd.prog) W 46 21 Tryd.underlying46 tinfo21 rfl (by omega) ho [.int .i32 (mk k (ns k + i))] rfl
    (by intro u hu; simp at hu; subst hu; rfl) (by unfold maxLen; omega) (by omega)
  refine ⟨g, cap, w2, hrun, S, gl, hb.step hk2 (fun b e => (ho.2 b e).1) (fun e => (ho.2 q e).2.1 rfl) (fun b hb2 e => (ho.2 b e).2.2.1 hb2) (fun b e => (ho.2 b e).2.2.2.1) (fun j v hj hv b e => (ho.2 b e).2.2.2.2 j v hj hv), ⟨?_, ?_⟩, ?_⟩
  · have e1 : i32s (mkL k (ns k + (i + 1))) = i32s (mkL k (ns k + i)) ++ [.int .i32 (mk k (ns k + i))] := by rw [← Nat.add_assoc, mkL_succ]; simp [i32s]
    rw [e1]
    exact hown2.1
  · intro b hb2
    have e : g = b := by simpa [Value.ownBlock] using hb2
    subst e
    rcases hg2 with h | h
    · exact ho.2 g h
    · refine ⟨fun e => by have := (hb.bd g e).2; omega, fun e => ?_, fun e => by omega, fun e => ?_, fun j v hj hv e => ?_⟩
      · subst e
        have := (Array.getElem?_eq_some_iff.1 hb.row).1
        omega
      · have := (hb.list.1.lt g e).2; omega
      · have := ((hb.rest j v hj hv).1.lt g e).2; omega
  · intro v hv j hj
    obtain ⟨g0, c0, e, h1, h2, hc⟩ := hor v hv j hj
    refine ⟨g0, c0, e, h1, h2, ?_⟩
    by_cases hg : g'.ownBlock = some g0
    · rcases ho.shape with ⟨_, h0⟩ | ⟨g1, cap1, rfl, _, _⟩
      · omega
      · have e : g1 = g0 := by simpa [Value.ownBlock] using hg
        subst e
        rw [append_keep (P := Tryd.prog) W 46 21 Tryd.underlying46 tinfo21 rfl (by omega) ho [.int .i32 (mk k (ns k + i))] rfl
          (by intro u hu; simp at hu; subst hu; rfl) (by unfold maxLen; omega) (by omega) (hrun 0) j (by omega)]
        exact hc
    · exact hk2.cell hc hg

theorem In.leave {w : World} {k : Nat} {gv g' : Value} {W : World} (h : In q vs ns w k 64 gv g' W) (ha : Apart vs) (hk : k ≤ 1000) :
    ∃ g cap w2, (∀ ty, (Builtin.append_ #[113, 113] ty #[gv, .slice (some ⟨W.heap.size, 0, none⟩) 1 1]).run Tryd.prog (W.alloc (.cells #[g'] 46)) = .ok (.slice (some ⟨g, 0, none⟩) (k + 1) cap) w2) ∧
      Gs q vs ns w (k + 1) (.slice (some ⟨g, 0, none⟩) (k + 1) cap) w2 := by
  obtain ⟨S, gl, hb, ho, hor⟩ := h
  have hzw := hb.keep.size
  rcases ho.shape with ⟨_, h0⟩ | ⟨h, ch, rfl, hy, hlt⟩
  · omega
  obtain ⟨g, cap, w2, hrun, hown2, hk2, hg2, hz2⟩ := append_x (P := Tryd.prog) W 113 46 Tryd.underlying113 tinfoSl rfl (by omega) hb.list [.slice (some ⟨h, 0, none⟩) (ns k + 64) ch] rfl
    (by intro u hu; simp at hu; subst hu; rfl) (by unfold maxLen; omega) (by omega)
  have hX : ∀ b, gv.ownBlock = some b → ¬ S b ∧ b ≠ q ∧ w.heap.size ≤ b := hb.list.2
  have hgB : w.heap.size ≤ g := by
    rcases hg2 with e | e
    · exact (hX g e).2.2
    · omega
  have hgh : g ≠ h := fun e => by
    subst e
    rcases hg2 with e | e
    · exact hy.2.2.2.1 e
    · omega
  refine ⟨g, cap, w2, hrun, fun b => S b ∨ b = h ∨ ∃ v cap, vs[k]? = some v ∧ v = .slice (some ⟨b, 0, none⟩) (ns k) cap ∧ 0 < ns k, gl ++ [.slice (some ⟨h, 0, none⟩) (ns k + 64) ch], ⟨?_, ?_, ?_, ?_, ?_, ?_, ?_⟩, ?_⟩
  · simp [hb.len]
  · exact hk2.heap hb.row (fun e => (hX q e).2.1 rfl)
  · exact hb.keep.plus hk2 (fun b hb2 e => by have := (hX b e).2.2; omega)
  · rintro b (e | e | ⟨v, c, hv, rfl, hpos⟩)
    · exact ⟨(hb.bd b e).1, by have := (hb.bd b e).2; omega⟩
    · subst e; exact ⟨hy.2.1, by omega⟩
    · obtain ⟨g0, c0, e0, h1, h2, _⟩ := hor _ hv 0 hpos
      injection e0 with e1 _ _
      injection e1 with e1
      injection e1 with e1
      subst e1
      exact ⟨h1, by omega⟩
  · refine ⟨hown2.1, fun b hb2 => ?_⟩
    have e : g = b := by simpa [Value.ownBlock] using hb2
    subst e
    refine ⟨?_, ?_, hgB⟩
    · rintro (e | e | ⟨v, c, hv, rfl, hpos⟩)
      · rcases hg2 with e2 | e2
        · exact (hX g e2).1 e
        · have := (hb.bd g e).2; omega
      · exact hgh e
      · obtain ⟨g0, c0, e0, h1, h2, _⟩ := hor _ hv 0 hpos
        injection e0 with e1 _ _
        injection e1 with e1
        injection e1 with e1
        subst e1
        omega
    · intro e
      subst e
      rcases hg2 with e2 | e2
      · exact (hX g e2).2.1 rfl
      · have := (Array.getElem?_eq_some_iff.1 hb.row).1; omega
  · intro j hj
    rcases Nat.lt_or_ge j k with hjk | hjk
    · exact ((hb.done j hjk).keep hk2 (fun b e => (hX b e).1)).more (fun b e => .inl e) (by rw [List.getElem?_append_left (by rw [hb.len]; exact hjk)])
    · obtain rfl : j = k := by omega
      refine ⟨⟨h, ch, by rw [List.getElem?_append_right (by rw [hb.len]; omega), hb.len]; simp, .inr (.inl rfl), fun i hi => ?_⟩, fun v hv i hi => ?_⟩
      · exact hk2.cell (ho.at0 (mkL_get j (ns j + 64) i hi)) (fun e => hy.2.2.2.1 e)
      · obtain ⟨g0, c0, e, h1, h2, hc⟩ := hor v hv i hi
        refine ⟨g0, c0, e, .inr (.inr ⟨v, c0, hv, e, by omega⟩), hk2.cell hc (fun e2 => by have := (hX g0 e2).2.2; omega)⟩
  · intro j v hj hv
    have hr := hb.rest j v (by omega) hv
    have := hr.keepX hk2 (fun b e e2 => by have := (hX b e).2.2; have := (hr.2 b e2).2.2; omega)
    refine this.1 |> fun h3 => ⟨h3, fun b hb2 => ?_⟩
    obtain ⟨k1, k2, k3⟩ := hr.2 b hb2
    refine ⟨?_, k2, k3⟩
    rintro (e | e | ⟨u, c, hu, rfl, hpos⟩)
    · exact k1 e
    · subst e; exact hy.2.2.2.2 j v (by omega) hv hb2
    · exact ha.two k j _ v b (by omega) hu hv rfl hb2
  · intro v hv
    have hr := hb.rest (k + 1) v (by omega) hv
    have := hr.keepX hk2 (fun b e e2 => by have := (hX b e).2.2; have := (hr.2 b e2).2.2; omega)
    refine this.1 |> fun h3 => ⟨h3, fun b hb2 => ?_⟩
    obtain ⟨k1, k2, k3⟩ := hr.2 b hb2
    refine ⟨?_, k2, k3⟩
    rintro (e | e | ⟨u, c, hu, rfl, hpos⟩)
    · exact k1 e
    · subst e; exact hy.2.2.2.2 (k + 1) v (by omega) hv hb2
    · exact ha.two k (k + 1) _ v b (by omega) hu hv rfl hb2
end Go.Proofs.YtpddpglccjbpfaaDoor
/- The kit's look at lists that were handed out: the walk. -/
namespace Go.Proofs.YtpddpglccjbpfaaDoor
open Go Go.RowKit Go.Kt Go.Shelf

theorem mark_m (k i : Nat) (w : World) (hk : k ≤ 1000) (hi : i ≤ 2097152) :
    Calls Tryd.prog 95 #[.int .i64 k, .int .i64 i] w fun e w' => e = .returned (.int .i32 (mk k i)) ∧ w = w' := mark_k k i w hk hi
theorem cell_far {W : World} {b o : Nat} {p : Addr} {u v : Value} (h : W.cell? p = some v) (hp : p.block ≠ b) : (W.setCell ⟨b, o, none⟩ u).cell? p = some v :=
  ((Keep.refl (fun c => c = b) W).setCell (p := ⟨b, o, none⟩) rfl u).cell h hp

/-- What the look is handed. -/
structure Handed (q : Nat) (vs : List Value) (ns : Nat → Nat) (w : World) : Prop where
  row : w.heap[q]? = some (.cells vs.toArray 46 (0, 0))
  few : vs.length ≤ 1000
  own : ∀ k v, vs[k]? = some v → ns k ≤ 1048576 ∧ ∃ xs, OwnS (fun b => b ≠ q) 21 1 v (ns k) xs w
  apart : Apart vs
theorem Handed.mk0 {q : Nat} {vs : List Value} {ns : Nat → Nat} {w : World} (h : Handed q vs ns w) : Mk q vs ns w 0 0 w :=
  ⟨h.row, Keep.refl _ _, rfl, fun j v hv => by
    obtain ⟨_, xs, ho⟩ := h.own j v hv
    exact ⟨xs, ho, fun h => by omega, fun _ => by simp [mkL]⟩⟩
theorem Mk.gs0 {q : Nat} {vs : List Value} {ns : Nat → Nat} {w W : World} (h : Mk q vs ns w vs.length 0 W) : Gs q vs ns w 0 (.slice none 0 0) W := by
  obtain ⟨h1, h2, h3, h4⟩ := h
  have all : ∀ j v, vs[j]? = some v → OwnS (fun b => ¬ False ∧ b ≠ q ∧ b < w.heap.size) 21 1 v (ns j) (i32s (mkL j (ns j))) W := fun j v hv => by
    obtain ⟨xs, ho, ha, _⟩ := h4 j v hv
    rw [ha (List.getElem?_eq_some_iff.1 hv).1] at ho
    exact ⟨ho.1, fun b hb => ⟨fun h => h, ho.2 b hb, by have := (ho.1.lt b hb).2; omega⟩⟩
  exact ⟨fun _ => False, [], ⟨rfl, h1, h2, fun _ h => h.elim, own_nil _ _ _ _, fun j hj => by omega, fun j v _ hv => all j v hv⟩, fun v hv => all 0 v hv⟩

set_option maxRecDepth 100000 in
set_option maxHeartbeats 4000000 in
theorem apartRunes_any (q mcap : Nat) (vs : List Value) (ns : Nat → Nat) (w : World) (hH : Handed q vs ns w) :
    Calls Tryd.prog 70 #[.slice (some ⟨q, 0, none⟩) vs.length mcap] w fun e w' => e = .returned (.bool true) ∧ Keep (Xs vs) w w' := by
  have HH := Lib.hid hH
  have hm := hH.few
  obtain ⟨m, hml⟩ : ∃ m, vs.length = m := ⟨_, rfl⟩
  rw [hml] at hm ⊢
  have HM := Lib.hid hml
  clear hH hml
  go_enter Tryd.func70, Tryd.ntmps70
  go_wp2
  go_loopw [3] (fun kv wr => ∃ k : Nat, k ≤ m ∧ kv = .int .i64 k ∧ Mk q vs ns w k 0 wr) (fun kv _ => m - (RowKit.intOf kv).toNat)
  case atStart => exact ⟨0, by omega, rfl, HH.out.mk0⟩
  case round =>
    obtain ⟨k, hk, rfl, hmk⟩ := hrel
    by_cases hlt : k < m
    · obtain ⟨v, hv⟩ : ∃ v, vs[k]? = some v := ⟨vs[k]'(by rw [HM.out]; exact hlt), List.getElem?_eq_getElem _⟩
      obtain ⟨hn, xs0, ho0⟩ := HH.out.own k v hv
      have HV := Lib.hid hv
      obtain ⟨n, hnn⟩ : ∃ n, ns k = n := ⟨_, rfl⟩
      have hsh : ∃ ao cap, v = .slice ao n cap := by
        rcases ho0.shape with ⟨h, h0⟩ | ⟨g, cap, h, _⟩
        · exact ⟨none, 0, by rw [h, ← hnn, h0]⟩
        · exact ⟨_, cap, by rw [h, hnn]⟩
      obtain ⟨ao, vc, rfl⟩ := hsh
      rw [hnn] at hn
      have HN := Lib.hid hnn
      have HK := Lib.hid hmk
      clear hv hnn ho0 hmk
      go_wp2
      go_loopw [4] (fun iv wr => ∃ i : Nat, i ≤ n ∧ iv = .int .i64 i ∧ Mk q vs ns w k i wr) (fun iv _ => n - (RowKit.intOf iv).toNat)
      case atStart => exact ⟨0, by omega, rfl, HK.out⟩
      case round =>
        clear HK
        obtain ⟨i, hi, rfl, hmk⟩ := hrel
        have hqc : wr.cell? ⟨q, k, none⟩ = some (.slice ao n vc) := by
          rw [Lib.cell_of_heap hmk.1]
          simpa using HV.out
        by_cases hil : i < n
        · obtain ⟨xs, ho, _⟩ := hmk.2.2.2 k _ HV.out
          rw [HN.out] at ho
          obtain ⟨g, rfl⟩ : ∃ g, ao = some ⟨g, 0, none⟩ := by
            rcases ho.shape with ⟨h, h0⟩ | ⟨g, cap, h, _⟩
            · omega
            · injection h with e1 _ _
              exact ⟨g, e1⟩
          have hgq : g ≠ q := ho.2 g rfl
          obtain ⟨u, hu⟩ : ∃ u, xs[i]? = some u := ⟨xs[i]'(by have := ho.1.1; omega), List.getElem?_eq_getElem _⟩
          have hst : wr.drew.cell? ⟨g, i, none⟩ = some u := ho.at0 hu
          have hfz : wr.drew.frozen? ⟨g, i, none⟩ = false := ho.frozen i
          have HS := Lib.hid (hmk.store HH.out.apart (by rw [HN.out]; exact HV.out) (by rw [HN.out]; exact hil))
          have CM := Lib.hid (fun W => mark_m k i W (by omega) (by omega))
          clear hmk ho hu
          go_wp2
          go_region_held_law (fun w' => w'.cell? ⟨q, k, none⟩ = some (.slice (some ⟨g, 0, none⟩) n vc)) (first | assumption | exact cell_far (by assumption) (fun e => hgq e.symm))
            ((go_at_call 95; refine (CM.out _).mono ?_; rintro e w' ⟨rfl, rfl⟩))
          all_goals
            go_wp2
            go_roundw
            case rel => exact ⟨i + 1, by omega, by go_num, HS.out⟩
            case measure => simp [RowKit.intOf]; omega
        · obtain rfl : i = n := by omega
          have HS := Lib.hid (hmk.start HN.out.symm)
          clear hmk
          go_wp2
          go_roundw
          case rel => exact ⟨k + 1, by omega, by go_num, HS.out⟩
          case measure => simp [RowKit.intOf]; omega
    · obtain rfl : k = m := by omega
      rw [← HM.out] at hmk
      have HG := Lib.hid hmk.gs0
      clear hmk
      go_wp2
      go_loopw [5, 6] (fun gv kv wr => ∃ (k' : Nat) (ao : Option Addr) (cp : Nat), k' ≤ k ∧ kv = .int .i64 k' ∧ gv = .slice ao k' cp ∧ Gs q vs ns w k' (.slice ao k' cp) wr) (fun _ kv _ => k - (RowKit.intOf kv).toNat)
      case atStart => exact ⟨0, none, 0, by omega, rfl, rfl, HG.out⟩
      case round =>
        clear HG
        obtain ⟨j, ag, cg, hj, rfl, rfl, hgs⟩ := hrel
        by_cases hjl : j < k
        · obtain ⟨v, hv⟩ : ∃ v, vs[j]? = some v := ⟨vs[j]'(by rw [HM.out]; exact hjl), List.getElem?_eq_getElem _⟩
          obtain ⟨hn, xs0, ho0⟩ := HH.out.own j v hv
          have HV := Lib.hid hv
          obtain ⟨n, hnn⟩ : ∃ n, ns j = n := ⟨_, rfl⟩
          obtain ⟨ao, vc, rfl⟩ : ∃ ao cap, v = .slice ao n cap := by
            rcases ho0.shape with ⟨h, h0⟩ | ⟨g, cap, h, _⟩
            · exact ⟨none, 0, by rw [h, ← hnn, h0]⟩
            · exact ⟨_, cap, by rw [h, hnn]⟩
          rw [hnn] at hn
          have HN := Lib.hid hnn
          have HI := Lib.hid (hgs.enter HH.out.apart hv)
          have hqc : wr.cell? ⟨q, j, none⟩ = some (.slice ao n vc) := by
            obtain ⟨S, gl, hb, _⟩ := hgs
            rw [Lib.cell_of_heap hb.row]
            simpa using HV.out
          clear hv hnn ho0 hgs
          go_wp2
          clear hqc
          go_loopw [7, 8] (fun g' iv wr => ∃ (i r : Nat) (a2 : Option Addr) (c2 : Nat), i ≤ 64 ∧ iv = .int .i64 i ∧ r = n + i ∧ g' = .slice a2 r c2 ∧ In q vs ns w j i (.slice ag j cg) (.slice a2 r c2) wr) (fun _ iv _ => 64 - (RowKit.intOf iv).toNat)
          case atStart => exact ⟨0, n, ao, vc, by omega, rfl, rfl, rfl, HI.out⟩
          case round =>
            clear HI
            obtain ⟨i, r, a2, c2, hi, rfl, hr, rfl, hin⟩ := hrel
            by_cases hil : i < 64
            · have hqc : wr.cell? ⟨q, j, none⟩ = some (.slice ao n vc) := by
                obtain ⟨S, gl, hb, _⟩ := hin
                rw [Lib.cell_of_heap hb.row]
                simpa using HV.out
              obtain ⟨g, cap, w2, hrun, hin2⟩ := hin.step (by rw [HN.out]; exact hn) hi
              rw [HN.out] at hrun hin2
              have CM := Lib.hid (fun W => (by have := mark_m j (n + i) W (by omega) (by omega); rw [Int.natCast_add] at this; exact this : Calls Tryd.prog 95 #[.int .i64 j, .int .i64 ((n : Int) + i)] W fun e w' => e = .returned (.int .i32 (mk j (n + i))) ∧ W = w'))
              have HRun := Lib.hid hrun
              have HI2 := Lib.hid hin2
              have HR := Lib.hid hr
              clear hrun hin2 hin hr
              go_wp2_with (first | (go_at_call 95; refine (CM.out _).mono ?_; rintro e w' ⟨rfl, rfl⟩) | (at_builtin; refine wpList_append_eq rfl rfl rfl rfl HRun.out ?_))
              go_roundw
              case rel => exact ⟨i + 1, n + (i + 1), _, cap, by omega, by go_num, rfl, rfl, HI2.out⟩
              case measure => simp [RowKit.intOf]; omega
            · obtain rfl : i = 64 := by omega
              obtain ⟨g, cap, w2, hrun, hgs2⟩ := hin.leave HH.out.apart (by omega)
              have HRun := Lib.hid hrun
              have HG2 := Lib.hid hgs2
              clear hrun hgs2 hin hr
              go_wp2_with (at_builtin; refine wpList_append_eq rfl rfl rfl rfl HRun.out ?_)
              go_roundw
              case rel => exact ⟨j + 1, _, cap, by omega, by go_num, rfl, HG2.out⟩
              case measure => simp [RowKit.intOf]; omega
        · obtain rfl : j = k := by omega
          obtain ⟨S, gl, hb, _⟩ := hgs
          have HB := Lib.hid hb
          clear hb
          obtain ⟨W3, rfl⟩ : ∃ W3 : World, W3 = wr := ⟨_, rfl⟩
          go_wp2
          go_loopw [9] (fun kv wi => ∃ k' : Nat, k' ≤ j ∧ kv = .int .i64 k' ∧ Drawn W3 wi) (fun kv _ => j - (RowKit.intOf kv).toNat)
          case atStart => exact ⟨0, by omega, rfl, Drawn.refl _⟩
          case round =>
            obtain ⟨p, hp, rfl, hd⟩ := hrel
            by_cases hpl : p < j
            · obtain ⟨⟨h, ch, hgl, hS, hcs⟩, hown⟩ := HB.out.done p hpl
              obtain ⟨v, hv⟩ : ∃ v, vs[p]? = some v := ⟨vs[p]'(by rw [HM.out]; exact hpl), List.getElem?_eq_getElem _⟩
              obtain ⟨hn, xs0, ho0⟩ := HH.out.own p v hv
              have hqc0 : W3.cell? ⟨q, p, none⟩ = some v := by
                rw [Lib.cell_of_heap HB.out.row]
                simpa using hv
              have HO := Lib.hid (hown v hv)
              clear hv hown
              obtain ⟨n, hnn⟩ : ∃ n, ns p = n := ⟨_, rfl⟩
              obtain ⟨ao, vc, rfl⟩ : ∃ ao cap, v = .slice ao n cap := by
                rcases ho0.shape with ⟨h, h0⟩ | ⟨g, cap, h, _⟩
                · exact ⟨none, 0, by rw [h, ← hnn, h0]⟩
                · exact ⟨_, cap, by rw [h, hnn]⟩
              rw [hnn] at hn hgl hcs HO
              obtain ⟨h0, rfl⟩ : ∃ h0, ag = some ⟨h0, 0, none⟩ := by
                rcases HB.out.list.shape with ⟨_, e⟩ | ⟨g, cap, e, _⟩
                · omega
                · injection e with e1 _ _
                  exact ⟨g, e1⟩
              have hlc0 : W3.cell? ⟨h0, p, none⟩ = some (.slice (some ⟨h, 0, none⟩) (n + 64) ch) := HB.out.list.at0 hgl
              have HC := Lib.hid hcs
              have HF := Lib.hid (And.intro hqc0 hlc0)
              have HN := Lib.hid hnn
              have HD := Lib.hid hd
              clear hnn ho0 hgl hcs hlc0 hqc0 hS hd
              go_wp2
              go_loopw [10] (fun iv wj => ∃ i : Nat, i ≤ n + 64 ∧ iv = .int .i64 i ∧ Drawn W3 wj) (fun iv _ => n + 64 - (RowKit.intOf iv).toNat)
              case atStart => exact ⟨0, by omega, rfl, HD.out⟩
              case round =>
                clear HD
                obtain ⟨i, hi, rfl, hd⟩ := hrel
                have hlc := (hd.cell ⟨h0, p, none⟩).trans HF.out.2
                by_cases hil : i < n + 64
                · have hic := (hd.cell ⟨h, i, none⟩).trans (HC.out i hil)
                  have hqc := (hd.cell ⟨q, p, none⟩).trans HF.out.1
                  have CM := Lib.hid (fun W => mark_m p i W (by omega) (by omega))
                  have e1 : (mk p i != mk p i) = false := by simp
                  have b0 : (0 : Int) ≤ (i : Int) := by omega
                  have b1 : (i : Int) < ((n + 64 : Nat) : Int) := by omega
                  have c0 : (0 : Int) ≤ (p : Int) := by omega
                  have c1 : (p : Int) < (j : Int) := by omega
                  have HD := Lib.hid hd
                  clear hd
                  by_cases hin : i < n
                  · obtain ⟨g, cap, e, _, hgc⟩ := HO.out i hin
                    injection e with e2 e3 e4
                    subst e2; subst e4
                    have hgc := (HD.out.cell ⟨g, i, none⟩).trans hgc
                    have hd1 : decide ((i : Int) < (n : Int)) = true := by simpa using hin
                    have b2 : (i : Int) < (n : Int) := by omega
                    clear e3
                    generalize mk p i = x at *
                    go_wp2_with (go_at_call 95; refine (CM.out _).mono ?_; rintro e w' ⟨rfl, rfl⟩)
                    go_roundw
                    case rel => exact ⟨i + 1, by omega, by go_num, HD.out⟩
                    case measure => simp [RowKit.intOf]; omega
                  · have hd1 : decide ((i : Int) < (n : Int)) = false := by simpa using hin
                    generalize mk p i = x at *
                    go_wp2_with (go_at_call 95; refine (CM.out _).mono ?_; rintro e w' ⟨rfl, rfl⟩)
                    go_roundw
                    case rel => exact ⟨i + 1, by omega, by go_num, HD.out⟩
                    case measure => simp [RowKit.intOf]; omega
                · have HD := Lib.hid hd
                  clear hd
                  go_wp2
                  go_roundw
                  case rel => exact ⟨p + 1, by omega, by go_num, HD.out⟩
                  case measure => simp [RowKit.intOf]; omega
            · go_wp2
              go_ret
              exact ⟨rfl, HB.out.keep.plus (Keep.of_all (X := fun _ => False) hd.below) (fun _ _ h => h.elim)⟩
theorem own_bd {Y : Nat → Prop} {e : TypeId} {size n : Nat} {v : Value} {xs : List Value} {A : World} (h : OwnS Y e size v n xs A) : OwnS (fun b => Y b ∧ b < A.heap.size) e size v n xs A := ⟨h.1, fun b hb => ⟨h.2 b hb, (h.1.lt b hb).2⟩⟩
theorem own_later {Y : Nat → Prop} {e : TypeId} {size n : Nat} {v : Value} {xs : List Value} {A B : World} (h : OwnS Y e size v n xs A) (hb : Below A.heap.size A B) : OwnS Y e size v n xs B := h.keep (X := fun _ => False) (.of_all hb) (fun _ h => h.elim)

end Go.Proofs.YtpddpglccjbpfaaDoor
/- The walk of PointsOf. -/
namespace Go.Proofs.YtpddpglccjbpfaaDoor
open Go Go.RowKit Go.Kt Go.Shelf

/-- Four lists, each made behind the one ahead. -/
theorem handed4 {W : World} {a b c d : Value} {na nb nc nd : Nat} {xa xb xc xd : List Value} {l0 l1 l2 l3 l4 : Nat} (h4 : l4 ≤ W.heap.size) (_h01 : l0 ≤ l1) (h12 : l1 ≤ l2) (h23 : l2 ≤ l3) (h34 : l3 ≤ l4)
    (ha : OwnS (fun x => l0 ≤ x ∧ x < l1) 21 1 a na xa W) (hb : OwnS (fun x => l1 ≤ x ∧ x < l2) 21 1 b nb xb W) (hc : OwnS (fun x => l2 ≤ x ∧ x < l3) 21 1 c nc xc W) (hd : OwnS (fun x => l3 ≤ x ∧ x < l4) 21 1 d nd xd W)
    (ma : na ≤ 1048576) (mb : nb ≤ 1048576) (mc : nc ≤ 1048576) (md : nd ≤ 1048576) :
    Handed W.heap.size [a, b, c, d] (fun k => if k = 0 then na else if k = 1 then nb else if k = 2 then nc else nd) (W.alloc (.cells #[a, b, c, d] 46 (0, 0))) := by
  have lat : ∀ {v : Value} {n : Nat} {xs : List Value} {lo hi : Nat}, hi ≤ l4 → OwnS (fun x => lo ≤ x ∧ x < hi) 21 1 v n xs W → OwnS (fun x => x ≠ W.heap.size) 21 1 v n xs (W.alloc (.cells #[a, b, c, d] 46 (0, 0))) := fun hh h =>
    (own_later h ((Below.refl _ W).alloc (Nat.le_refl _) _)).weaken (fun x hx => by have := hx.2; omega)
  refine ⟨World.alloc_heap_new W _, by simp, ?_, ⟨?_⟩⟩
  · intro k v hv
    rcases (by have := (List.getElem?_eq_some_iff.1 hv).1; simp at this; omega : k = 0 ∨ k = 1 ∨ k = 2 ∨ k = 3) with rfl | rfl | rfl | rfl
    · simp at hv; subst hv; exact ⟨by simpa using ma, _, lat (by omega) ha⟩
    · simp at hv; subst hv; exact ⟨by simpa using mb, _, lat (by omega) hb⟩
    · simp at hv; subst hv; exact ⟨by simpa using mc, _, lat (by omega) hc⟩
    · simp at hv; subst hv; exact ⟨by simpa using md, _, lat (by omega) hd⟩
  · intro i j u v x hij hu hv hx hy
    have key : ∀ k v, [a, b, c, d][k]? = some v → v.ownBlock = some x → (k = 0 ∧ l0 ≤ x ∧ x < l1) ∨ (k = 1 ∧ l1 ≤ x ∧ x < l2) ∨ (k = 2 ∧ l2 ≤ x ∧ x < l3) ∨ (k = 3 ∧ l3 ≤ x ∧ x < l4) := fun k v hv hx => by
      rcases (by have := (List.getElem?_eq_some_iff.1 hv).1; simp at this; omega : k = 0 ∨ k = 1 ∨ k = 2 ∨ k = 3) with rfl | rfl | rfl | rfl
      · simp at hv; subst hv; have := ha.2 x hx; omega
      · simp at hv; subst hv; have := hb.2 x hx; omega
      · simp at hv; subst hv; have := hc.2 x hx; omega
      · simp at hv; subst hv; have := hd.2 x hx; omega
    have := key i u hu hx
    have := key j v hv hy
    omega

set_option maxRecDepth 100000 in
set_option maxHeartbeats 2000000 in
theorem pof_walk (s t : ByteArray) (w : World) (hE : Env w) (hs : s.size ≤ 1048576) (ht : t.size ≤ 1048576) :
    Calls Tryd.prog 33 #[.string s, .string t] w fun e w' => e = .returned (.bool true) ∧ Below w.heap.size w w' := by
  have us := units_len s
  have ut := units_len t
  have HE := Lib.hid hE
  have R1 := Lib.hid (refOf_any s w (by omega) (by omega))
  have P1 := Lib.hid (fun W (h : Env W) => ptsOf_any s W h.tabs (by have := h.lt; omega) (by omega) (by omega))
  have P2 := Lib.hid (fun W (h : Env W) => ptsOf_any t W h.tabs (by have := h.lt; omega) (by omega) (by omega))
  have R2 := Lib.hid (fun W => refOf_any t W (by omega) (by omega))
  have ls : (pts s).length ≤ 1048576 := by rw [pts_len]; omega
  have lt : (pts t).length ≤ 1048576 := by rw [pts_len]; omega
  clear hE us ut
  generalize pts s = A at *
  generalize pts t = B at *
  go_enter Tryd.func33, Tryd.ntmps33
  go_wp2_with fail
  refine R1.out.mono ?_
  rintro e w1 ⟨a0, c0, rfl, o0, b1⟩
  have z1 := b1.size
  have O0 := Lib.hid o0
  have HE1 := Lib.hid (HE.out.below HE.out.lt b1)
  have B1 := Lib.hid b1
  clear o0 b1
  go_wp2_with fail
  refine (P1.out _ HE1.out).mono ?_
  rintro e w2 ⟨a1, c1, rfl, o1, b2⟩
  have z2 := b2.size
  have O1 := Lib.hid (own_bd o1)
  have HE2 := Lib.hid (HE1.out.below HE1.out.lt b2)
  have B2 := Lib.hid b2
  clear o1 b2
  go_wp2_with fail
  refine (P1.out _ HE2.out).mono ?_
  rintro e w3 ⟨a2, c2, rfl, o2, b3⟩
  have z3 := b3.size
  have O2 := Lib.hid (own_bd o2)
  have HE3 := Lib.hid (HE2.out.below HE2.out.lt b3)
  have B3 := Lib.hid b3
  clear o2 b3
  go_wp2_with fail
  refine (P2.out _ HE3.out).mono ?_
  rintro e w4 ⟨a3, c3, rfl, o3, b4⟩
  have z4 := b4.size
  have O3 := Lib.hid (own_bd o3)
  have HE4 := Lib.hid (HE3.out.below HE3.out.lt b4)
  have B4 := Lib.hid b4
  clear o3 b4
  go_wp2_with fail
  refine (P1.out _ HE4.out).mono ?_
  rintro e w5 ⟨a4, c4, rfl, o4, b5⟩
  have z5 := b5.size
  have O4 := Lib.hid (own_bd o4)
  have HE5 := Lib.hid (HE4.out.below HE4.out.lt b5)
  have q4 : Below w4.heap.size w4 w5 := b5
  have q3 : Below w3.heap.size w3 w5 := B4.out.trans (b5.mono z4)
  have q2 : Below w2.heap.size w2 w5 := B3.out.trans (q3.mono z3)
  have q1 : Below w1.heap.size w1 w5 := B2.out.trans (q2.mono z2)
  have q0 : Below w.heap.size w w5 := B1.out.trans (q1.mono z1)
  have S0 := Lib.hid (sl_of_own (own_later O0.out q1) rfl)
  have S1 := Lib.hid (sl_of_own (own_later O1.out q2) rfl)
  have S2 := Lib.hid (sl_of_own (own_later O2.out q3) rfl)
  have S3 := Lib.hid (sl_of_own (own_later O3.out q4) rfl)
  have S4 := Lib.hid (sl_of_own O4.out rfl)
  have Q := Lib.hid (And.intro q0 (And.intro q1 (And.intro q2 (And.intro q3 q4))))
  clear q0 q1 q2 q3 q4 b5
  have C1 := Lib.hid (sameRunes_any _ _ A A w5 S1.out S0.out (by omega) (by omega))
  go_wp2_with fail
  refine C1.out.mono ?_
  rintro e w6 ⟨rfl, d6⟩
  rw [show decide (A = A) = true from by simp]
  have D6 := Lib.hid d6.below
  clear d6
  have C2 := Lib.hid (sameRunes_any _ _ A A w6 (S2.out.below D6.out) (S0.out.below D6.out) (by omega) (by omega))
  go_wp2_with fail
  refine C2.out.mono ?_
  rintro e w7 ⟨rfl, d7⟩
  rw [show decide (A = A) = true from by simp]
  have D7 := Lib.hid (D6.out.trans (d7.below.mono D6.out.size))
  clear d7
  go_wp2_with fail
  refine (R2.out _).mono ?_
  rintro e w8 ⟨a5, c5, rfl, o5, b8⟩
  have D8 := Lib.hid (D7.out.trans (b8.mono D7.out.size))
  have S5 := Lib.hid (sl_of_own o5 rfl)
  clear o5 b8
  have C3 := Lib.hid (sameRunes_any _ _ B B w8 (S3.out.below D8.out) S5.out (by omega) (by omega))
  go_wp2_with fail
  refine C3.out.mono ?_
  rintro e w9 ⟨rfl, d9⟩
  rw [show decide (B = B) = true from by simp]
  have D9 := Lib.hid (D8.out.trans (d9.below.mono D8.out.size))
  clear d9
  have C4 := Lib.hid (sameRunes_any _ _ A A w9 (S4.out.below D9.out) (S0.out.below D9.out) (by omega) (by omega))
  go_wp2_with fail
  refine C4.out.mono ?_
  rintro e w10 ⟨rfl, d10⟩
  rw [show decide (A = A) = true from by simp]
  have D10 := Lib.hid (D9.out.trans (d10.below.mono D9.out.size))
  clear d10
  have fin : ∀ (W : World), Below w5.heap.size w5 W → Handed W.heap.size [.slice a1 A.length c1, .slice a2 A.length c2, .slice a3 B.length c3, .slice a4 A.length c4] (fun k => if k = 0 then A.length else if k = 1 then A.length else if k = 2 then B.length else A.length)
      (W.alloc (.cells #[.slice a1 A.length c1, .slice a2 A.length c2, .slice a3 B.length c3, .slice a4 A.length c4] 46 (0, 0))) := fun W h =>
    handed4 (l0 := w1.heap.size) (l1 := w2.heap.size) (l2 := w3.heap.size) (l3 := w4.heap.size) (l4 := w5.heap.size) h.size z2 z3 z4 z5
      (own_later (own_later O1.out Q.out.2.2.1) h) (own_later (own_later O2.out Q.out.2.2.2.1) h) (own_later (own_later O3.out Q.out.2.2.2.2) h) (own_later O4.out h) ls ls lt ls
  obtain ⟨W, hW⟩ : ∃ W, w10.alloc (.cells #[.slice a1 A.length c1, .slice a2 A.length c2, .slice a3 B.length c3, .slice a4 A.length c4] 46 (0, 0)) = W := ⟨_, rfl⟩
  have hH := fin w10 D10.out
  rw [hW] at hH
  have hbW : Below w10.heap.size w10 W := by rw [← hW]; exact (Below.refl _ w10).alloc (Nat.le_refl _) _
  have C5 := Lib.hid (apartRunes_any w10.heap.size 4 _ _ W hH)
  have hX : ∀ b, Xs [.slice a1 A.length c1, .slice a2 A.length c2, .slice a3 B.length c3, .slice a4 A.length c4] b → w1.heap.size ≤ b := by
    rintro b ⟨v, hv, hb⟩
    simp only [List.mem_cons, List.not_mem_nil, or_false] at hv
    rcases hv with rfl | rfl | rfl | rfl
    · exact (O1.out.2 b hb).1
    · have := (O2.out.2 b hb).1; omega
    · have := (O3.out.2 b hb).1; omega
    · have := (O4.out.2 b hb).1; omega
  have HX := Lib.hid hX
  have hb0W : Below w.heap.size w W := (Q.out.1.trans (D10.out.mono Q.out.1.size)).trans (hbW.mono (by have := Q.out.1.size; have := D10.out.size; omega))
  have HB0W := Lib.hid hb0W
  have HW := Lib.hid hW
  clear fin hH hbW hX hb0W hW
  go_wp2_with fail
  rw [HW.out]
  refine C5.out.mono ?_
  rintro e w11 ⟨rfl, hk11⟩
  have hb11 : Below w.heap.size w w11 := HB0W.out.trans (hk11.below HB0W.out.size (fun b hb => by have := HX.out b hb; omega))
  have C6 := Lib.hid (works2_any w11 (HE.out.below HE.out.lt hb11))
  have HB11 := Lib.hid hb11
  clear hb11 hk11
  go_wp2_with fail
  refine C6.out.mono ?_
  rintro e w12 ⟨rfl, hb12⟩
  go_wp2
  go_ret
  exact ⟨rfl, HB11.out.trans (hb12.mono HB11.out.size)⟩
theorem pof_c (s t : ByteArray) (w : World) (hE : Env w) (_ : s.size ≤ 140737488351232) (_ : t.size ≤ 140737488351232) (hB : s.size + 1 + (t.size + 1 + 0) ≤ 1048576) :
    Calls Tryd.prog 33 #[.string s, .string t] w fun e w' => e = .returned (.bool true) ∧ Below w.heap.size w w' := pof_walk s t w hE (by omega) (by omega)
end Go.Proofs.YtpddpglccjbpfaaDoor
/- The walks of PointsNext, PointsText, PointsBack. -/
namespace Go.Proofs.YtpddpglccjbpfaaDoor
open Go Go.RowKit Go.Kt Go.Shelf

theorem pnext_walk (s : ByteArray) (a : Int) (w : World) (hE : Env w) (hs : s.size ≤ 140737488351232) :
    Calls Tryd.prog 34 #[.string s, .int .i64 a] w fun e w' => e = .returned (.bool true) ∧ Below w.heap.size w w' := by
  have C1 := Lib.hid (refNext_any s a w (by omega))
  have C2 := Lib.hid (ptsNext_any s a w hE.tabs (by omega))
  have HE := Lib.hid hE
  clear hE
  generalize ptP s a = R at *
  obtain ⟨r, v⟩ := R
  have e1 : (r == r) = true := by simp
  have e2 : (v == v) = true := by simp
  go_enter Tryd.func34, Tryd.ntmps34
  go_wp2_with fail
  refine C1.out.mono ?_
  rintro e w' ⟨rfl, rfl⟩
  go_wp2_with fail
  refine C2.out.mono ?_
  rintro e w1 ⟨rfl, hb1⟩
  go_wp2_with fail
  refine (works2_any _ (HE.out.below HE.out.lt hb1)).mono ?_
  rintro e w2 ⟨rfl, hb2⟩
  go_wp2
  go_ret
  exact ⟨rfl, hb1.trans (hb2.mono hb1.size)⟩

theorem byte_eq {a b : ByteArray} (h : a = b) : (a.toList == b.toList) = true := by rw [h]; simp

set_option maxRecDepth 100000 in
set_option maxHeartbeats 1000000 in
theorem ptext_walk (v : Value) (l : List Int) (w : World) (hE : Env w) (h : Slg .i32 w v l) (hw : ∀ x ∈ l, -2147483648 ≤ x ∧ x ≤ 2147483647) (hl : l.length ≤ 35184372087808) :
    Calls Tryd.prog 35 #[v] w fun e w' => e = .returned (.bool true) ∧ Below w.heap.size w w' := by
  obtain ⟨K, hK⟩ := firstBad_ex l
  have C1 := Lib.hid (refTextP_any v l K w h hw hl hK)
  have HE := Lib.hid hE
  have H := Lib.hid h
  have HW := Lib.hid hw
  have HK := Lib.hid hK
  have hKl := hK.le
  obtain ⟨av, cv, rfl, _⟩ := h
  clear hE hw hK
  go_enter Tryd.func35, Tryd.ntmps35
  go_wp2_with fail
  refine C1.out.mono ?_
  have main : ∀ (q : Int) (sq : ByteArray) (w1 : World), Below w.heap.size w w1 → True := fun _ _ _ _ => trivial
  rintro e w1 ⟨he, hb1⟩
  have hz1 := hb1.size
  have C2 := Lib.hid (lentRunes_any _ l w1 (H.out.below hb1) hl)
  rcases he with ⟨hKe, rfl⟩ | ⟨hKl2, rfl⟩
  all_goals
    go_wp2_with fail
    refine C2.out.mono ?_
    rintro e w2 ⟨g, cap, rfl, hc1, hc2, hown2, hb2⟩
    have hb02 := hb1.trans (hb2.mono hz1)
    have hz2 := hb02.size
    have hS0 : Sl .i32 w2 (.slice (some ⟨g, 0, none⟩) (l.length + 16) cap) (l ++ marks 16) := sl_of_own hown2 (by simp [marks_len])
    have hS1 : Sl .i32 w2 (.slice (some ⟨g, 0, none⟩) l.length cap) l := by
      obtain ⟨ao, cp, e, h1⟩ := hS0
      injection e with e1 e2 e3
      subst e1; subst e3
      refine ⟨_, _, rfl, ?_⟩
      rcases h1 with h | ⟨g', off, e, h⟩
      · have := congrArg List.length h; simp [marks_len] at this
      · refine .inr ⟨g', off, e, fun i x hx => h i x ?_⟩
        rw [List.getElem?_append_left (List.getElem?_eq_some_iff.1 hx).1]
        exact hx
    have C3 := Lib.hid (ptsText_any _ l K w2 hS1.toG HW.out hl HK.out)
    have HS0 := Lib.hid hS0
    have HB02 := Lib.hid hb02
    clear hS0 hS1 hown2 hb2 hb02
    go_wp2_with fail
    refine C3.out.mono ?_
    rintro e w3 ⟨he3, hb3⟩
    have hb03 := HB02.out.trans (hb3.mono hz2)
    have C4 := Lib.hid (keptRunes_any g cap _ l w3 (HS0.out.below hb3) (H.out.below hb03) hl hc1 hc2)
    have HE3 := Lib.hid (HE.out.below HE.out.lt hb03)
    have HB03 := Lib.hid hb03
    clear hb3 hb03
    rcases he3 with ⟨hKe3, rfl⟩ | ⟨hKl3, rfl⟩
    all_goals first | (exfalso; omega) | skip
    all_goals
      go_wp2_with fail
      refine C4.out.mono ?_
      rintro e w4 ⟨rfl, rfl⟩
  · have e1 : (ByteArray.toList ⟨(textP l).toArray⟩ == ByteArray.toList ⟨(textP l).toArray⟩) = true := by simp
    go_wp2_with fail
    refine (works2_any _ HE3.out).mono ?_
    rintro e w5 ⟨rfl, hb5⟩
    go_wp2
    go_ret
    exact ⟨rfl, HB03.out.trans (hb5.mono HB03.out.size)⟩
  · have C5 := Lib.hid (at_fault 8 0 K w3 (by omega) (by omega) HE3.out.err)
    go_wp2_with fail
    refine C5.out.mono ?_
    rintro e w5 ⟨rfl, hb5⟩
    have hb05 := HB03.out.trans (hb5.mono HB03.out.size)
    have C6 := Lib.hid (works2_any w5 (HE.out.below HE.out.lt hb05))
    have HB05 := Lib.hid hb05
    clear hb05 hb5
    go_wp2_with fail
    refine C6.out.mono ?_
    rintro e w6 ⟨rfl, hb6⟩
    go_wp2
    go_ret
    exact ⟨rfl, HB05.out.trans (hb6.mono HB05.out.size)⟩
theorem pnext_c (s : ByteArray) (a : Int) (w : World) (hE : Env w) (hs : s.size ≤ 140737488351232) (_ : -9223372036854775808 ≤ a ∧ a ≤ 9223372036854775807) :
    Calls Tryd.prog 34 #[.string s, .int .i64 a] w fun e w' => e = .returned (.bool true) ∧ Below w.heap.size w w' := pnext_walk s a w hE hs
end Go.Proofs.YtpddpglccjbpfaaDoor
/- Go's own conversion of a text to runes, as it lies in memory. -/
namespace Go.Proofs.YtpddpglccjbpfaaDoor
open Go Go.RowKit Go.Kt Go.Shelf

/-- What '[]rune(s)' leaves behind. -/
def rcap (s : ByteArray) (w : World) : Nat := grownCap w (units s).length 0 21
def rworld (s : ByteArray) (w : World) : World := w.drew.alloc (.cells ((runeCells s).toArray ++ Array.replicate (grownCap w (units s).length 0 21 - (units s).length) (.int .i32 0)) 21)
theorem runes_conv (s : ByteArray) (h46 : (units s).length ≤ 70368744177664) (w : World) :
    (convert 9 46 (.string s)).run Tryd.prog w = .ok (.slice (some ⟨w.heap.size, 0, none⟩) (units s).length (rcap s w)) (rworld s w) := by
  have hr := run_runes_of_string (P := Tryd.prog) w 9 46 21 s Tryd.underlying9 Tryd.underlying46 Tryd.underlying21 (by rw [runesFrom_units]; simp [runeCells_len]; omega)
  rw [runesFrom_units] at hr
  have hl : (runeCells s).toArray.size = (units s).length := by simp [runeCells_len]
  rw [hl] at hr
  exact hr
theorem rworld_below (s : ByteArray) (w : World) : Below w.heap.size w (rworld s w) := (Below.refl _ w).drew.alloc (Nat.le_refl _) _
theorem rworld_sl (s : ByteArray) (h46 : (units s).length ≤ 70368744177664) (w : World) : Sl .i32 (rworld s w) (.slice (some ⟨w.heap.size, 0, none⟩) (units s).length (rcap s w)) (numsI s) := by
  have hge := grownCap_ge w (units s).length 0 21
  have := ownsRow_laid w.drew (runeCells s) (List.replicate (grownCap w (units s).length 0 21 - (units s).length) (.int .i32 0)) 21 (units s).length (runeCells_len s) (by
      have := grownCap_le_maxLen w (units s).length 0 21 (by unfold maxLen; omega)
      simp; omega)
  rw [runeCells_I] at this
  refine sl_of_own (Y := fun b => b = w.heap.size) (e := 21) (n := (units s).length) ?_ (numsI_len s)
  unfold rworld rcap
  rw [runeCells_I]
  simpa [Nat.add_sub_cancel' hge] using this
theorem runes_back (s : ByteArray) (h46 : (units s).length ≤ 70368744177664) (w : World) :
    (convert 46 9 (.slice (some ⟨w.heap.size, 0, none⟩) (units s).length (rcap s w))).run Tryd.prog (rworld s w) = .ok (.string (runesBytes (numsI s))) (rworld s w) :=
  text_run _ _ _ (rworld_sl s h46 w)

end Go.Proofs.YtpddpglccjbpfaaDoor
/- The walk of PointsRow. -/
namespace Go.Proofs.YtpddpglccjbpfaaDoor
open Go Go.RowKit Go.Kt Go.Shelf

theorem char_point {x : Int} (h : charB x = true) : pointB x = true := by unfold pointB; rw [h]; rfl
theorem runesB_eq (l : List Int) (h : ∀ x ∈ l, charB x = true) : (⟨(textP l).toArray⟩ : ByteArray) = runesBytes l := by
  rw [textP_chars l h]

set_option maxRecDepth 100000 in
set_option maxHeartbeats 1000000 in
theorem prow_walk (v : Value) (l : List Int) (w : World) (hE : Env w) (h : Slg .i32 w v l) (hw : ∀ x ∈ l, -2147483648 ≤ x ∧ x ≤ 2147483647) (hl : l.length ≤ 35184372087808) :
    Calls Tryd.prog 37 #[v] w fun e w' => e = .returned (.bool true) ∧ Below w.heap.size w w' := by
  have HE := Lib.hid hE
  have CW := Lib.hid (works2_any w hE)
  have H := Lib.hid h
  have HW := Lib.hid hw
  obtain ⟨av, cv, rfl, h0⟩ := h
  clear hE hw
  go_enter Tryd.func37, Tryd.ntmps37
  go_wp2
  go_loop [3] (fun i => ∃ k : Nat, k ≤ l.length ∧ i = .int .i64 k ∧ ∀ j x, j < k → l[j]? = some x → charB x = true) (fun i => l.length - (RowKit.intOf i).toNat)
  case atStart => exact ⟨0, by omega, rfl, fun j x hj => by omega⟩
  case round =>
    obtain ⟨k, hk, rfl, hgood⟩ := hrel
    have HG := Lib.hid hgood
    clear hgood
    by_cases hlt : k < l.length
    · obtain ⟨a, rfl, ha⟩ : ∃ a : Addr, av = some a ∧ ∀ i x, l[i]? = some x → w.cell? (a.add i) = some (.int .i32 x) := by
        rcases h0 with h | h
        · subst h; simp at hlt
        · exact h
      obtain ⟨x, hx⟩ : ∃ x, l[k]? = some x := ⟨l[k], List.getElem?_eq_getElem hlt⟩
      have p1 := ha k x hx
      have hxr := HW.out x (List.mem_of_getElem? hx)
      have HX := Lib.hid hx
      clear ha hx h0
      have next : charB x = true → ∀ j y, j < k + 1 → l[j]? = some y → charB y = true := fun hc j y hj hy => by
        rcases Nat.lt_or_ge j k with h | h
        · exact HG.out j y h hy
        · obtain rfl : j = k := by omega
          rw [HX.out] at hy
          rw [← Option.some.inj hy]; exact hc
      have NX := Lib.hid next
      clear next
      by_cases x1 : x < 0
      · go_wp2_with fail
        refine CW.out.mono ?_
        rintro e w1 ⟨rfl, hb1⟩
        go_wp2
        go_ret
        exact ⟨rfl, hb1⟩
      by_cases x2 : 1114111 < x
      · go_wp2_with fail
        refine CW.out.mono ?_
        rintro e w1 ⟨rfl, hb1⟩
        go_wp2
        go_ret
        exact ⟨rfl, hb1⟩
      by_cases x3 : x < 55296
      · have hc := Lib.hid ((charB_iff x).2 (by omega))
        go_wp2
        go_round
        case rel => exact ⟨k + 1, by omega, by go_num, NX.out hc.out⟩
        case measure => simp [RowKit.intOf]; omega
      by_cases x4 : x ≤ 57343
      · go_wp2_with fail
        refine CW.out.mono ?_
        rintro e w1 ⟨rfl, hb1⟩
        go_wp2
        go_ret
        exact ⟨rfl, hb1⟩
      · have hc := Lib.hid ((charB_iff x).2 (by omega))
        go_wp2
        go_round
        case rel => exact ⟨k + 1, by omega, by go_num, NX.out hc.out⟩
        case measure => simp [RowKit.intOf]; omega
    · have hke : k = l.length := by omega
      have hall : ∀ x ∈ l, charB x = true := fun x hx => by
        obtain ⟨j, hj⟩ := List.mem_iff_getElem?.1 hx
        exact HG.out j x (by have := (List.getElem?_eq_some_iff.1 hj).1; omega) hj
      have C1 := Lib.hid (ptsText_any _ l l.length w H.out HW.out hl (firstBad_all fun x hx => char_point (hall x hx)))
      have HT := Lib.hid (runesB_eq l hall)
      have hun : (units (runesBytes l)).length = l.length := by rw [← pts_len, row_pts l hall]
      have hsz := runesBytes_size_le l
      have HP := Lib.hid (row_pts l hall)
      have HN := Lib.hid (row_ok l hall).2
      have HU := Lib.hid hun
      clear hke hall h0 hun
      go_wp2_with fail
      refine C1.out.mono ?_
      rintro e w1 ⟨(⟨_, rfl⟩ | ⟨h, _⟩), hb1⟩
      · rw [HT.out]
        have hz1 := hb1.size
        have H1 := H.out.below hb1
        have cV := textg_run _ l w1 H1
        have C2 := Lib.hid (ptsOf_any (runesBytes l) w1 (HE.out.below HE.out.lt hb1).tabs (by have := HE.out.lt; omega) (by omega) (by rw [HU.out]; exact hl))
        generalize hTx : runesBytes l = T at *
        have e1 : (T.toList != T.toList) = false := by simp
        have HB1 := Lib.hid (And.intro hb1 H1)
        clear hb1 H1
        go_wp2_with fail
        refine C2.out.mono ?_
        rintro e w2 ⟨ao, cap, rfl, hown2, hb2⟩
        clear cV
        rw [HP.out] at hown2 ⊢
        have hS2 : Sl .i32 w2 (.slice ao l.length cap) l := sl_of_own hown2 rfl
        have hb02 := HB1.out.1.trans (hb2.mono hz1)
        have hz2 := hb02.size
        have C3 := Lib.hid (sameRunes_g _ _ l l w2 hS2 (H.out.below hb02) (by omega) (by omega))
        have HB2 := Lib.hid hb02
        clear hS2 hown2 hb2 hb02
        go_wp2_with fail
        refine C3.out.mono ?_
        rintro e w3 ⟨rfl, hd3⟩
        have ed : decide (l = l) = true := by simp
        rw [ed]
        clear ed
        have hb03 := HB2.out.trans (hd3.below.mono hz2)
        have hz3 := hb03.size
        have hcv := runes_conv T (by rw [HU.out]; omega) w3
        have hr4 := (rworld_below T w3)
        have hS4 := rworld_sl T (by rw [HU.out]; omega) w3
        rw [HN.out] at hS4
        rw [HU.out] at hS4 hcv
        have hb04 := hb03.trans (hr4.mono hz3)
        have hz4 := hb04.size
        have C4 := Lib.hid (sameRunes_g _ _ l l (rworld T w3) hS4 (H.out.below hb04) (by omega) (by omega))
        have HB4 := Lib.hid hb04
        clear hS4 hr4 hd3 hb03 hb04
        generalize rworld T w3 = w4 at *
        generalize rcap T w3 = cp4 at *
        go_wp2_with fail
        refine C4.out.mono ?_
        rintro e w5 ⟨rfl, hd5⟩
        have ed : decide (l = l) = true := by simp
        rw [ed]
        clear ed hcv
        have hb05 := HB4.out.trans (hd5.below.mono hz4)
        have C5 := Lib.hid (works2_any w5 (HE.out.below HE.out.lt hb05))
        have HB5 := Lib.hid hb05
        clear hb05 hd5
        go_wp2_with fail
        refine C5.out.mono ?_
        rintro e w6 ⟨rfl, hb6⟩
        go_wp2
        go_ret
        exact ⟨rfl, HB5.out.trans (hb6.mono HB5.out.size)⟩
      · omega
end Go.Proofs.YtpddpglccjbpfaaDoor
