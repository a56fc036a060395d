/- The kit's look at lists that were handed out: what its two later loops keep. -/
import Derived.Test.YtbnnhbmnddaafaaGreatDoorAp
namespace Go.Proofs.YtbnnhbmnddaafaaGreatDoor
open Go Go.RowKit Go.Kt Go.Shelf

section
variable (S : Nat → Prop) (q : Nat) (vs : List Value) (ns : Nat → Nat)

structure Done (gl : List Value) (j : Nat) (W : World) : Prop where
  long : ∃ h cap, gl[j]? = some (.slice (some ⟨h, 0, none⟩) (ns j + 64) cap) ∧ S h ∧ ∀ i, i < ns j + 64 → W.cell? ⟨h, i, none⟩ = some (.int .i32 (mk j i))
  own : ∀ v, vs[j]? = some v → ∀ i, i < ns j → ∃ g cap, v = .slice (some ⟨g, 0, none⟩) (ns j) cap ∧ S g ∧ W.cell? ⟨g, i, none⟩ = some (.int .i32 (mk j i))

structure Base (w : World) (k : Nat) (gv : Value) (gl : List Value) (W : World) : Prop where
  len : gl.length = k
  row : W.heap[q]? = some (.cells vs.toArray 90 (0, 0))
  keep : Keep (Xs vs) w W
  bd : ∀ b, S b → b ≠ q ∧ b < W.heap.size
  list : OwnS (fun b => ¬ S b ∧ b ≠ q ∧ w.heap.size ≤ b) 90 1 gv k gl W
  done : ∀ j, j < k → Done S vs ns gl j W
  rest : ∀ j v, k < j → vs[j]? = some v → OwnS (fun b => ¬ S b ∧ b ≠ q ∧ b < w.heap.size) 21 1 v (ns j) (i32s (mkL j (ns j))) W
end

variable {S : Nat → Prop} {q : Nat} {vs : List Value} {ns : Nat → Nat}
theorem Done.keep {gl : List Value} {j : Nat} {A B : World} {X : Nat → Prop} (h : Done S vs ns gl j A) (hk : Keep X A B) (hX : ∀ b, X b → ¬ S b) : Done S vs ns gl j B := by
  obtain ⟨⟨h1, cap, e, hS, hc⟩, ho⟩ := h
  refine ⟨⟨h1, cap, e, hS, fun i hi => hk.cell (hc i hi) (fun hx => hX _ hx hS)⟩, fun v hv i hi => ?_⟩
  obtain ⟨g, cap, e, hg, hc⟩ := ho v hv i hi
  exact ⟨g, cap, e, hg, hk.cell hc (fun hx => hX _ hx hg)⟩
theorem Done.more {T : Nat → Prop} {gl gl' : List Value} {j : Nat} {W : World} (h : Done S vs ns gl j W) (hS : ∀ b, S b → T b) (hg : gl'[j]? = gl[j]?) : Done T vs ns gl' j W := by
  obtain ⟨⟨h1, cap, e, h2, hc⟩, ho⟩ := h
  refine ⟨⟨h1, cap, hg.trans e, hS _ h2, hc⟩, fun v hv i hi => ?_⟩
  obtain ⟨g, cap, e, hg, hc⟩ := ho v hv i hi
  exact ⟨g, cap, e, hS _ hg, hc⟩
theorem Base.step {w : World} {k : Nat} {gv : Value} {gl : List Value} {A B : World} {X : Nat → Prop} (h : Base S q vs ns w k gv gl A) (hk : Keep X A B) (hS : ∀ b, X b → ¬ S b) (hq : ¬ X q) (hX : ∀ b, b < w.heap.size → X b → Xs vs b)
    (hl : ∀ b, X b → gv.ownBlock ≠ some b) (hr : ∀ j v, k < j → vs[j]? = some v → ∀ b, X b → v.ownBlock ≠ some b) : Base S q vs ns w k gv gl B :=
  ⟨h.len, hk.heap h.row hq, h.keep.plus hk hX, fun b hb => ⟨(h.bd b hb).1, Nat.lt_of_lt_of_le (h.bd b hb).2 hk.size⟩, h.list.keepX hk hl, fun j hj => (h.done j hj).keep hk hS, fun j v hj hv => (h.rest j v hj hv).keepX hk (hr j v hj hv)⟩

def Gs (q : Nat) (vs : List Value) (ns : Nat → Nat) (w : World) (k : Nat) (gv : Value) (W : World) : Prop :=
  ∃ S gl, Base S q vs ns w k gv gl W ∧ ∀ v, vs[k]? = some v → OwnS (fun b => ¬ S b ∧ b ≠ q ∧ b < w.heap.size) 21 1 v (ns k) (i32s (mkL k (ns k))) W
def In (q : Nat) (vs : List Value) (ns : Nat → Nat) (w : World) (k i : Nat) (gv g' : Value) (W : World) : Prop :=
  ∃ S gl, Base S q vs ns w k gv gl W ∧ OwnS (fun b => ¬ S b ∧ b ≠ q ∧ (b < w.heap.size → Xs vs b) ∧ gv.ownBlock ≠ some b ∧ ∀ j v, k < j → vs[j]? = some v → v.ownBlock ≠ some b) 21 1 g' (ns k + i) (i32s (mkL k (ns k + i))) W ∧
    ∀ v, vs[k]? = some v → ∀ j, j < ns k → ∃ g cap, v = .slice (some ⟨g, 0, none⟩) (ns k) cap ∧ g ≠ q ∧ g < w.heap.size ∧ W.cell? ⟨g, j, none⟩ = some (.int .i32 (mk k j))

theorem Gs.enter {w : World} {k : Nat} {gv v : Value} {W : World} (h : Gs q vs ns w k gv W) (ha : Apart vs) (hv : vs[k]? = some v) : In q vs ns w k 0 gv v W := by
  obtain ⟨S, gl, hb, ho⟩ := h
  have ho := ho v hv
  refine ⟨S, gl, hb, ⟨by simpa using ho.1, fun b hb2 => ?_⟩, fun u hu j hj => ?_⟩
  · obtain ⟨h1, h2, h3⟩ := ho.2 b hb2
    refine ⟨h1, h2, fun _ => ⟨v, List.mem_of_getElem? hv, hb2⟩, fun e => ?_, fun j u hj hu => ha.two k j v u b (by omega) hv hu hb2⟩
    have := (hb.list.2 b e).2.2
    omega
  · rw [hv] at hu
    have hu := Option.some.inj hu
    subst hu
    rcases ho.shape with ⟨_, h0⟩ | ⟨g, cap, rfl, hy, hlt⟩
    · omega
    · exact ⟨g, cap, rfl, hy.2.1, hy.2.2, ho.at0 (mkL_get k (ns k) j hj)⟩

theorem In.step {w : World} {k i : Nat} {gv g' : Value} {W : World} (h : In q vs ns w k i gv g' W) (hn : ns k ≤ 1048576) (hi : i ≤ 64) :
    ∃ g cap w2, (∀ ty, (Builtin.append_ #[90, 90] ty #[g', .slice (some ⟨W.heap.size, 0, none⟩) 1 1]).run Tryz.prog (W.alloc (.cells #[.int .i32 (mk k (ns k + i))] 21)) = .ok (.slice (some ⟨g, 0, none⟩) (ns k + (i + 1)) cap) w2) ∧
      In q vs ns w k (i + 1) gv (.slice (some ⟨g, 0, none⟩) (ns k + (i + 1)) cap) w2 := by
  obtain ⟨S, gl, hb, ho, hor⟩ := h
  have hzw := hb.keep.size
  obtain ⟨g, cap, w2, hrun, hown2, hk2, hg2, hz2⟩ := append_x (P := Tryz.prog) W 90 21 Tryz.underlying90 tinfo21 rfl (by omega) ho [.int .i32 (mk k (ns k + i))] rfl
    (by intro u hu; simp at hu; subst hu; rfl) (by unfold maxLen; omega) (by omega)
  refine ⟨g, cap, w2, hrun, S, gl, hb.step hk2 (fun b e => (ho.2 b e).1) (fun e => (ho.2 q e).2.1 rfl) (fun b hb2 e => (ho.2 b e).2.2.1 hb2) (fun b e => (ho.2 b e).2.2.2.1) (fun j v hj hv b e => (ho.2 b e).2.2.2.2 j v hj hv), ⟨?_, ?_⟩, ?_⟩
  · have e1 : i32s (mkL k (ns k + (i + 1))) = i32s (mkL k (ns k + i)) ++ [.int .i32 (mk k (ns k + i))] := by rw [← Nat.add_assoc, mkL_succ]; simp [i32s]
    rw [e1]
    exact hown2.1
  · intro b hb2
    have e : g = b := by simpa [Value.ownBlock] using hb2
    subst e
    rcases hg2 with h | h
    · exact ho.2 g h
    · refine ⟨fun e => by have := (hb.bd g e).2; omega, fun e => ?_, fun e => by omega, fun e => ?_, fun j v hj hv e => ?_⟩
      · subst e
        have := (Array.getElem?_eq_some_iff.1 hb.row).1
        omega
      · have := (hb.list.1.lt g e).2; omega
      · have := ((hb.rest j v hj hv).1.lt g e).2; omega
  · intro v hv j hj
    obtain ⟨g0, c0, e, h1, h2, hc⟩ := hor v hv j hj
    refine ⟨g0, c0, e, h1, h2, ?_⟩
    by_cases hg : g'.ownBlock = some g0
    · rcases ho.shape with ⟨_, h0⟩ | ⟨g1, cap1, rfl, _, _⟩
      · omega
      · have e : g1 = g0 := by simpa [Value.ownBlock] using hg
        subst e
        rw [append_keep (P := Tryz.prog) W 90 21 Tryz.underlying90 tinfo21 rfl (by omega) ho [.int .i32 (mk k (ns k + i))] rfl
          (by intro u hu; simp at hu; subst hu; rfl) (by unfold maxLen; omega) (by omega) (hrun 0) j (by omega)]
        exact hc
    · exact hk2.cell hc hg

end Go.Proofs.YtbnnhbmnddaafaaGreatDoor
