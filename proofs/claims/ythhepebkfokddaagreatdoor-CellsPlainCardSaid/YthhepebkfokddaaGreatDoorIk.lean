/- CellsPlain's helpers: all that an iterator tells, gathered; two lists held side by side. -/
import Derived.Test.YthhepebkfokddaaGreatDoorIj
namespace Go.Proofs.YthhepebkfokddaaGreatDoor
open Go Go.RowKit Go.Kt
attribute [local go_sem] Oper.semAt_some

theorem tinfo2 : (Tryz.prog.info? 40).map (fun i => (i.zero, i.size, i.bytes)) = some (some (.agg #[.int .i64 0, .int .i64 0]), 2, 16) := by kernel_rfl
def encL2 (l : List (Nat × Nat)) : List Value := l.flatMap fun x => [.int .i64 x.1, .int .i64 x.2]
theorem encL2_snoc (l : List (Nat × Nat)) (x : Nat × Nat) : encL2 (l ++ [x]) = encL2 l ++ [.int .i64 x.1, .int .i64 x.2] := by simp [encL2]
theorem encL2_at : ∀ (l : List (Nat × Nat)) (i : Nat) (x : Nat × Nat), l[i]? = some x → (encL2 l)[i * 2]? = some (.int .i64 x.1) ∧ (encL2 l)[i * 2 + 1]? = some (.int .i64 x.2)
  | [], _, _, h => by simp at h
  | y :: t, 0, x, h => by
    simp at h
    subst h
    exact ⟨rfl, rfl⟩
  | y :: t, i + 1, x, h => by
    have ih := encL2_at t i x (by simpa using h)
    have e : encL2 (y :: t) = .int .i64 y.1 :: .int .i64 y.2 :: encL2 t := rfl
    rw [e, show (i + 1) * 2 = i * 2 + 1 + 1 by omega]
    exact ⟨by rw [List.getElem?_cons_succ, List.getElem?_cons_succ]; exact ih.1, by rw [List.getElem?_cons_succ, List.getElem?_cons_succ]; exact ih.2⟩
/-- A list of pairs in memory. -/
def PrR (W : World) (v : Value) (L : List (Nat × Nat)) : Prop := ∃ ao cp, v = .slice ao L.length cp ∧ (L = [] ∨ ∃ g, ao = some ⟨g, 0, none⟩ ∧ ∀ (i : Nat) (x : Nat × Nat), L[i]? = some x → W.cell? ⟨g, i * 2, none⟩ = some (.int .i64 x.1) ∧ W.cell? ⟨g, i * 2 + 1, none⟩ = some (.int .i64 x.2))
theorem PrR.below {W W' : World} {v : Value} {L : List (Nat × Nat)} (h : PrR W v L) (hb : Below W.heap.size W W') : PrR W' v L := by
  obtain ⟨ao, cp, rfl, h⟩ := h
  refine ⟨ao, cp, rfl, ?_⟩
  rcases h with h | ⟨g, e, h⟩
  · exact .inl h
  · exact .inr ⟨g, e, fun i x hx => ⟨(hb.cell (lt_of_cell (h i x hx).1)).trans (h i x hx).1, (hb.cell (lt_of_cell (h i x hx).2)).trans (h i x hx).2⟩⟩
theorem prr_own {Y : Nat → Prop} {v : Value} {n : Nat} {L : List (Nat × Nat)} {W : World} (h : OwnS Y 40 2 v n (encL2 L) W) (hn : n = L.length) : PrR W v L := by
  subst hn
  rcases h.1.2 with ⟨h1, h2⟩ | ⟨g, cap, cur, rfl, _, hg, _⟩
  · have : L = [] := List.length_eq_zero_iff.1 h2
    subst this
    exact ⟨none, 0, h1, .inl rfl⟩
  · refine ⟨_, _, rfl, .inr ⟨g, rfl, fun i x hx => ?_⟩⟩
    have c := h.1.cells (g := g) rfl
    have e := encL2_at L i x hx
    have c1 := c _ _ e.1
    have c2 := c _ _ e.2
    rw [Addr.add_lit, Nat.zero_add] at c1 c2
    exact ⟨c1, c2⟩

set_option maxRecDepth 100000 in
set_option maxHeartbeats 2000000 in
theorem cgathered (L : List (Nat × Nat)) (gf : Nat) (lb : Array Value) (Nd : Nat → Prop) (w w0 : World) (eg : ∀ args w, (callFunc gf args).run Tryz.prog w = .ok (.enter gf args) w)
    (hit : Iter2 Tryz.prog gf lb encCP L Nd w0) (hNd : ∀ b, Nd b → b < w.heap.size) (hNdw : ∀ b, Nd b → w.heap[b]? = w0.heap[b]?) (hw0 : w0.heap.size ≤ w.heap.size) (hL : L.length ≤ 1112192) :
    Calls Tryz.prog 10 #[.func (.func gf) #[] lb] w fun e w' => ∃ v, e = .returned v ∧ PrR w' v L ∧ Below w.heap.size w w' := by
  obtain ⟨n, hn⟩ : ∃ n, w.heap.size = n := ⟨_, rfl⟩
  have hfn : ∀ k, Fence.wide.fn k := fun _ => trivial
  have hdep : Fence.wide.depth = none := rfl
  refine (callsIn_wide (n := 0)).1 ?_
  refine callsIn_of_wp_marks Tryz.func10 rfl trivial ?_ rfl
  simp only [Tryz.ntmps10, List.size_toArray, List.length_cons, List.length_nil, Nat.reduceAdd, Nat.reduceSub, Array.replicate_succ, Array.replicate_zero, List.push_toArray, List.append_toArray, List.nil_append, List.cons_append]
  obtain ⟨w1, hw1⟩ : ∃ w1, w.alloc (.cells #[.slice none 0 0] 35) = w1 := ⟨_, rfl⟩
  have hz1 : w1.heap.size = n + 1 := by rw [← hw1]; simp [hn]
  have b0 : w1.heap[n]? = some (.cells #[.slice none 0 0] 35 (0, 0)) := by rw [← hw1]; exact alloc_at hn.symm
  have hb1 : Below n w w1 := by rw [← hw1]; exact (Below.refl _ _).alloc (by omega) _
  have ho1 : OwnS (fun _ => False) 40 2 (.slice none 0 0) 0 (encL2 []) w1 := ⟨⟨rfl, .inl ⟨rfl, rfl⟩⟩, fun g h => by cases h⟩
  have HW1 := Lib.hid hw1
  have HIT := Lib.hid hit
  have HN := Lib.hid hn
  clear hw1 hit
  gi_wp2_with fail
  rw [HW1.out]
  refine loop_out2 (gf := gf) (lb := lb) (encs := encCP) rfl eg
    HIT.out (fun _ => rfl) (X := fun b => b = n)
    (fun b hb => by omega) (fun b hb => by have := hNd b hb; rw [HN.out] at this; exact ⟨by omega, by omega⟩) (fun b hb => (hb1.block b (by have := hNd b hb; rw [HN.out] at this; omega)).trans (hNdw b hb)) (by rw [HN.out] at hw0; omega)
    (fun pre Y W => ∃ ao cv, W.heap[n]? = some (.cells #[.slice ao pre.length cv] 35 (0, 0)) ∧ OwnS Y 40 2 (.slice ao pre.length cv) pre.length (encL2 pre) W)
    (fun _ _ _ _ => False)
    (fun pre Y W W' hk h' => by
      obtain ⟨ao, cv, h1, h2⟩ := h'
      exact ⟨ao, cv, hk.heap h1 (fun hx => by have := hx.1; omega), h2.keep hk (fun b hx hy => hx.2 hy)⟩)
    (fun pre Y W h' => by
      obtain ⟨ao, cv, h1, h2⟩ := h'
      exact ⟨ao, cv, h1, ⟨h2.1, fun b hb => ⟨h2.2 b hb, (h2.1.lt b hb).2⟩⟩⟩)
    (fun _ _ _ _ _ _ h => h) ⟨_, _, b0, ho1⟩ ?round ?done ?stop
  case stop => intro D c pre Y W _ _ _ h; exact h.elim
  case round =>
    rintro l' hl' pre ⟨lo, hi⟩ Y W hpre hi' hk hY hlt hr
    simp only [encCP]
    have HPre := Lib.hid hpre
    have HY := Lib.hid hY
    have HK := Lib.hid hk
    clear eg hNd hNdw hi' hk hpre hY hr
    gi_wp2
    refine ⟨Keep.refl _ _, ?_⟩
    rintro W2 hk1 hk2 ⟨ao, cv, hv, hown⟩ hr2
    have hYY := HY.out
    have hlen : pre.length < L.length := by
      obtain ⟨rest, hrest⟩ := HPre.out
      rw [← hrest]; simp
    have hz2 : n < W2.heap.size := by have := hk2.size; omega
    have hYn : ∀ b, Y b → b ≠ n := fun b hb => by have := (hYY b hb).1; omega
    obtain ⟨v, hvv⟩ : ∃ v, Value.slice ao pre.length cv = v := ⟨_, rfl⟩
    rw [hvv] at hown hv
    obtain ⟨g, cap, w3, hrun, hown3, hk3, hg3, hz3⟩ := append_x (P := Tryz.prog) W2 35 40 Tryz.underlying35 tinfo2 rfl (by omega) hown [.int .i64 lo, .int .i64 hi] rfl
      (by intro u hu; simp at hu; rcases hu with rfl | rfl <;> rfl) (by unfold maxLen; omega) (by omega)
    have hvY : ∀ b, v.ownBlock = some b → Y b := hown.2
    have hg3Y : Y g ∨ W2.heap.size ≤ g := by
      rcases hg3 with hx | hx
      · exact .inl (hvY g hx)
      · exact .inr (by omega)
    have hgn : g ≠ n := by
      rcases hg3Y with hx | hx
      · exact hYn g hx
      · omega
    have k0 := cell_one hv
    have hvn : ∀ b, v.ownBlock = some b → b ≠ n := fun b hx => hYn b (hvY b hx)
    have hv3 : w3.heap[n]? = some (.cells #[v] 35 (0, 0)) := hk3.heap hv (fun hx => hvn n hx rfl)
    obtain ⟨w4, hw4⟩ : ∃ w4, w3.setCell ⟨n, 0, none⟩ (.slice (some ⟨g, 0, none⟩) (pre.length + 1) cap) = w4 := ⟨_, rfl⟩
    have hk4 : Keep (fun b => b = n) w3 w4 := by rw [← hw4]; exact Keep.setCell (X := fun b => b = n) (p := ⟨n, 0, none⟩) (Keep.refl _ _) rfl _
    have hv4 : w4.heap[n]? = some (.cells #[.slice (some ⟨g, 0, none⟩) (pre.length + 1) cap] 35 (0, 0)) := by rw [← hw4]; exact set_at hv3
    have hown4 := hown3.keep hk4 (fun b hb hy => hgn (by rw [← hy, hb]))
    have k3 := cell_one hv3
    have f3 := frozen_one hv3
    have hfin : Kt.Left (fun b => b = n) Y (fun pre Y W => ∃ ao cv, W.heap[n]? = some (.cells #[.slice ao pre.length cv] 35 (0, 0)) ∧ OwnS Y 40 2 (.slice ao pre.length cv) pre.length (encL2 pre) W) (pre ++ [(lo, hi)]) W2 w4 := by
      refine ⟨fun b => b = g, ?_, ?_, some ⟨g, 0, none⟩, cap, ?_, ?_⟩
      · exact (hk3.weaken (Y := fun b => b = n ∨ Y b) (fun b _ hx => .inr (hvY b hx))).trans (hk4.weaken fun b _ hx => .inl hx)
      · rintro b rfl
        exact hg3Y
      · have e1 : (pre ++ [(lo, hi)]).length = pre.length + 1 := by simp
        rw [e1]; exact hv4
      · have e1 : (pre ++ [(lo, hi)]).length = pre.length + 1 := by simp
        rw [e1, encL2_snoc]
        exact hown4
    have HF := Lib.hid hfin
    have H3 := Lib.hid hrun
    have HW4 := Lib.hid hw4
    clear hfin hrun hw4 hown hown3 hown4 hk3 hk4 hg3 hvY hvn hv hv3 hv4 hg3Y hYY hYn hk1 hk2 hr2 hgn hlen
    gi_wp2_with (first | (refine wpListIn_append_eq (o := ⟨some 14, _, _, _, _, _⟩) (by rfl) (by rfl) (by rfl) (by rfl) H3.out ?_))
    rw [HW4.out]
    exact HF.out
  case done =>
    rintro D Y W hD hDd ⟨ao, cv, hv, hown⟩ hY hkW
    have hk2 : Below n w W := hb1.trans (hkW.below (by omega) (fun b hb => by omega))
    have b2 := cell_one hv
    have HF := Lib.hid (And.intro hown (And.intro hk2 hY))
    have HDD := Lib.hid hDd
    clear hown hk2 hkW hY hDd eg hNd hNdw hw0
    gi_wp2
    refine leaves_marks (Ds := [D]) (by simp) (fun D' h => by simp at h; subst h; exact HDD.out) (fun W' hk' => ⟨_, results_tmp rfl _ _ _, ?_⟩)
    obtain ⟨ho, hkk, hY⟩ := HF.out
    have hk' : Keep (fun b => b = D) W W' := hk'.weaken fun b _ hb => by simpa using hb
    have ho2 := ho.keep hk' (fun b hb hy => (hY b hy).2 hb)
    refine ⟨_, rfl, prr_own ho2 rfl, ?_⟩
    rw [HN.out]
    exact hkk.trans (hk'.below (by have := hkk.size; omega) (fun b hb => by have hb : b = D := hb; omega))
end Go.Proofs.YthhepebkfokddaaGreatDoor
