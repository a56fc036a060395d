/- Parts of the proof of what the last text says. -/
import Derived.Test.YthhepebkfokddaaGreatDoorIjx
import Derived.Test.YthhepebkfokddaaGreatDoorGx5
import Derived.Test.YthhepebkfokddaaGreatDoorUtx
import Derived.Laws.StructEq
import Derived.IntWalk
import Derived.Test.YthhepebkfokddaaGreatDoorZnx
import Derived.Test.YthhepebkfokddaaGreatDoorGx22
import Derived.Test.YthhepebkfokddaaGreatDoorGx19
import Derived.BigQuiet
namespace Go.Proofs.YthhepebkfokddaaGreatDoor
open Go Go.RowKit Go.Kt
attribute [local go_sem] Oper.semAt_some
theorem tinfo2 : (Tryz.prog.info? 40).map (fun i => (i.zero, i.size, i.bytes)) = some (some (.agg #[.int .i64 0, .int .i64 0]), 2, 16) := by kernel_rfl
def encL2 (l : List (Nat × Nat)) : List Value := l.flatMap fun x => [.int .i64 x.1, .int .i64 x.2]
theorem encL2_snoc (l : List (Nat × Nat)) (x : Nat × Nat) : encL2 (l ++ [x]) = encL2 l ++ [.int .i64 x.1, .int .i64 x.2] := by simp [encL2]
theorem encL2_at : ∀ (l : List (Nat × Nat)) (i : Nat) (x : Nat × Nat), l[i]? = some x → (encL2 l)[i * 2]? = some (.int .i64 x.1) ∧ (encL2 l)[i * 2 + 1]? = some (.int .i64 x.2)
 | [], _, _, h => by simp at h
 | y :: t, 0, x, h => by
   simp at h
   subst h
   exact ⟨rfl, rfl⟩
 | y :: t, i + 1, x, h => by
   have ih := encL2_at t i x (by simpa using h)
   have e : encL2 (y :: t) = .int .i64 y.1 :: .int .i64 y.2 :: encL2 t := rfl
   rw [e, show (i + 1) * 2 = i * 2 + 1 + 1 by omega]
   exact ⟨by rw [List.getElem?_cons_succ, List.getElem?_cons_succ]; exact ih.1, by rw [List.getElem?_cons_succ, List.getElem?_cons_succ]; exact ih.2⟩
def PrR (W : World) (v : Value) (L : List (Nat × Nat)) : Prop := ∃ ao cp, v = .slice ao L.length cp ∧ (L = [] ∨ ∃ g, ao = some ⟨g, 0, none⟩ ∧ ∀ (i : Nat) (x : Nat × Nat), L[i]? = some x → W.cell? ⟨g, i * 2, none⟩ = some (.int .i64 x.1) ∧ W.cell? ⟨g, i * 2 + 1, none⟩ = some (.int .i64 x.2))
theorem PrR.below {W W' : World} {v : Value} {L : List (Nat × Nat)} (h : PrR W v L) (hb : Below W.heap.size W W') : PrR W' v L := by
 obtain ⟨ao, cp, rfl, h⟩ := h
 refine ⟨ao, cp, rfl, ?_⟩
 rcases h with h | ⟨g, e, h⟩
 ·exact .inl h
 ·exact .inr ⟨g, e, fun i x hx => ⟨(hb.cell (lt_of_cell (h i x hx).1)).trans (h i x hx).1, (hb.cell (lt_of_cell (h i x hx).2)).trans (h i x hx).2⟩⟩
theorem prr_own {Y : Nat → Prop} {v : Value} {n : Nat} {L : List (Nat × Nat)} {W : World} (h : OwnS Y 40 2 v n (encL2 L) W) (hn : n = L.length) : PrR W v L := by
 subst hn
 rcases h.1.2 with ⟨h1, h2⟩ | ⟨g, cap, cur, rfl, _, hg, _⟩
 ·have : L = [] := List.length_eq_zero_iff.1 h2
  subst this
  exact ⟨none, 0, h1, .inl rfl⟩
 ·refine ⟨_, _, rfl, .inr ⟨g, rfl, fun i x hx => ?_⟩⟩
  have c := h.1.cells (g := g) rfl
  have e := encL2_at L i x hx
  have c1 := c _ _ e.1
  have c2 := c _ _ e.2
  rw [Addr.add_lit, Nat.zero_add] at c1 c2
  exact ⟨c1, c2⟩
set_option maxRecDepth 100000 in
set_option maxHeartbeats 2000000 in
theorem cgathered (L : List (Nat × Nat)) (gf : Nat) (lb : Array Value) (Nd : Nat → Prop) (w w0 : World) (eg : ∀ args w, (callFunc gf args).run Tryz.prog w = .ok (.enter gf args) w)
 (hit : Iter2 Tryz.prog gf lb encCP L Nd w0) (hNd : ∀ b, Nd b → b < w.heap.size) (hNdw : ∀ b, Nd b → w.heap[b]? = w0.heap[b]?) (hw0 : w0.heap.size ≤ w.heap.size) (hL : L.length ≤ 1112192) :
 Calls Tryz.prog 10 #[.func (.func gf) #[] lb] w fun e w' => ∃ v, e = .returned v ∧ PrR w' v L ∧ Below w.heap.size w w' := by
 obtain ⟨n, hn⟩ : ∃ n, w.heap.size = n := ⟨_, rfl⟩
 have hfn : ∀ k, Fence.wide.fn k := fun _ => trivial
 have hdep : Fence.wide.depth = none := rfl
 refine (callsIn_wide (n := 0)).1 ?_
 refine callsIn_of_wp_marks Tryz.func10 rfl trivial ?_ rfl
 simp only [Tryz.ntmps10, List.size_toArray, List.length_cons, List.length_nil, Nat.reduceAdd, Nat.reduceSub, Array.replicate_succ, Array.replicate_zero, List.push_toArray, List.append_toArray, List.nil_append, List.cons_append]
 obtain ⟨w1, hw1⟩ : ∃ w1, w.alloc (.cells #[.slice none 0 0] 35) = w1 := ⟨_, rfl⟩
 have hz1 : w1.heap.size = n + 1 := by rw [← hw1]; simp [hn]
 have b0 : w1.heap[n]? = some (.cells #[.slice none 0 0] 35 (0, 0)) := by rw [← hw1]; exact alloc_at hn.symm
 have hb1 : Below n w w1 := by rw [← hw1]; exact (Below.refl _ _).alloc (by omega) _
 have ho1 : OwnS (fun _ => False) 40 2 (.slice none 0 0) 0 (encL2 []) w1 := ⟨⟨rfl, .inl ⟨rfl, rfl⟩⟩, fun g h => by cases h⟩
 have HW1 := Lib.hid hw1
 have HIT := Lib.hid hit
 have HN := Lib.hid hn
 clear hw1 hit
 gi_wp2_with fail
 rw [HW1.out]
 refine loop_out2 (gf := gf) (lb := lb) (encs := encCP) rfl eg
  HIT.out (fun _ => rfl) (X := fun b => b = n)
  (fun b hb => by omega) (fun b hb => by have := hNd b hb; rw [HN.out] at this; exact ⟨by omega, by omega⟩) (fun b hb => (hb1.block b (by have := hNd b hb; rw [HN.out] at this; omega)).trans (hNdw b hb)) (by rw [HN.out] at hw0; omega)
  (fun pre Y W => ∃ ao cv, W.heap[n]? = some (.cells #[.slice ao pre.length cv] 35 (0, 0)) ∧ OwnS Y 40 2 (.slice ao pre.length cv) pre.length (encL2 pre) W)
  (fun _ _ _ _ => False)
  (fun pre Y W W' hk h' => by
   obtain ⟨ao, cv, h1, h2⟩ := h'
   exact ⟨ao, cv, hk.heap h1 (fun hx => by have := hx.1; omega), h2.keep hk (fun b hx hy => hx.2 hy)⟩)
  (fun pre Y W h' => by
   obtain ⟨ao, cv, h1, h2⟩ := h'
   exact ⟨ao, cv, h1, ⟨h2.1, fun b hb => ⟨h2.2 b hb, (h2.1.lt b hb).2⟩⟩⟩)
  (fun _ _ _ _ _ _ h => h) ⟨_, _, b0, ho1⟩ ?round ?done ?stop
 case stop => intro D c pre Y W _ _ _ h; exact h.elim
 case round =>
  rintro l' hl' pre ⟨lo, hi⟩ Y W hpre hi' hk hY hlt hr
  simp only [encCP]
  have HPre := Lib.hid hpre
  have HY := Lib.hid hY
  have HK := Lib.hid hk
  clear eg hNd hNdw hi' hk hpre hY hr
  gi_wp2
  refine ⟨Keep.refl _ _, ?_⟩
  rintro W2 hk1 hk2 ⟨ao, cv, hv, hown⟩ hr2
  have hYY := HY.out
  have hlen : pre.length < L.length := by
   obtain ⟨rest, hrest⟩ := HPre.out
   rw [← hrest]; simp
  have hz2 : n < W2.heap.size := by have := hk2.size; omega
  have hYn : ∀ b, Y b → b ≠ n := fun b hb => by have := (hYY b hb).1; omega
  obtain ⟨v, hvv⟩ : ∃ v, Value.slice ao pre.length cv = v := ⟨_, rfl⟩
  rw [hvv] at hown hv
  obtain ⟨g, cap, w3, hrun, hown3, hk3, hg3, hz3⟩ := append_x (P := Tryz.prog) W2 35 40 Tryz.underlying35 tinfo2 rfl (by omega) hown [.int .i64 lo, .int .i64 hi] rfl
   (by intro u hu; simp at hu; rcases hu with rfl | rfl <;> rfl) (by unfold maxLen; omega) (by omega)
  have hvY : ∀ b, v.ownBlock = some b → Y b := hown.2
  have hg3Y : Y g ∨ W2.heap.size ≤ g := by
   rcases hg3 with hx | hx
   ·exact .inl (hvY g hx)
   ·exact .inr (by omega)
  have hgn : g ≠ n := by
   rcases hg3Y with hx | hx
   ·exact hYn g hx
   ·omega
  have k0 := cell_one hv
  have hvn : ∀ b, v.ownBlock = some b → b ≠ n := fun b hx => hYn b (hvY b hx)
  have hv3 : w3.heap[n]? = some (.cells #[v] 35 (0, 0)) := hk3.heap hv (fun hx => hvn n hx rfl)
  obtain ⟨w4, hw4⟩ : ∃ w4, w3.setCell ⟨n, 0, none⟩ (.slice (some ⟨g, 0, none⟩) (pre.length + 1) cap) = w4 := ⟨_, rfl⟩
  have hk4 : Keep (fun b => b = n) w3 w4 := by rw [← hw4]; exact Keep.setCell (X := fun b => b = n) (p := ⟨n, 0, none⟩) (Keep.refl _ _) rfl _
  have hv4 : w4.heap[n]? = some (.cells #[.slice (some ⟨g, 0, none⟩) (pre.length + 1) cap] 35 (0, 0)) := by rw [← hw4]; exact set_at hv3
  have hown4 := hown3.keep hk4 (fun b hb hy => hgn (by rw [← hy, hb]))
  have k3 := cell_one hv3
  have f3 := frozen_one hv3
  have hfin : Kt.Left (fun b => b = n) Y (fun pre Y W => ∃ ao cv, W.heap[n]? = some (.cells #[.slice ao pre.length cv] 35 (0, 0)) ∧ OwnS Y 40 2 (.slice ao pre.length cv) pre.length (encL2 pre) W) (pre ++ [(lo, hi)]) W2 w4 := by
   refine ⟨fun b => b = g, ?_, ?_, some ⟨g, 0, none⟩, cap, ?_, ?_⟩
   ·exact (hk3.weaken (Y := fun b => b = n ∨ Y b) (fun b _ hx => .inr (hvY b hx))).trans (hk4.weaken fun b _ hx => .inl hx)
   ·rintro b rfl
    exact hg3Y
   ·have e1 : (pre ++ [(lo, hi)]).length = pre.length + 1 := by simp
    rw [e1]; exact hv4
   ·have e1 : (pre ++ [(lo, hi)]).length = pre.length + 1 := by simp
    rw [e1, encL2_snoc]
    exact hown4
  have HF := Lib.hid hfin
  have H3 := Lib.hid hrun
  have HW4 := Lib.hid hw4
  clear hfin hrun hw4 hown hown3 hown4 hk3 hk4 hg3 hvY hvn hv hv3 hv4 hg3Y hYY hYn hk1 hk2 hr2 hgn hlen
  gi_wp2_with (first | (refine wpListIn_append_eq (o := ⟨some 14, _, _, _, _, _⟩) (by rfl) (by rfl) (by rfl) (by rfl) H3.out ?_))
  rw [HW4.out]
  exact HF.out
 case done =>
  rintro D Y W hD hDd ⟨ao, cv, hv, hown⟩ hY hkW
  have hk2 : Below n w W := hb1.trans (hkW.below (by omega) (fun b hb => by omega))
  have b2 := cell_one hv
  have HF := Lib.hid (And.intro hown (And.intro hk2 hY))
  have HDD := Lib.hid hDd
  clear hown hk2 hkW hY hDd eg hNd hNdw hw0
  gi_wp2
  refine leaves_marks (Ds := [D]) (by simp) (fun D' h => by simp at h; subst h; exact HDD.out) (fun W' hk' => ⟨_, results_tmp rfl _ _ _, ?_⟩)
  obtain ⟨ho, hkk, hY⟩ := HF.out
  have hk' : Keep (fun b => b = D) W W' := hk'.weaken fun b _ hb => by simpa using hb
  have ho2 := ho.keep hk' (fun b hb hy => (hY b hy).2 hb)
  refine ⟨_, rfl, prr_own ho2 rfl, ?_⟩
  rw [HN.out]
  exact hkk.trans (hk'.below (by have := hkk.size; omega) (fun b hb => by have hb : b = D := hb; omega))
end Go.Proofs.YthhepebkfokddaaGreatDoor
namespace Go.Proofs.YthhepebkfokddaaGreatDoor
open Go Go.RowKit Go.Kt Go.Kt.Rg Go.Maps
theorem eq_two (a b c d : Int) (w : World) : (Op.equalIn 10000 40 (.agg #[.int .i64 a, .int .i64 b]) (.agg #[.int .i64 c, .int .i64 d])).run Tryz.prog w = .ok (a == c && b == d) w := by
 have u3 := Tryz.underlying3
 have a3 := Tryz.isAgg3
 have z3 := Tryz.sizeOf3
 rw [show (10000 : Nat) = 9999 + 1 from rfl, Op.equalIn]
 simp only [Sem.run_bind, run_underlying Tryz.underlying40, Result.andThen_ok]
 simp only [Std.Legacy.Range.forIn_eq_forIn_range', Std.Legacy.Range.size, Nat.sub_zero, Nat.add_sub_cancel, Nat.div_one, List.range'_succ, List.range'_zero, List.forIn_cons, List.forIn_nil]
 go_simp
 by_cases h1 : a = c <;> by_cases h2 : b = d <;> simp [h1, h2]
theorem neq_two (a b c d : Int) (W : World) : (binOp .neq 40 (.agg #[.int .i64 a, .int .i64 b]) (.agg #[.int .i64 c, .int .i64 d])).run Tryz.prog W = .ok (.bool (!(a == c && b == d))) W := by
 rw [run_neq_struct, eq_two]
 rfl
set_option maxRecDepth 100000 in
set_option maxHeartbeats 1000000 in
theorem csame (v1 v2 : Value) (l1 l2 : List (Nat × Nat)) (w : World) (h1 : PrR w v1 l1) (h2 : PrR w v2 l2) (m1 : l1.length ≤ 4611686018427387904) (m2 : l2.length ≤ 4611686018427387904) :
 Calls Tryz.prog 12 #[v1, v2] w fun e w' => e = .returned (.bool (decide (l1 = l2))) ∧ Drawn w w' := by
 obtain ⟨a1, c1, rfl, h1⟩ := h1
 obtain ⟨a2, c2, rfl, h2⟩ := h2
 have NE := Lib.hid neq_two
 by_cases hl : l1.length = l2.length
 ·have hlt : (l1.length : Int) = l2.length := by omega
  have H1 := Lib.hid h1
  have H2 := Lib.hid h2
  have HL := Lib.hid hl
  have hne : ((l1.length : Int) != l2.length) = false := by simp [hl]
  clear h1 h2 hl hlt
  go_enter Tryz.func12, Tryz.ntmps12
  go_wp2
  go_loopw [5] (fun v wr => ∃ k : Nat, k ≤ l1.length ∧ v = .int .i64 k ∧ l1.take k = l2.take k ∧ Drawn w wr) (fun v _ => l1.length - (RowKit.intOf v).toNat)
  case atStart => exact ⟨0, by omega, rfl, by simp, Drawn.refl _⟩
  case round =>
   obtain ⟨k, hk, rfl, htk, hb⟩ := hrel
   have HT := Lib.hid htk
   clear htk
   by_cases hlt : k < l1.length
   ·have hlt2 : k < l2.length := by have := HL.out; omega
    obtain ⟨x1, e1⟩ : ∃ x, l1[k]? = some x := ⟨l1[k], List.getElem?_eq_getElem hlt⟩
    obtain ⟨x2, e2⟩ : ∃ x, l2[k]? = some x := ⟨l2[k], List.getElem?_eq_getElem hlt2⟩
    obtain ⟨g1, rfl, k1⟩ : ∃ g, a1 = some ⟨g, 0, none⟩ ∧ ∀ (i : Nat) (x : Nat × Nat), l1[i]? = some x → w.cell? ⟨g, i * 2, none⟩ = some (.int .i64 x.1) ∧ w.cell? ⟨g, i * 2 + 1, none⟩ = some (.int .i64 x.2) := by
     rcases H1.out with h | h
     ·subst h; simp at hlt
     ·exact h
    obtain ⟨g2, rfl, k2⟩ : ∃ g, a2 = some ⟨g, 0, none⟩ ∧ ∀ (i : Nat) (x : Nat × Nat), l2[i]? = some x → w.cell? ⟨g, i * 2, none⟩ = some (.int .i64 x.1) ∧ w.cell? ⟨g, i * 2 + 1, none⟩ = some (.int .i64 x.2) := by
     rcases H2.out with h | h
     ·subst h; simp at hlt2
     ·exact h
    obtain ⟨q1, q2⟩ := k1 k x1 e1
    obtain ⟨q3, q4⟩ := k2 k x2 e2
    have p1 := (hb.cell _).trans q1
    have p2 := (hb.cell _).trans q2
    have p3 := (hb.cell _).trans q3
    have p4 := (hb.cell _).trans q4
    have E := Lib.hid (And.intro e1 e2)
    clear k1 k2 q1 q2 q3 q4 e1 e2
    obtain ⟨x, y⟩ := x1
    obtain ⟨z, t⟩ := x2
    simp only at p1 p2 p3 p4
    by_cases hx : x = z ∧ y = t
    ·obtain ⟨rfl, rfl⟩ := hx
     have hxx : (!(((x : Int) == (x : Int)) && ((y : Int) == (y : Int)))) = false := by simp
     have ne := NE.out x y x y
     rw [hxx] at ne
     clear hxx
     go_wp2
     go_quiet (fail)
     go_wp2
     go_roundw
     case rel =>
      refine ⟨k + 1, by omega, by go_num, ?_, hb.more _⟩
      rw [List.take_add_one, List.take_add_one, HT.out, E.out.1, E.out.2]
     case measure => simp [RowKit.intOf]; omega
    ·have hxx : (!(((x : Int) == (z : Int)) && ((y : Int) == (t : Int)))) = true := by simp; omega
     have ne := NE.out x y z t
     rw [hxx] at ne
     clear hxx
     have hfin : decide (l1 = l2) = false := by
      simp only [decide_eq_false_iff_not]
      intro h; subst h; rw [E.out.1] at E
      have := Option.some.inj E.out.2
      simp only [Prod.mk.injEq] at this
      exact hx this
     go_wp2
     go_quiet (fail)
     go_wp2
     go_ret
     exact ⟨by rw [hfin]; rfl, hb.more _⟩
   ·have hke : k = l1.length := by omega
    have hfin : decide (l1 = l2) = true := by
     have := HT.out
     rw [hke, List.take_length, HL.out, List.take_length] at this
     simpa using this
    clear hke
    go_wp2
    go_ret
    exact ⟨by rw [hfin]; rfl, hb⟩
 ·have hne : ((l1.length : Int) != l2.length) = true := by simp; omega
  have hfin : decide (l1 = l2) = false := by
   simp only [decide_eq_false_iff_not]
   intro h; subst h; exact hl rfl
  clear h1 h2 hl
  go_enter Tryz.func12, Tryz.ntmps12
  go_wp2
  go_ret
  exact ⟨by rw [hfin]; rfl, Drawn.refl _⟩
def fileX : List UInt8 := [107, 105, 110, 100, 32, 48, 51, 48, 48, 46, 46, 48, 51, 54, 70, 32, 109, 97, 114, 107]
def rdX : RdS := ⟨[], [(768, 879, 3)], fun _ => none, fun _ => none, fun _ => none, fun _ => none⟩
theorem fileX_reads : readP 0 rd0 (linesP fileX) = (0, 1, rdX) := by kernel_rfl
theorem fileX_lines : lnC fileX = 1 := by kernel_rfl
theorem file_only {f : List UInt8} {m : Nat} {R : RdS} {no line : Nat} {S : RdS} {L : List Nat} (hf : f.length ≤ 1000) (hl : lnC f ≤ 1000) (hr : readP 0 rd0 (linesP f) = (0, m, R)) (hd : ∀ x, R.ds x = none) (hg : (ringP R 1 [] fun _ => none).1 = 0) (h : ParseR f no line S L) : no = 0 ∧ S = R ∧ L = [] := by
 rcases h with ⟨h, _⟩ | ⟨_, h1, _⟩ | ⟨_, h1, h2, h3, h4, h5, _⟩
 ·omega
 ·rw [hr] at h1; exact absurd rfl h1
 ·rw [hr] at h2
  simp only at h2
  subst h2
  have hL : L = [] := List.eq_nil_iff_forall_not_mem.2 fun x hx => by have := (h4 x).1 hx; rw [hd x] at this; cases this
  subst hL
  exact ⟨by rw [h5]; exact hg, rfl, rfl⟩
end Go.Proofs.YthhepebkfokddaaGreatDoor
namespace Go.Proofs.YthhepebkfokddaaGreatDoor
open Go Go.RowKit Go.Kt Go.Kt.Rg Go.Maps
attribute [local go_sem] Oper.semAt_some
theorem celF_len (S : RdS) (s : ByteArray) (l : List (Nat × Nat)) : (celF S s l).1.length ≤ l.length := by
 rcases List.eq_nil_or_concat l with rfl | ⟨r, p, rfl⟩
 ·exact Nat.le_refl 0
 ·have ih := celF_len S s r
  rw [List.concat_eq_append, celF_snoc]
  unfold celStep
  split
  ·simp; omega
  ·simp; omega
termination_by l.length
theorem celL_len (S : RdS) (s : ByteArray) : (celL S s).length ≤ s.size + 1 := by
 unfold celL
 split
 ·simp
 ·have h1 := celF_len S s (units s)
  have h2 := units_len s
  simp
  omega
set_option maxRecDepth 100000 in
set_option maxHeartbeats 2000000 in
theorem cCount {gp : Nat} {S : RdS} {md : MdT} (s : ByteArray) (w : World) (hP : PrW gp S md w) (hT : Lib.Utf8Tabs 3 4 w) (hs : s.size ≤ 4611686018427387904) :
 Calls Tryz.prog 15 #[.pointer (some ⟨gp, 0, none⟩), .string s] w fun e w' => e = .returned (.int .i64 ((celL S s).length : Nat)) ∧ Below w.heap.size w w' := by
 have hLn := celL_len S s
 obtain ⟨n, hn⟩ : ∃ n, w.heap.size = n := ⟨_, rfl⟩
 have hfn : ∀ k, Fence.wide.fn k := fun _ => trivial
 have hdep : Fence.wide.depth = none := rfl
 refine (callsIn_wide (n := 0)).1 ?_
 refine callsIn_of_wp_marks Tryz.func15 rfl trivial ?_ rfl
 simp only [Tryz.ntmps15, List.size_toArray, List.length_cons, List.length_nil, Nat.reduceAdd, Nat.reduceSub, Array.replicate_succ, Array.replicate_zero, List.push_toArray, List.append_toArray, List.nil_append, List.cons_append]
 obtain ⟨V1, hV1⟩ : ∃ V1, w.alloc (.cells #[.int .i64 0] 3) = V1 := ⟨_, rfl⟩
 have hz1 : V1.heap.size = n + 1 := by rw [← hV1]; simp [hn]
 have b0 : V1.heap[n]? = some (.cells #[.int .i64 0] 3 (0, 0)) := by rw [← hV1]; exact alloc_at hn.symm
 have hb1 : Below n w V1 := by rw [← hV1]; exact (Below.refl _ _).alloc (by omega) _
 have CA := Lib.hid (cAll_call gp s V1)
 have HV1 := Lib.hid hV1
 clear hV1
 gi_wp2_with fail
 rw [HV1.out]
 refine (callsIn_wide.2 CA.out).mono ?_
 rintro e w6 ⟨rfl, hw6⟩
 have hk6 : Keep (fun _ => False) V1 w6 := by rw [← hw6]; exact ((Keep.refl _ _).alloc _).alloc _
 have hz6 : w6.heap.size = n + 3 := by rw [← hw6]; simp [hz1]
 have c1 : w6.heap[n + 1]? = some (.cells #[.pointer (some ⟨gp, 0, none⟩)] 22 (0, 0)) := by rw [← hw6]; exact alloc_old (alloc_at (by omega))
 have c2 : w6.heap[n + 2]? = some (.cells #[.string s] 9 (0, 0)) := by rw [← hw6]; exact alloc_at (by simp [hz1])
 have v0 := hk6.heap b0 (fun h => h)
 have hb6 : Below n w w6 := hb1.trans (hk6.below (by omega) (fun _ h => h.elim))
 have HIT := Lib.hid (call_iter s (n + 1) (n + 2) w w6 (cell_one c2) (cell_one c1) hP (by rw [hn]; exact hb6.block) hb6.size hT hs)
 rw [hz1]
 clear hw6 hk6 hb1 b0 c1 c2 hP hT
 gi_wp2_with fail
 refine loop_out2 (gf := 30) (lb := #[.pointer (some ⟨n + 2, 0, none⟩), .pointer (some ⟨n + 1, 0, none⟩)]) (encs := encCP) rfl (enters_of Tryz.func30 (by kernel_rfl) rfl)
  HIT.out (fun _ => rfl) (X := fun b => b = n)
  (fun b hb => by omega) (fun b hb => by rcases hb with h | h | h <;> exact ⟨by omega, by omega⟩) (fun _ _ => rfl) (Nat.le_refl _)
  (fun pre Y W => W.heap[n]? = some (.cells #[.int .i64 (pre.length : Nat)] 3 (0, 0)))
  (fun _ _ _ _ => False)
  (fun pre Y W W' hk h' => hk.heap h' (fun hx => by have := hx.1; omega))
  (fun pre Y W h' => h')
  (fun _ _ _ _ _ _ h => h) v0 ?round ?done ?stop
 case stop => intro D c pre Y W _ _ _ h; exact h.elim
 case round =>
  rintro l' hl' pre ⟨lo, up⟩ Y W hpre hi hk hY hlt hr
  simp only [encCP]
  gi_wp2
  refine ⟨Keep.refl _ _, ?_⟩
  rintro W2 _ hk2 hv hr2
  have hlen : pre.length < (celL S s).length := by
   obtain ⟨rest, hrest⟩ := hpre
   rw [← hrest]; simp
  have x0 := cell_one hv
  have x1 := frozen_one hv
  obtain ⟨k, hk9⟩ : ∃ k, pre.length = k := ⟨_, rfl⟩
  have HV := Lib.hid hv
  have HK9 := Lib.hid hk9
  rw [hk9] at x0 hlen
  have hk10 : (k : Int) ≤ 4611686018427387904 := by omega
  clear hv hk2 hr2 hr hi hk hpre hk9 hlen hLn HIT
  gi_wp2_with fail
  refine ⟨Y, (Keep.refl _ _).setCell (p := ⟨n, 0, none⟩) (.inl rfl) _, fun b h => .inl h, ?_⟩
  have h9 := set_at (u := .int .i64 ((k : Int) + 1)) HV.out
  have e9 : (pre ++ [(lo, up)]).length = k + 1 := by simp [HK9.out]
  show (W2.setCell ⟨n, 0, none⟩ (.int .i64 ((k : Int) + 1))).heap[n]? = some (.cells #[.int .i64 ((pre ++ [(lo, up)]).length : Nat)] 3 (0, 0))
  rw [e9]
  exact h9
 case done =>
  rintro D Y W hD hDd hv hY hkW
  have hbW : Below n w W := hb6.trans (hkW.below (by omega) (fun b hb => by omega))
  have x0 := cell_one hv
  have HF := Lib.hid (And.intro hbW (And.intro hDd hn))
  have hzW := hkW.size
  clear hv hkW hY hbW hDd HIT
  gi_wp2_with fail
  refine leaves_marks (Ds := [D]) (by simp) (fun D' h => by simp at h; subst h; exact HF.out.2.1) (fun W' hk' => ⟨_, results_tmp rfl _ _ _, rfl, ?_⟩)
  have hk' : Keep (fun b => b = D) W W' := hk'.weaken fun b _ hb => by simpa using hb
  rw [HF.out.2.2]
  exact HF.out.1.trans (hk'.below (by omega) (fun b hb => by have hb : b = D := hb; omega))
theorem w_l1 : celL rdX ⟨#[97, 204, 129, 98, 255, 204, 129]⟩ = [(0, 3), (3, 4), (4, 5), (5, 7)] := by kernel_rfl
theorem w_l2 : (celL rdX ⟨#[13, 10, 10]⟩).length = 2 := by kernel_rfl
theorem w_e1 : edgP rdX ⟨#[97, 98]⟩ 1 = true := by kernel_rfl
theorem w_e2 : edgP rdX ⟨#[]⟩ 0 = false := by kernel_rfl
theorem prr_four (W : World) : PrR (W.alloc (.cells #[.int .i64 0, .int .i64 3, .int .i64 3, .int .i64 4, .int .i64 4, .int .i64 5, .int .i64 5, .int .i64 7] 40)) (.slice (some ⟨W.heap.size, 0, none⟩) 4 4) [(0, 3), (3, 4), (4, 5), (5, 7)] := by
 refine ⟨_, _, rfl, .inr ⟨W.heap.size, rfl, fun i x hx => ?_⟩⟩
 rw [Lib.cell_of_heap (World.alloc_heap_new W _), Lib.cell_of_heap (World.alloc_heap_new W _)]
 match i, hx with
 | 0, hx => simp at hx; subst hx; exact ⟨rfl, rfl⟩
 | 1, hx => simp at hx; subst hx; exact ⟨rfl, rfl⟩
 | 2, hx => simp at hx; subst hx; exact ⟨rfl, rfl⟩
 | 3, hx => simp at hx; subst hx; exact ⟨rfl, rfl⟩
 | i + 4, hx => simp at hx
set_option maxRecDepth 100000 in
set_option maxHeartbeats 1000000 in
theorem cworks (w : World) (hE : PEnv w) (hT : Lib.Utf8Tabs 3 4 w) : Calls Tryz.prog 8 #[] w fun e w' => e = .returned (.bool true) ∧ Below w.heap.size w w' := by
 have CP := Lib.hid (pParse ⟨fileX.toArray⟩ w hE)
 have HT := Lib.hid hT
 clear hT
 go_enter Tryz.func8, Tryz.ntmps8
 go_wp2_with fail
 refine CP.out.mono ?_
 rintro e w1 ⟨no, line, S, L, hP, hb1, hor⟩
 obtain ⟨h0, rfl, rfl⟩ := file_only (f := fileX) (by decide) (by rw [fileX_lines]; omega) fileX_reads (fun _ => rfl) (by kernel_rfl) hP
 obtain ⟨g, rfl, hW1⟩ : ∃ g, e = .returned (.tuple #[.pointer (some ⟨g, 0, none⟩), .nilIface]) ∧ PrW g rdX (mdOf rdX []) w1 := by
  rcases hor with ⟨_, g, h1, h2⟩ | ⟨h1, _⟩
  ·exact ⟨g, h1, h2⟩
  ·exact absurd h0 h1
 have HB1 := Lib.hid hb1
 have HW := Lib.hid (fun W (h : Below w1.heap.size w1 W) => hW1.below h)
 have HT1 := Lib.hid (fun W (h : Below w1.heap.size w1 W) => tabs_below HT.out (tabs_size HT.out) (hb1.trans (h.mono hb1.size)))
 have HPW := Lib.hid hW1
 clear hP hb1 hor hW1 h0
 go_wp2_with fail
 refine (cAll_call g _ w1).mono ?_
 rintro e w2 ⟨rfl, hw2⟩
 have hb2 : Below w1.heap.size w1 w2 := by rw [← hw2]; exact ((Below.refl _ _).alloc (Nat.le_refl _) _).alloc (by simp) _
 have c1 : w2.heap[w1.heap.size]? = some (.cells #[.pointer (some ⟨g, 0, none⟩)] 22 (0, 0)) := by rw [← hw2]; exact alloc_old (alloc_at rfl)
 have c2 : w2.heap[w1.heap.size + 1]? = some (.cells #[.string ⟨#[97, 204, 129, 98, 255, 204, 129]⟩] 9 (0, 0)) := by rw [← hw2]; exact alloc_at (by simp)
 have HG := Lib.hid (cgathered (celL rdX ⟨#[97, 204, 129, 98, 255, 204, 129]⟩) _ _ _ w2 w2 (enters_of Tryz.func30 (by kernel_rfl) rfl) (call_iter _ (w1.heap.size) (w1.heap.size + 1) w1 w2 (cell_one c2) (cell_one c1) HPW.out hb2.block hb2.size (HT1.out w1 (Below.refl _ _)) (by decide)) (fun b hb => by
  have h1 := (Array.getElem?_eq_some_iff.1 c1).1
  have h2 := (Array.getElem?_eq_some_iff.1 c2).1
  rcases hb with h | h | h <;> omega) (fun _ _ => rfl) (Nat.le_refl _) (by rw [w_l1]; decide))
 have HB2 := Lib.hid hb2
 clear hw2 hb2 c1 c2
 go_wp2_with fail
 refine HG.out.mono ?_
 rintro e w3 ⟨v, rfl, hv, hb3⟩
 rw [w_l1] at hv
 have HB3 := Lib.hid (HB2.out.trans (hb3.mono HB2.out.size))
 have hv4 : PrR (w3.alloc (.cells #[.int .i64 0, .int .i64 3, .int .i64 3, .int .i64 4, .int .i64 4, .int .i64 5, .int .i64 5, .int .i64 7] 40)) v [(0, 3), (3, 4), (4, 5), (5, 7)] := hv.below ((Below.refl _ w3).alloc (Nat.le_refl _) _)
 have CS := Lib.hid (csame _ _ _ _ _ hv4 (prr_four w3) (by decide) (by decide))
 clear hv hb3 hv4
 go_wp2_with fail
 refine CS.out.mono ?_
 rintro e w5 ⟨rfl, hd5⟩
 have hb5 : Below w3.heap.size w3 w5 := ((Below.refl _ w3).alloc (Nat.le_refl _) _).trans (hd5.below.mono (by simp))
 have HB5 := Lib.hid (HB3.out.trans (hb5.mono HB3.out.size))
 clear hd5 hb5
 have HC := Lib.hid (cCount (md := mdOf rdX []) ⟨#[13, 10, 10]⟩ w5 (HW.out w5 HB5.out) (HT1.out w5 HB5.out) (by decide))
 rw [w_l2] at HC
 go_wp2_with fail
 refine HC.out.mono ?_
 rintro e w6 ⟨rfl, hb6⟩
 have HB6 := Lib.hid (HB5.out.trans (hb6.mono HB5.out.size))
 clear hb6
 have HC2 := Lib.hid (cEdge (md := mdOf rdX []) ⟨#[97, 98]⟩ 1 w6 (HW.out w6 HB6.out) (HT1.out w6 HB6.out) (by decide))
 rw [w_e1] at HC2
 go_wp2_with fail
 refine HC2.out.mono ?_
 rintro e w7 ⟨rfl, hb7⟩
 have HB7 := Lib.hid (HB6.out.trans (hb7.mono HB6.out.size))
 clear hb7
 have HC3 := Lib.hid (cEdge (md := mdOf rdX []) ⟨#[]⟩ 0 w7 (HW.out w7 HB7.out) (HT1.out w7 HB7.out) (by decide))
 rw [w_e2] at HC3
 go_wp2_with fail
 refine HC3.out.mono ?_
 rintro e w8 ⟨rfl, hb8⟩
 have HB8 := Lib.hid (HB7.out.trans (hb8.mono HB7.out.size))
 clear hb8
 go_wp2
 go_ret
 exact ⟨rfl, HB1.out.trans (HB8.out.mono HB1.out.size)⟩
end Go.Proofs.YthhepebkfokddaaGreatDoor
namespace Go.Proofs.YthhepebkfokddaaGreatDoor
open Go Go.RowKit Go.Kt
set_option maxRecDepth 100000 in
set_option maxHeartbeats 1000000 in
theorem cturned (v : Value) (L : List (Nat × Nat)) (w : World) (h : PrR w v L) (hL : L.length ≤ 1112192) :
 Calls Tryz.prog 13 #[v] w fun e w' => ∃ v', e = .returned v' ∧ PrR w' v' L.reverse ∧ Below w.heap.size w w' := by
 obtain ⟨a1, c1, rfl, h1⟩ := h
 obtain ⟨n, hn⟩ : ∃ n, L.length = n := ⟨_, rfl⟩
 have HN := Lib.hid hn
 have H1 := Lib.hid h1
 rw [hn] at hL ⊢
 have ho1 : OwnS (fun b => w.heap.size ≤ b) 40 2 (.slice none 0 0) 0 (encL2 []) w := ⟨⟨rfl, .inl ⟨rfl, rfl⟩⟩, fun g h => by cases h⟩
 have HO := Lib.hid ho1
 have e0 : wrap64 ((n : Int) - 1) = (n : Int) - 1 := by unfold wrap64; omega
 clear hn h1 ho1
 go_enter Tryz.func13, Tryz.ntmps13
 go_wp2
 go_loopw [3, 4] (fun o v wr => ∃ (k : Nat) (ao : Option Addr) (m cv : Nat), k + m = n ∧ v = .int .i64 ((k : Int) - 1) ∧ o = .slice ao m cv ∧ OwnS (fun b => w.heap.size ≤ b) 40 2 (.slice ao m cv) m (encL2 (L.drop k).reverse) wr ∧ Below w.heap.size w wr) (fun _ v _ => (RowKit.intOf v + 1).toNat)
 case atStart => exact ⟨n, none, 0, 0, by omega, rfl, rfl, by rw [List.drop_eq_nil_of_le (by rw [HN.out]; exact Nat.le_refl _)]; exact HO.out, Below.refl _ _⟩
 case round =>
  obtain ⟨k, ao, m, cv, hkm, rfl, rfl, hown, hb⟩ := hrel
  cases k with
  | zero =>
    rw [List.drop_zero] at hown
    have HP := Lib.hid (prr_own hown (by rw [List.length_reverse, HN.out]; omega))
    have HB := Lib.hid hb
    clear hown hb
    go_wp2
    go_ret
    exact ⟨_, rfl, HP.out, HB.out⟩
  | succ k =>
    obtain ⟨x, hx⟩ : ∃ x, L[k]? = some x := ⟨_, List.getElem?_eq_getElem (by rw [HN.out]; omega)⟩
    obtain ⟨g1, rfl, k1⟩ : ∃ g, a1 = some ⟨g, 0, none⟩ ∧ ∀ (i : Nat) (x : Nat × Nat), L[i]? = some x → w.cell? ⟨g, i * 2, none⟩ = some (.int .i64 x.1) ∧ w.cell? ⟨g, i * 2 + 1, none⟩ = some (.int .i64 x.2) := by
     rcases H1.out with h | h
     ·subst h; simp at hx
     ·exact h
    obtain ⟨p1', p2'⟩ := k1 k x hx
    have p1 := (hb.cell (lt_of_cell p1')).trans p1'
    have p2 := (hb.cell (lt_of_cell p2')).trans p2'
    obtain ⟨x, y⟩ := x
    simp only at p1 p2
    have hzz := hb.size
    obtain ⟨g, cap, w3, hrun, hown3, hk3, hg3, hz3⟩ := append_x (P := Tryz.prog) wr 35 40 Tryz.underlying35 tinfo2 rfl (by omega) hown [.int .i64 x, .int .i64 y] rfl
     (by intro u hu; simp at hu; rcases hu with rfl | rfl <;> rfl) (by unfold maxLen; omega) (by omega)
    have hgl : w.heap.size ≤ g := by
     rcases hg3 with h | h
     ·exact hown.2 g h
     ·omega
    have hown4 : OwnS (fun b => w.heap.size ≤ b) 40 2 (.slice (some ⟨g, 0, none⟩) (m + 1) cap) (m + 1) (encL2 (L.drop k).reverse) w3 := by
     have e1 : L.drop k = (x, y) :: L.drop (k + 1) := by
      obtain ⟨hlt, he⟩ := List.getElem?_eq_some_iff.1 hx
      rw [List.drop_eq_getElem_cons hlt, he]
     rw [e1, List.reverse_cons, encL2_snoc]
     exact hown3.weaken fun b hb => by subst hb; exact hgl
    have hb3 : Below w.heap.size w w3 := hb.trans (hk3.below hzz fun b h => hown.2 b h)
    have HR := Lib.hid hrun
    have HF := Lib.hid (And.intro hown4 hb3)
    have e1 : ((k + 1 : Nat) : Int) - 1 = (k : Int) := by omega
    rw [e1]
    have e2 : wrap64 ((k : Int) - 1) = (k : Int) - 1 := by unfold wrap64; omega
    have e3 : (k : Int) < n := by omega
    clear hrun hown hown3 hown4 hk3 hg3 hz3 hb hb3 k1 p1' p2' hx hzz hgl e1
    go_wp2_with (first | (refine wpList_append_eq (o := ⟨some 18, _, _, _, _, _⟩) rfl rfl rfl rfl HR.out ?_))
    go_roundw
    case rel => exact ⟨k, _, m + 1, cap, by omega, rfl, rfl, HF.out.1, HF.out.2⟩
    case measure => simp [RowKit.intOf]
end Go.Proofs.YthhepebkfokddaaGreatDoor
namespace Go.Proofs.YthhepebkfokddaaGreatDoor
open Go Go.RowKit Go.Kt Go.Kt.Rg Go.Maps
def BothO (l : List UInt8) (e : Ending) (w w' : World) : Prop := Below w.heap.size w w' ∧ ((∃ x y, e = .returned (.tuple #[x, y, .bool false])) ∨
 ∃ g gx line S L X cv kv fv dv B0 ρ, e = .returned (.tuple #[.pointer (some ⟨g, 0, none⟩), .pointer (some ⟨gx, 0, none⟩), .bool true]) ∧ ParseR l 0 line S L ∧ PrW g S (mdOf S L) w' ∧ PxW B0 ρ gx X cv kv fv dv w' ∧ XRel X S)
theorem errP_if (no line : Nat) : ∃ t v, errP no line = .iface t v := by
 unfold errP
 split
 ·exact ⟨_, _, rfl⟩
 ·exact ⟨_, _, rfl⟩
set_option maxRecDepth 100000 in
set_option maxHeartbeats 2000000 in
theorem cboth (f : ByteArray) (w : World) (hE : PEnv w ∧ KTabX w) : Calls Tryz.prog 9 #[.string f] w fun e w' => BothO f.data.toList e w w' := by
 by_cases hbig : 4096 < f.size
 ·have h1 : (4096 : Int) < f.size := by omega
  clear hbig hE
  go_enter Tryz.func9, Tryz.ntmps9
  go_wp2
  go_ret3
  exact ⟨Below.refl _ _, .inl ⟨_, _, rfl⟩⟩
 have h1 : ¬ (4096 : Int) < f.size := by omega
 have CP := Lib.hid (pParse f w hE.1)
 have CY := Lib.hid (fun W (h : Below w.heap.size w W) => yParse f W (by omega) (hE.2.below h))
 have eq1 : ∀ (t : TypeId) (v : Value) (W : World), (binOp .eql 24 (.iface t v) .nilIface).run Tryz.prog W = .ok (.bool false) W := fun t v W => by go_simp
 clear hE hbig
 go_enter Tryz.func9, Tryz.ntmps9
 go_wp2_with fail
 refine CP.out.mono ?_
 rintro e w1 ⟨no, line, S, L, hP, hb1, ⟨rfl, g, rfl, hW⟩ | ⟨h0, rfl⟩⟩
 ·have HB1 := Lib.hid hb1
  have HX := Lib.hid (And.intro hP hW)
  clear hP hb1 hW
  go_wp2_with fail
  refine (CY.out w1 HB1.out).mono ?_
  rintro e w2 ⟨no2, line2, S2, L2, hP2, h⟩
  obtain ⟨rfl, rfl, hSL⟩ := ParseR.uniq HX.out.1 hP2
  obtain ⟨rfl, rfl⟩ := hSL rfl
  rcases h with ⟨_, gx, X, cv, kv, fv, dv, B0, ρ, rfl, hPx, hXR, hln, hb2⟩ | ⟨h0, _⟩
  rotate_left
  ·exact absurd rfl h0
  obtain ⟨w3, hw3⟩ : ∃ W, w2.alloc (.cells #[.int .i64 0, .int .i64 0] 74) = W := ⟨_, rfl⟩
  have hb3 : Below w2.heap.size w2 w3 := by rw [← hw3]; exact (Below.refl _ w2).alloc (Nat.le_refl _) _
  have c0 : w3.cell? ⟨w2.heap.size, 0, none⟩ = some (.int .i64 0) := by rw [← hw3, Lib.cell_of_heap (World.alloc_heap_new _ _)]; rfl
  have HF : Hid (∀ q, BothO f.data.toList (.returned (.tuple #[.pointer (some ⟨g, 0, none⟩), .pointer (some ⟨gx, 0, none⟩), .bool true])) w (w3.drewN q)) := Lib.hid fun q => by
   have hb23 : Below w2.heap.size w2 (w3.drewN q) := below_drewN hb3 q
   have hb13 : Below w1.heap.size w1 (w3.drewN q) := hb2.trans (hb23.mono hb2.size)
   exact ⟨HB1.out.trans (hb13.mono HB1.out.size), .inr ⟨g, gx, _, S, L, X, cv, kv, fv, dv, B0, ρ, rfl, HX.out.1, HX.out.2.below hb13, hPx.below hb23, hXR⟩⟩
  have HW3 := Lib.hid hw3
  clear hP2 hPx hXR hln hb2 hb3 hw3
  go_wp2_with fail
  rw [HW3.out]
  go_quiet (fail)
  go_wp2
  go_ret3
  exact HF.out _
 ·obtain ⟨t, v, hv⟩ := errP_if no line
  rw [hv]
  have HB1 := Lib.hid hb1
  have HX := Lib.hid (And.intro hP h0)
  clear hP hb1 hv h0
  go_wp2_with fail
  refine (CY.out w1 HB1.out).mono ?_
  rintro e w2 ⟨no2, line2, S2, L2, hP2, h⟩
  obtain ⟨rfl, rfl, _⟩ := ParseR.uniq HX.out.1 hP2
  rcases h with ⟨h0, _⟩ | ⟨_, hb2, rfl⟩
  ·exact absurd h0 HX.out.2
  obtain ⟨w3, hw3⟩ : ∃ W, w2.alloc (.cells #[.int .i64 (no : Nat), .int .i64 (line : Nat)] 74) = W := ⟨_, rfl⟩
  have hb3 : Below w2.heap.size w2 w3 := by rw [← hw3]; exact (Below.refl _ w2).alloc (Nat.le_refl _) _
  have HF : Hid (∀ q, Below w.heap.size w (w3.drewN q)) := Lib.hid fun q => HB1.out.trans ((hb2.trans ((below_drewN hb3 q).mono hb2.size)).mono HB1.out.size)
  have HW3 := Lib.hid hw3
  clear hP2 hb2 hb3 hw3
  go_wp2_with fail
  rw [HW3.out]
  go_quiet (fail)
  go_wp2
  go_ret3
  exact ⟨HF.out _, .inl ⟨_, _, rfl⟩⟩
end Go.Proofs.YthhepebkfokddaaGreatDoor
