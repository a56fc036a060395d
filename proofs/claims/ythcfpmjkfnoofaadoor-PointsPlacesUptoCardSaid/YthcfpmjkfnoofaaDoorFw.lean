/- UtfWalks' two helpers: forward, backward. -/
import Derived.Test.YthcfpmjkfnoofaaDoorBi
import Derived.Test.YthcfpmjkfnoofaaDoorRa
import Derived.IntWalk
namespace Go.Proofs.YthcfpmjkfnoofaaDoor
open Go Go.RowKit Go.Kt Go.Shelf
attribute [local go_sem] Oper.semAt_some

/-- The cell of element k of a list that is read. -/
theorem slg_cell {k : IntKind} {W : World} {ap : Option Addr} {n cp : Nat} {l : List Int} (h : Slg k W (.slice ap n cp) l) (i : Nat) (x : Int) (hx : l[i]? = some x) : ∃ A, ap = some A ∧ W.cell? (A.add i) = some (.int k x) := by
  obtain ⟨ax, cx, e, h⟩ := h
  injection e with e1 _ _
  subst e1
  rcases h with h | ⟨a, e, h⟩
  · rw [h] at hx; simp at hx
  · exact ⟨a, e, h i x hx⟩

set_option maxRecDepth 100000 in
set_option maxHeartbeats 2000000 in
theorem forward_any (s : ByteArray) (ap ar : Option Addr) (cp cr : Nat) (N : Int) (w : World) (hP : Slg .i64 w (.slice ap (units s).length cp) (plI (units s))) (hR : Slg .i32 w (.slice ar (units s).length cr) (numsI s)) (hs : s.size ≤ 1048576) :
    Calls Tryd.prog 17 #[.string s, .slice ap (units s).length cp, .slice ar (units s).length cr, .int .i64 N] w fun e w' => e = .returned (.bool true) ∧ Below w.heap.size w w' := by
  have hul := units_len s
  have HP := Lib.hid hP
  have HR := Lib.hid hR
  have HNI : Hid (numsI s = (units s).map fun p => (p.2 : Int)) := Lib.hid (by simp [numsI, nums_units, List.map_map, Function.comp_def])
  clear hP hR
  have hfn : ∀ k, Fence.wide.fn k := fun _ => trivial
  have hdep : Fence.wide.depth = none := rfl
  refine (callsIn_wide (n := 0)).1 ?_
  refine callsIn_of_wp_marks Tryd.func17 rfl trivial ?_ rfl
  simp only [Tryd.ntmps17, List.size_toArray, List.length_cons, List.length_nil, Nat.reduceAdd, Nat.reduceSub, Array.replicate_succ, Array.replicate_zero, List.push_toArray, List.append_toArray, List.nil_append, List.cons_append]
  obtain ⟨n, hn⟩ : ∃ n, w.heap.size = n := ⟨_, rfl⟩
  obtain ⟨V1, hV1⟩ : ∃ V1, ((((w.alloc (.cells #[.slice ap (units s).length cp] 23)).alloc (.cells #[.slice ar (units s).length cr] 25)).alloc (.cells #[.int .i64 N] 3)).alloc (.cells #[.bool false] 4)).alloc (.cells #[.int .i64 0] 3) = V1 := ⟨_, rfl⟩
  have hzV : V1.heap.size = n + 5 := by rw [← hV1]; simp [hn]
  have b0 : V1.heap[n]? = some (.cells #[.slice ap (units s).length cp] 23 (0, 0)) := by rw [← hV1]; exact alloc_old (alloc_old (alloc_old (alloc_old (alloc_at hn.symm))))
  have b1 : V1.heap[n + 1]? = some (.cells #[.slice ar (units s).length cr] 25 (0, 0)) := by rw [← hV1]; exact alloc_old (alloc_old (alloc_old (alloc_at (by simp [hn]))))
  have b2 : V1.heap[n + 2]? = some (.cells #[.int .i64 N] 3 (0, 0)) := by rw [← hV1]; exact alloc_old (alloc_old (alloc_at (by simp [hn])))
  have b3 : V1.heap[n + 3]? = some (.cells #[.bool false] 4 (0, 0)) := by rw [← hV1]; exact alloc_old (alloc_at (by simp [hn]))
  have b4 : V1.heap[n + 4]? = some (.cells #[.int .i64 0] 3 (0, 0)) := by rw [← hV1]; exact alloc_at (by simp [hn])
  have hbV : Below n w V1 := by rw [← hV1]; exact (((((Below.refl n w).alloc (by omega) _).alloc (by simp; omega) _).alloc (by simp; omega) _).alloc (by simp; omega) _).alloc (by simp; omega) _
  have HV1 := Lib.hid hV1
  clear hV1
  gi_wp2_with fail
  rw [HV1.out]
  refine (callsIn_wide.2 (utfAll_call s _)).mono ?_
  rintro e w6 ⟨rfl, hw6⟩
  gi_wp2_with fail
  have hk6 : Keep (fun _ => False) V1 w6 := by rw [← hw6]; exact (Keep.refl _ _).alloc _
  have hz6 : w6.heap.size = n + 6 := by rw [← hw6]; simp [hzV]
  have b6 : w6.heap[n + 5]? = some (.cells #[.string s] 9 (0, 0)) := by rw [← hw6]; exact alloc_at hzV.symm
  have v0 := hk6.heap b0 (fun h => h)
  have v1 := hk6.heap b1 (fun h => h)
  have v2 := hk6.heap b2 (fun h => h)
  have v3 := hk6.heap b3 (fun h => h)
  have v4 := hk6.heap b4 (fun h => h)
  have hb6 : Below n w w6 := hbV.trans (hk6.below (X := fun _ => False) (by omega) (fun _ h => h.elim))
  clear hw6 hk6 hbV b0 b1 b2 b3 b4
  refine loop_out (gf := 54) (lb := #[.pointer (some ⟨n + 5, 0, none⟩)]) (encs := enc2) rfl (enters_of Tryd.func54 (by kernel_rfl) rfl)
    (all_iter s (n + 5) w6 (cell_one b6) (by omega)) (fun _ => rfl) (X := fun b => b = n + 3 ∨ b = n + 4)
    (fun b hb => by omega) (fun b hb => by omega) (fun _ _ => rfl) (Nat.le_refl _)
    (fun pre Y W => W.heap[n + 4]? = some (.cells #[.int .i64 (pre.length : Nat)] 3 (0, 0)) ∧ W.heap[n + 3]? = some (.cells #[.bool false] 4 (0, 0)))
    (fun c pre Y W => c = .ret ∧ W.heap[n + 3]? = some (.cells #[.bool true] 4 (0, 0)))
    (fun pre Y W W' hk h => ⟨hk.heap h.1 (fun hx => by have := hx.1; omega), hk.heap h.2 (fun hx => by have := hx.1; omega)⟩)
    (fun c pre Y W W' hk h => ⟨h.1, hk.heap h.2 (fun hx => by have := hx.1; omega)⟩) ⟨v4, v3⟩ ?round ?done ?stop
  case round =>
    rintro l hl pre ⟨at', r⟩ Y W hpre hi hk hY hlt hr
    gi_wp2
    refine ⟨Keep.refl _ _, ?_⟩
    rintro W2 _ hk2 ⟨hp4, hp3⟩ hr2
    obtain ⟨rest, hrest⟩ := hpre
    have hkl : pre.length < (units s).length := by rw [← hrest]; simp
    have e1 : (plI (units s))[pre.length]? = some (at' : Int) := by rw [← hrest]; simp [plI]
    have e2 : (numsI s)[pre.length]? = some (r : Int) := by rw [HNI.out, ← hrest]; simp
    have hB2 : Below n w W2 := hb6.trans (hk2.below (by omega) (fun b hb => by omega))
    obtain ⟨A, rfl, q1⟩ := slg_cell HP.out _ _ e1
    obtain ⟨A', rfl, q2⟩ := slg_cell HR.out _ _ e2
    have r1 := (hB2.cell (by have := lt_of_cell q1; omega)).trans q1
    have r2 := (hB2.cell (by have := lt_of_cell q2; omega)).trans q2
    have x0 := cell_one (hk2.heap v0 (by omega))
    have x1 := cell_one (hk2.heap v1 (by omega))
    have x2 := cell_one (hk2.heap v2 (by omega))
    have x3 := cell_one hp3
    have y3 := frozen_one hp3
    have x4 := cell_one hp4
    have y4 := frozen_one hp4
    have HPP := Lib.hid (And.intro hp3 hp4)
    clear hp3 hp4 hr2 hr hi hrest hk hk2 v0 v1 v2 v3 v4 b6 q1 q2 e1 e2 hB2
    generalize (units s).length = R at *
    generalize hpk : pre.length = k at *
    by_cases hN : ((k : Int) + 1) = N
    · have hN' : (((k : Int) + 1) == N) = true := by simpa using hN
      gi_wp2_with fail
      refine ⟨Y, Keep.setCell (X := fun b => (b = n + 3 ∨ b = n + 4) ∨ Y b) (p := ⟨n + 3, 0, none⟩) (Keep.setCell (X := fun b => (b = n + 3 ∨ b = n + 4) ∨ Y b) (p := ⟨n + 4, 0, none⟩) (Keep.refl _ _) (.inl (.inr rfl)) _) (.inl (.inl rfl)) _, fun b h => .inl h, rfl, ?_⟩
      exact set_at (u := .bool true) (set_old (o := 0) (u := .int .i64 N) HPP.out.1 (show n + 3 ≠ n + 4 by omega))
    · have hN' : (((k : Int) + 1) == N) = false := by simpa using hN
      gi_wp2_with fail
      refine ⟨Y, Keep.setCell (X := fun b => (b = n + 3 ∨ b = n + 4) ∨ Y b) (p := ⟨n + 4, 0, none⟩) (Keep.refl _ _) (.inl (.inr rfl)) _, fun b h => .inl h, ?_, set_old HPP.out.1 (by omega)⟩
      have := set_at (u := .int .i64 ((k : Int) + 1)) HPP.out.2
      simpa [hpk] using this
  case done =>
    rintro D Y W hD hDd ⟨hp4, hp3⟩ hY hkW
    have hzW := hkW.size
    have hbW : Below n w W := hb6.trans (hkW.below (by omega) (fun b hb => by omega))
    have x0 := cell_one (hkW.heap v0 (by omega))
    have x3 := cell_one hp3
    have y3 := frozen_one hp3
    have x4 := cell_one hp4
    clear v0 v1 v2 v3 v4 b6 hkW hY
    gi_wp2_with fail
    refine leaves_marks (Ds := [D]) (by simp) (fun D' h => by simp at h; subst h; exact set_old hDd (by omega)) (fun W' hk' => ?_)
    refine ⟨_, results_cell_one (g := n + 3) rfl _ _ _ rfl (cell_one (hk'.heap (set_at (u := .bool true) hp3) (fun h => by simp at h; omega))) Tryd.isAgg4, rfl, ?_⟩
    rw [hn]
    exact (hbW.setCell (by simp only; omega) _).trans (hk'.below (by simp; omega) (fun b h => by simp at h; omega))
  case stop =>
    rintro D c pre Y W hD hDd hpre ⟨rfl, hp3⟩ hY hkW
    have hzW := hkW.size
    have hbW : Below n w W := hb6.trans (hkW.below (by omega) (fun b hb => by omega))
    clear v0 v1 v2 v3 v4 b6 hkW hY
    gi_wp2_with fail
    refine leaves_marks (Ds := [D]) (by simp) (fun D' h => by simp at h; subst h; exact hDd) (fun W' hk' => ?_)
    refine ⟨_, results_cell_one (g := n + 3) rfl _ _ _ rfl (cell_one (hk'.heap hp3 (fun h => by simp at h; omega))) Tryd.isAgg4, rfl, ?_⟩
    rw [hn]
    exact hbW.trans (hk'.below (by omega) (fun b h => by simp at h; omega))
set_option maxRecDepth 100000 in
set_option maxHeartbeats 2000000 in
theorem backward_any (s : ByteArray) (ap ar : Option Addr) (cp cr : Nat) (N : Int) (w : World) (hP : Slg .i64 w (.slice ap (units s).length cp) (plI (units s))) (hR : Slg .i32 w (.slice ar (units s).length cr) (numsI s)) (hs : s.size ≤ 1048576) (hT : Lib.Utf8Tabs 1 2 w) (h2 : 3 ≤ w.heap.size) :
    Calls Tryd.prog 18 #[.string s, .slice ap (units s).length cp, .slice ar (units s).length cr, .int .i64 N] w fun e w' => e = .returned (.bool true) ∧ Below w.heap.size w w' := by
  have hul := units_len s
  have HP := Lib.hid hP
  have HR := Lib.hid hR
  have HNI : Hid (numsI s = (units s).map fun p => (p.2 : Int)) := Lib.hid (by simp [numsI, nums_units, List.map_map, Function.comp_def])
  have HT := Lib.hid hT
  clear hP hR hT
  have hfn : ∀ k, Fence.wide.fn k := fun _ => trivial
  have hdep : Fence.wide.depth = none := rfl
  refine (callsIn_wide (n := 0)).1 ?_
  refine callsIn_of_wp_marks Tryd.func18 rfl trivial ?_ rfl
  simp only [Tryd.ntmps18, List.size_toArray, List.length_cons, List.length_nil, Nat.reduceAdd, Nat.reduceSub, Array.replicate_succ, Array.replicate_zero, List.push_toArray, List.append_toArray, List.nil_append, List.cons_append]
  obtain ⟨n, hn⟩ : ∃ n, w.heap.size = n := ⟨_, rfl⟩
  have h2n : 3 ≤ n := by omega
  obtain ⟨V1, hV1⟩ : ∃ V1, ((((w.alloc (.cells #[.slice ap (units s).length cp] 23)).alloc (.cells #[.slice ar (units s).length cr] 25)).alloc (.cells #[.int .i64 N] 3)).alloc (.cells #[.bool false] 4)).alloc (.cells #[.int .i64 ((units s).length : Nat)] 3) = V1 := ⟨_, rfl⟩
  have hzV : V1.heap.size = n + 5 := by rw [← hV1]; simp [hn]
  have b0 : V1.heap[n]? = some (.cells #[.slice ap (units s).length cp] 23 (0, 0)) := by rw [← hV1]; exact alloc_old (alloc_old (alloc_old (alloc_old (alloc_at hn.symm))))
  have b1 : V1.heap[n + 1]? = some (.cells #[.slice ar (units s).length cr] 25 (0, 0)) := by rw [← hV1]; exact alloc_old (alloc_old (alloc_old (alloc_at (by simp [hn]))))
  have b2 : V1.heap[n + 2]? = some (.cells #[.int .i64 N] 3 (0, 0)) := by rw [← hV1]; exact alloc_old (alloc_old (alloc_at (by simp [hn])))
  have b3 : V1.heap[n + 3]? = some (.cells #[.bool false] 4 (0, 0)) := by rw [← hV1]; exact alloc_old (alloc_at (by simp [hn]))
  have b4 : V1.heap[n + 4]? = some (.cells #[.int .i64 ((units s).length : Nat)] 3 (0, 0)) := by rw [← hV1]; exact alloc_at (by simp [hn])
  have hbV : Below n w V1 := by rw [← hV1]; exact (((((Below.refl n w).alloc (by omega) _).alloc (by simp; omega) _).alloc (by simp; omega) _).alloc (by simp; omega) _).alloc (by simp; omega) _
  obtain ⟨V0, hV0⟩ : ∃ V0, (((w.alloc (.cells #[.slice ap (units s).length cp] 23)).alloc (.cells #[.slice ar (units s).length cr] 25)).alloc (.cells #[.int .i64 N] 3)).alloc (.cells #[.bool false] 4) = V0 := ⟨_, rfl⟩
  have c0 : V0.cell? ⟨n, 0, none⟩ = some (.slice ap (units s).length cp) := by rw [← hV0]; exact cell_one (alloc_old (alloc_old (alloc_old (alloc_at hn.symm))))
  rw [← hV0] at c0
  clear hV0
  have HV1 := Lib.hid hV1
  clear hV1
  gi_wp2_with fail
  rw [HV1.out]
  refine (callsIn_wide.2 (utfBack_call s _)).mono ?_
  rintro e w6 ⟨rfl, hw6⟩
  gi_wp2_with fail
  have hk6 : Keep (fun _ => False) V1 w6 := by rw [← hw6]; exact (Keep.refl _ _).alloc _
  have hz6 : w6.heap.size = n + 6 := by rw [← hw6]; simp [hzV]
  have b6 : w6.heap[n + 5]? = some (.cells #[.string s] 9 (0, 0)) := by rw [← hw6]; exact alloc_at hzV.symm
  have v0 := hk6.heap b0 (fun h => h)
  have v1 := hk6.heap b1 (fun h => h)
  have v2 := hk6.heap b2 (fun h => h)
  have v3 := hk6.heap b3 (fun h => h)
  have v4 := hk6.heap b4 (fun h => h)
  have hb6 : Below n w w6 := hbV.trans (hk6.below (X := fun _ => False) (by omega) (fun _ h => h.elim))
  have HT6 := Lib.hid (tabs_below HT.out h2 (by rw [hn]; exact hb6))
  clear hw6 hk6 hbV b0 b1 b2 b3 b4 c0
  refine loop_out (gf := 55) (lb := #[.pointer (some ⟨n + 5, 0, none⟩)]) (encs := enc2) rfl (enters_of Tryd.func55 (by kernel_rfl) rfl)
    (back_iter s (n + 5) w6 (cell_one b6) (by omega) HT6.out (by omega)) (fun _ => rfl) (X := fun b => b = n + 3 ∨ b = n + 4)
    (fun b hb => by omega) (fun b hb => by omega) (fun _ _ => rfl) (Nat.le_refl _)
    (fun pre Y W => (∃ kk : Nat, kk + pre.length = (units s).length ∧ W.heap[n + 4]? = some (.cells #[.int .i64 (kk : Nat)] 3 (0, 0))) ∧ W.heap[n + 3]? = some (.cells #[.bool false] 4 (0, 0)))
    (fun c pre Y W => c = .ret ∧ W.heap[n + 3]? = some (.cells #[.bool true] 4 (0, 0)))
    (fun pre Y W W' hk h => by obtain ⟨⟨kk, h0, h1⟩, h2⟩ := h; exact ⟨⟨kk, h0, hk.heap h1 (fun hx => by have := hx.1; omega)⟩, hk.heap h2 (fun hx => by have := hx.1; omega)⟩)
    (fun c pre Y W W' hk h => ⟨h.1, hk.heap h.2 (fun hx => by have := hx.1; omega)⟩) ⟨⟨_, rfl, v4⟩, v3⟩ ?round ?done ?stop
  case round =>
    rintro l hl pre ⟨at', r⟩ Y W hpre hi hk hY hlt hr
    gi_wp2
    refine ⟨Keep.refl _ _, ?_⟩
    rintro W2 _ hk2 ⟨⟨kk, hkk, hp4⟩, hp3⟩ hr2
    obtain ⟨rest, hrest⟩ := hpre
    have hU : units s = rest.reverse ++ (at', r) :: pre.reverse := by
      rw [← List.reverse_reverse (units s), ← hrest]; simp
    obtain ⟨j, hj⟩ : ∃ j, rest.length = j := ⟨_, rfl⟩
    have hRl : (units s).length = j + 1 + pre.length := by rw [hU]; simp; omega
    obtain rfl : kk = j + 1 := by omega
    have hjR : j < (units s).length := by omega
    have e1 : (plI (units s))[j]? = some (at' : Int) := by rw [hU]; simp [plI, hj]
    have e2 : (numsI s)[j]? = some (r : Int) := by rw [HNI.out, hU]; simp [hj]
    have hB2 : Below n w W2 := hb6.trans (hk2.below (by omega) (fun b hb => by omega))
    obtain ⟨A, rfl, q1⟩ := slg_cell HP.out _ _ e1
    obtain ⟨A', rfl, q2⟩ := slg_cell HR.out _ _ e2
    have r1 := (hB2.cell (by have := lt_of_cell q1; omega)).trans q1
    have r2 := (hB2.cell (by have := lt_of_cell q2; omega)).trans q2
    have x0 := cell_one (hk2.heap v0 (by omega))
    have x1 := cell_one (hk2.heap v1 (by omega))
    have x2 := cell_one (hk2.heap v2 (by omega))
    have x3 := cell_one hp3
    have y3 := frozen_one hp3
    have x4 : W2.cell? ⟨n + 4, 0, none⟩ = some (.int .i64 ((j : Int) + 1)) := by have := cell_one hp4; simpa using this
    have y4 := frozen_one hp4
    have HPP := Lib.hid (And.intro hp3 (And.intro hp4 (And.intro hkk hRl)))
    have hj0 : (((j : Int) + 1) == 0) = false := by simp; omega
    clear hp3 hp4 hr2 hr hi hrest hk hk2 v0 v1 v2 v3 v4 b6 q1 q2 e1 e2 hB2 hU hj hkk hRl
    generalize (units s).length = R at *
    by_cases hN : ((R : Int) - j) = N
    · have hN' : (((R : Int) - j) == N) = true := by simpa using hN
      have HN := Lib.hid hN
      clear hN
      gi_wp2_with fail
      refine ⟨Y, Keep.setCell (X := fun b => (b = n + 3 ∨ b = n + 4) ∨ Y b) (p := ⟨n + 3, 0, none⟩) (Keep.setCell (X := fun b => (b = n + 3 ∨ b = n + 4) ∨ Y b) (p := ⟨n + 4, 0, none⟩) (Keep.refl _ _) (.inl (.inr rfl)) _) (.inl (.inl rfl)) _, fun b h => .inl h, rfl, ?_⟩
      exact set_at (u := .bool true) (set_old (o := 0) (u := .int .i64 (j : Int)) HPP.out.1 (show n + 3 ≠ n + 4 by omega))
    · have hN' : (((R : Int) - j) == N) = false := by simpa using hN
      have HN := Lib.hid hN
      clear hN
      gi_wp2_with fail
      refine ⟨Y, Keep.setCell (X := fun b => (b = n + 3 ∨ b = n + 4) ∨ Y b) (p := ⟨n + 4, 0, none⟩) (Keep.refl _ _) (.inl (.inr rfl)) _, fun b h => .inl h, ⟨j, ?_, set_at (u := .int .i64 (j : Int)) HPP.out.2.1⟩, set_old HPP.out.1 (by omega)⟩
      have := HPP.out.2.2.2
      simp only [List.length_append, List.length_cons, List.length_nil]; omega
  case done =>
    rintro D Y W hD hDd ⟨⟨kk, hkk, hp4⟩, hp3⟩ hY hkW
    obtain rfl : kk = 0 := by rw [List.length_reverse] at hkk; omega
    have hzW := hkW.size
    have hbW : Below n w W := hb6.trans (hkW.below (by omega) (fun b hb => by omega))
    have x0 := cell_one (hkW.heap v0 (by omega))
    have x3 := cell_one hp3
    have y3 := frozen_one hp3
    have x4 := cell_one hp4
    clear v0 v1 v2 v3 v4 b6 hkW hY
    gi_wp2_with fail
    refine leaves_marks (Ds := [D]) (by simp) (fun D' h => by simp at h; subst h; exact set_old hDd (by omega)) (fun W' hk' => ?_)
    refine ⟨_, results_cell_one (g := n + 3) rfl _ _ _ rfl (cell_one (hk'.heap (set_at (u := .bool true) hp3) (fun h => by simp at h; omega))) Tryd.isAgg4, rfl, ?_⟩
    rw [hn]
    exact (hbW.setCell (by simp only; omega) _).trans (hk'.below (by simp; omega) (fun b h => by simp at h; omega))
  case stop =>
    rintro D c pre Y W hD hDd hpre ⟨rfl, hp3⟩ hY hkW
    have hzW := hkW.size
    have hbW : Below n w W := hb6.trans (hkW.below (by omega) (fun b hb => by omega))
    clear v0 v1 v2 v3 v4 b6 hkW hY
    gi_wp2_with fail
    refine leaves_marks (Ds := [D]) (by simp) (fun D' h => by simp at h; subst h; exact hDd) (fun W' hk' => ?_)
    refine ⟨_, results_cell_one (g := n + 3) rfl _ _ _ rfl (cell_one (hk'.heap hp3 (fun h => by simp at h; omega))) Tryd.isAgg4, rfl, ?_⟩
    rw [hn]
    exact hbW.trans (hk'.below (by omega) (fun b h => by simp at h; omega))
end Go.Proofs.YthcfpmjkfnoofaaDoor
