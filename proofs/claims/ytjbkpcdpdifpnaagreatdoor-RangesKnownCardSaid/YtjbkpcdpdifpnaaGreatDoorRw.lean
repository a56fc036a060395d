/- The law's own: first. -/
import Derived.Test.YtjbkpcdpdifpnaaGreatDoorRv
namespace Go.Proofs.YtjbkpcdpdifpnaaGreatDoor
open Go Go.RowKit Go.Kt Go.Kt.Rg
attribute [local go_sem] Oper.semAt_some

set_option maxRecDepth 100000 in
set_option maxHeartbeats 2000000 in
theorem first_any (l : List Run) (b N : Nat) (w : World) (h : SetAt l b w) (hc : Canon l) (hT : PTab w) (hN9 : N ≤ 2199023255552) :
    Calls Tryz.prog 52 #[ptrV b, .int .i64 (N : Nat)] w fun e w' => ∃ ao m cp, e = .returned (.slice ao m cp) ∧ m = ((ptsL l).take N).length ∧ OwnS (fun b => w.heap.size ≤ b) 21 1 (.slice ao m cp) m (ptsV ((ptsL l).take N)) w' ∧ Below w.heap.size w w' := by
  obtain ⟨hbl, g, hg, ao2, cap2, hrow⟩ := set_row h
  have hptn := hT.lt
  obtain ⟨w1, hw1⟩ : ∃ w1, w.alloc (.cells #[.int .i64 (N : Nat)] 3) = w1 := ⟨_, rfl⟩
  obtain ⟨w2, hw2⟩ : ∃ w2, w1.alloc (.cells #[.slice none 0 0] 23) = w2 := ⟨_, rfl⟩
  have hb1 : Below w.heap.size w w1 := by rw [← hw1]; exact (Below.refl _ _).alloc (Nat.le_refl _) _
  have hb2 : Below w.heap.size w w2 := by rw [← hw2]; exact hb1.alloc hb1.size _
  have hrow3 := fun V (hV : Below w.heap.size w V) => hrow V hV
  have hT3 := fun V (hV : Below w.heap.size w V) => hT.next hV
  obtain ⟨n, hn⟩ : ∃ n, w.heap.size = n := ⟨_, rfl⟩
  rw [hn] at hbl hg hptn hb1 hb2 hrow3 hT3
  have hz1 : w1.heap.size = n + 1 := by rw [← hw1]; simp [hn]
  have hz2 : w2.heap.size = n + 2 := by rw [← hw2]; simp [hz1]
  have i1 : w1.heap[n]? = some (.cells #[.int .i64 (N : Nat)] 3 (0, 0)) := by rw [← hw1]; exact alloc_at hn.symm
  have i2 : w2.heap[n]? = some (.cells #[.int .i64 (N : Nat)] 3 (0, 0)) := by rw [← hw2]; exact alloc_old i1
  have j2 : w2.heap[n + 1]? = some (.cells #[.slice none 0 0] 23 (0, 0)) := by rw [← hw2]; exact alloc_at hz1.symm
  have HW := Lib.hid (And.intro hw1 hw2)
  have HZ := Lib.hid (And.intro hz2 (And.intro i2 (And.intro j2 hb2)))
  have HR := Lib.hid hrow3
  have HT := Lib.hid hT3
  have HC := Lib.hid hc
  have HN := Lib.hid hn
  have hfn : ∀ k, Fence.wide.fn k := fun _ => trivial
  have hdep : Fence.wide.depth = none := rfl
  clear h hT hrow hw1 hw2 hz1 hz2 i1 i2 j2 hb1 hb2 hrow3 hT3 hc
  rw [hn]
  refine (callsIn_wide (n := 0)).1 ?_
  refine callsIn_of_wp_marks Tryz.func52 rfl trivial ?_ rfl
  simp only [Tryz.ntmps52, List.size_toArray, List.length_cons, List.length_nil, Nat.reduceAdd, Nat.reduceSub, Array.replicate_succ, Array.replicate_zero, List.push_toArray, List.append_toArray, List.nil_append, List.cons_append]
  gi_wp2_with fail
  rw [HW.out.1, HW.out.2]
  gi_wp2_with fail
  refine (callsIn_wide.2 (rall_call b w2)).mono ?_
  rintro e w3 ⟨rfl, hw3⟩
  have hz2 := HZ.out.1
  have hz3 : w3.heap.size = n + 3 := by rw [← hw3]; simp [hz2]
  have hb3' : Below (n + 2) w2 w3 := by rw [← hw3]; exact (Below.refl _ _).alloc (by omega) _
  have hb3 : Below n w w3 := HZ.out.2.2.2.trans (hb3'.mono (by omega))
  have c3 : w3.cell? ⟨n + 2, 0, none⟩ = some (ptrV b) := by rw [← hw3, Lib.cell_of_heap (alloc_at hz2.symm)]; rfl
  have i3 : w3.heap[n]? = some (.cells #[.int .i64 (N : Nat)] 3 (0, 0)) := (hb3'.block n (by omega)).trans HZ.out.2.1
  have j3 : w3.heap[n + 1]? = some (.cells #[.slice none 0 0] 23 (0, 0)) := (hb3'.block (n + 1) (by omega)).trans HZ.out.2.2.1
  have hit := rall_iter l (n + 2) b g w3 c3 ⟨ao2, cap2, HR.out w3 hb3⟩ HC.out (HT.out w3 hb3)
  have HIT := Lib.hid hit
  have H3 := Lib.hid (And.intro hb3 (And.intro i3 j3))
  rw [hz2]
  clear hw3 hb3' hb3 c3 i3 j3 hit hz2
  gi_wp2_with fail
  refine loop_out2 (gf := 88) (lb := #[.pointer (some ⟨n + 2, 0, none⟩)]) (encs := encPt) rfl enters_all
    HIT.out (fun _ => rfl) (X := fun x => x = n + 1)
    (fun x hx => by omega) (fun x hx => ?nd) (fun _ _ => rfl) (Nat.le_refl _)
    (fun pre Y W => ∃ ao cv, W.heap[n + 1]? = some (.cells #[.slice ao pre.length cv] 23 (0, 0)) ∧ pre.length ≤ N ∧ OwnS Y 21 1 (.slice ao pre.length cv) pre.length (ptsV pre) W)
    (fun c pre Y W => c = .exit 0 ∧ ∃ ao cv, W.heap[n + 1]? = some (.cells #[.slice ao N cv] 23 (0, 0)) ∧ N ≤ pre.length ∧ OwnS Y 21 1 (.slice ao N cv) N (ptsV (pre.take N)) W)
    (fun pre Y W W' hk h => by
      obtain ⟨ao, cv, h1, h2, h3⟩ := h
      exact ⟨ao, cv, hk.heap h1 (fun hx => by have := hx.1; omega), h2, h3.keep hk (fun b hx hy => hx.2 hy)⟩)
    (fun pre Y W h => by
      obtain ⟨ao, cv, h1, h2, h3⟩ := h
      exact ⟨ao, cv, h1, h2, own_bx h3⟩)
    (fun c pre Y W W' hk h => by
      obtain ⟨hc, ao, cv, h1, h2, h3⟩ := h
      exact ⟨hc, ao, cv, hk.heap h1 (fun hx => by have := hx.1; omega), h2, h3.keep hk (fun b hx hy => hx.2 hy)⟩)
    ⟨none, 0, H3.out.2.2, Nat.zero_le _, own_nil _ _ _ _⟩ ?round ?done ?stop
  case nd =>
    have hh : x ≠ n + 1 ∧ x < w3.heap.size := by rcases hx with rfl | rfl | rfl | rfl <;> omega
    exact ⟨hh.1, hh.2⟩
  case round =>
    rintro l' hl' pre x Y W hpre hi2 hk hY hlt2 hr
    simp only [encPt]
    have HY := Lib.hid hY
    clear hi2 hY hr
    gi_wp2
    refine ⟨Keep.refl _ _, ?_⟩
    rintro W2 hk1 hk2 ⟨ao, cv, hv, hmN, hown⟩ hr2
    have hi := hk2.heap H3.out.2.1 (by show ¬ n = n + 1; omega)
    have k0 := cell_one hi
    have k1 := cell_one hv
    obtain ⟨k, hkk⟩ : ∃ k, pre.length = k := ⟨_, rfl⟩
    rw [hkk] at k1 hmN hown hv
    have HKK := Lib.hid hkk
    have hzw : n + 3 ≤ W2.heap.size := by rw [← hz3]; exact hk2.size
    clear hkk hk hk1 hi
    by_cases he : k = N
    · have hq : ((k : Int) == (N : Int)) = true := by rw [he]; simp
      have HI := Lib.hid (And.intro hv hown)
      have HE := Lib.hid he
      clear hv hown hk2 hr2 hpre he
      gi_wp2_with fail
      refine ⟨Y, Keep.refl _ _, fun b h => .inl h, rfl, ao, cv, ?_, ?_, ?_⟩
      · rw [← HE.out]; exact HI.out.1
      · rw [List.length_append, HKK.out, HE.out]; omega
      · have : (pre ++ [x]).take N = pre := by rw [← HE.out, ← HKK.out, List.take_append_of_le_length (Nat.le_refl _), List.take_length]
        rw [this, ← HE.out]
        exact HI.out.2
    · have hq : ((k : Int) == (N : Int)) = false := by rw [beq_eq_false_iff_ne]; omega
      have hYY := HY.out
      have hYn : ∀ b, Y b → b ≠ n + 1 := fun b hb => by have := (hYY b hb).1; omega
      obtain ⟨v, hvv⟩ : ∃ v, Value.slice ao k cv = v := ⟨_, rfl⟩
      obtain ⟨g3, cap3, w4, hrun, hown4, hk4, hg4, hz4⟩ := append_x (P := Tryz.prog) W2 23 21 Tryz.underlying23 tinfo21 rfl (by omega) hown [.int .i32 x] rfl
        (by intro u hu; simp at hu; subst hu; rfl) (by unfold maxLen; omega) (by omega)
      have hvY : ∀ b, (Value.slice ao k cv).ownBlock = some b → Y b := hown.2
      have hg4Y : Y g3 ∨ W2.heap.size ≤ g3 := by
        rcases hg4 with hx | hx
        · exact .inl (hvY g3 hx)
        · exact .inr (by omega)
      have hgn : g3 ≠ n + 1 := by
        rcases hg4Y with hx | hx
        · exact hYn g3 hx
        · omega
      have hv4 : w4.heap[n + 1]? = some (.cells #[.slice ao k cv] 23 (0, 0)) := hk4.heap hv (fun hx => hYn _ (hvY _ hx) rfl)
      obtain ⟨w5, hw5⟩ : ∃ w5, w4.setCell ⟨n + 1, 0, none⟩ (.slice (some ⟨g3, 0, none⟩) (k + 1) cap3) = w5 := ⟨_, rfl⟩
      have hk5 : Keep (fun b => b = n + 1) w4 w5 := by rw [← hw5]; exact Keep.setCell (X := fun b => b = n + 1) (p := ⟨n + 1, 0, none⟩) (Keep.refl _ _) rfl _
      have hv5 : w5.heap[n + 1]? = some (.cells #[.slice (some ⟨g3, 0, none⟩) (k + 1) cap3] 23 (0, 0)) := by rw [← hw5]; exact set_at hv4
      have hown5 := hown4.keep hk5 (fun b hb hy => hgn (by rw [← hy, hb]))
      have k3 := cell_one hv4
      have f3 := frozen_one hv4
      have hfin : Kt.Left (fun b => b = n + 1) Y (fun pre Y W => ∃ ao cv, W.heap[n + 1]? = some (.cells #[.slice ao pre.length cv] 23 (0, 0)) ∧ pre.length ≤ N ∧ OwnS Y 21 1 (.slice ao pre.length cv) pre.length (ptsV pre) W) (pre ++ [x]) W2 w5 := by
        have e1 : (pre ++ [x]).length = k + 1 := by rw [List.length_append, HKK.out]; rfl
        refine ⟨fun b => b = g3, ?_, ?_, some ⟨g3, 0, none⟩, cap3, ?_, ?_, ?_⟩
        · exact (hk4.weaken (Y := fun b => b = n + 1 ∨ Y b) (fun b _ hx => .inr (hvY b hx))).trans (hk5.weaken fun b _ hx => .inl hx)
        · rintro b rfl
          exact hg4Y
        · rw [e1]; exact hv5
        · rw [e1]; omega
        · rw [e1, show ptsV (pre ++ [x]) = ptsV pre ++ [.int .i32 x] by unfold ptsV; rw [List.map_append]; rfl]
          exact hown5
      have HF := Lib.hid hfin
      have HRN := Lib.hid hrun
      have HW5 := Lib.hid hw5
      clear hfin hrun hw5 hown hown4 hown5 hk4 hk5 hg4 hvY hv hv4 hv5 hg4Y hYY hYn hr2 hgn hk2 hpre he hvv
      gi_wp2_with (first | (refine wpListIn_append_eq (o := ⟨some 17, _, _, _, _, _⟩) (by rfl) (by rfl) (by rfl) (by rfl) HRN.out ?_))
      rw [HW5.out]
      exact HF.out
  case done =>
    rintro D Y W hD hDd ⟨ao, cv, hv, hmN, hown⟩ hY hkW
    have b2 := cell_one hv
    have HF := Lib.hid (And.intro hown (And.intro hkW (And.intro hY hmN)))
    have HDD := Lib.hid hDd
    have HD2 := Lib.hid hD
    clear hown hkW hY hDd hv hmN hD
    gi_wp2
    refine leaves_marks (Ds := [D]) (by simp) (fun D' h => by simp at h; subst h; exact HDD.out) (fun W' hk' => ⟨_, results_tmp rfl _ _ _, ?_⟩)
    obtain ⟨ho, hkk, hY, hmN⟩ := HF.out
    have hD := HD2.out
    have hk' : Keep (fun b => b = D) W W' := hk'.weaken fun b _ hb => by simpa using hb
    have ho2 := ho.keep hk' (fun b hb hy => (hY b hy).2 hb)
    have e : (ptsL l).take N = ptsL l := List.take_of_length_le hmN
    refine ⟨ao, _, cv, rfl, by rw [e], ?_, ?_⟩
    · rw [e]
      exact ho2.weaken (fun b hy => by have := (hY b hy).1; omega)
    · exact H3.out.1.trans ((hkk.below (n := n) (by omega) (fun b hb => by omega)).trans (hk'.below (by have := hkk.size; omega) (fun b hb => by omega)))
  case stop =>
    rintro D c pre Y W hD hDd hpre ⟨rfl, ao, cv, hv, hmN, hown⟩ hY hkW
    have b2 := cell_one hv
    have HF := Lib.hid (And.intro hown (And.intro hkW (And.intro hY (And.intro hmN hpre))))
    have HDD := Lib.hid hDd
    have HD2 := Lib.hid hD
    clear hown hkW hY hDd hv hmN hD hpre
    gi_wp2
    refine leaves_marks (Ds := [D]) (by simp) (fun D' h => by simp at h; subst h; exact HDD.out) (fun W' hk' => ⟨_, results_tmp rfl _ _ _, ?_⟩)
    obtain ⟨ho, hkk, hY, hmN, hpre⟩ := HF.out
    have hD := HD2.out
    have hk' : Keep (fun b => b = D) W W' := hk'.weaken fun b _ hb => by simpa using hb
    have ho2 := ho.keep hk' (fun b hb hy => (hY b hy).2 hb)
    have e : (ptsL l).take N = pre.take N := take_pre hpre hmN
    refine ⟨ao, _, cv, rfl, by rw [e, List.length_take]; omega, ?_, ?_⟩
    · rw [e]
      exact ho2.weaken (fun b hy => by have := (hY b hy).1; omega)
    · exact H3.out.1.trans ((hkk.below (n := n) (by omega) (fun b hb => by omega)).trans (hk'.below (by have := hkk.size; omega) (fun b hb => by omega)))
end Go.Proofs.YtjbkpcdpdifpnaaGreatDoor
