/- The kit's lists of spans that are lent, and kept. -/
import Derived.Test.YtjbkpcdpdifpnaaGreatDoorCk2
import Derived.Test.YtjbkpcdpdifpnaaGreatDoorRv
import Derived.Test.YtjbkpcdpdifpnaaGreatDoorNt
namespace Go.Proofs.YtjbkpcdpdifpnaaGreatDoor
open Go Go.RowKit Go.Kt Go.Kt.Rg

theorem markSp_any (k i : Int) (w : World) (h0 : 0 ≤ k) (h1 : k ≤ 1000) (h2 : 0 ≤ i) (h3 : i ≤ 4194304) :
    Calls Tryz.prog 94 #[.int .i64 k, .int .i64 i] w fun e w' => e = .returned (.agg #[.int .i32 (-7 - k), .int .i32 (-i - 1)]) ∧ Below w.heap.size w w' := by
  go_enter Tryz.func94, Tryz.ntmps94
  go_wp2
  (try simp only [Exit.inBlock, Exit.then])
  refine bodyPost_ret (results_cell_row rfl _ _ w.heap.size 27 #[.int .i32 (-7 - k), .int .i32 (-i - 1)] (0, 0) _ rfl (alloc_at rfl) Tryz.underlying27 rfl (by kernel_rfl)) rfl ?_
  exact ⟨rfl, (Below.refl _ _).alloc (Nat.le_refl _) _⟩
theorem markSp_some (i : Int) (w : World) (_h0 : -9223372036854775808 ≤ i) (_h1 : i ≤ 9223372036854775807) :
    Calls Tryz.prog 94 #[.int .i64 90, .int .i64 i] w fun e w' => ∃ x y, e = .returned (.agg #[.int .i32 x, .int .i32 y]) ∧ Below w.heap.size w w' := by
  go_enter Tryz.func94, Tryz.ntmps94
  go_wp2
  (try simp only [Exit.inBlock, Exit.then])
  refine bodyPost_ret (results_cell_row rfl _ _ w.heap.size 27 #[.int .i32 _, .int .i32 _] (0, 0) _ rfl (alloc_at rfl) Tryz.underlying27 rfl (by kernel_rfl)) rfl ?_
  exact ⟨_, _, rfl, (Below.refl _ _).alloc (Nat.le_refl _) _⟩

def marksS (n : Nat) : List (Int × Int) := (List.range n).map fun i : Nat => ((-97 : Int), (-i - 1 : Int))
theorem marksS_succ (n : Nat) : marksS (n + 1) = marksS n ++ [(-97, -(n : Int) - 1)] := by simp [marksS, List.range_succ]
theorem marksS_len (n : Nat) : (marksS n).length = n := by simp [marksS]

set_option maxRecDepth 100000 in
theorem fullSpans_any (v : Value) (l : List (Int × Int)) (w : World) (h : SpA w v l) (hl : l.length ≤ 1099511627776) :
    Calls Tryz.prog 40 #[v] w fun e w' => ∃ ao cap, e = .returned (.slice ao (l.length + 16) cap) ∧ OwnS (fun b => w.heap.size ≤ b) 27 2 (.slice ao (l.length + 16) cap) (l.length + 16) (encSp (l ++ marksS 16)) w' ∧ Below w.heap.size w w' := by
  obtain ⟨aa, ca, rfl, h2⟩ := h
  have H2 := Lib.hid h2
  obtain ⟨n, hn⟩ : ∃ n, l.length = n := ⟨_, rfl⟩
  rw [hn] at hl ⊢
  have HN := Lib.hid hn
  clear h2 hn
  go_enter Tryz.func40, Tryz.ntmps40
  go_wp2_with fail
  go_loopw [3, 4] (fun s x wr => ∃ (k : Nat) (a2 : Option Addr) (c2 : Nat), s = .slice a2 k c2 ∧ x = .int .i64 k ∧ k ≤ n ∧ OwnS (fun b => w.heap.size ≤ b) 27 2 (.slice a2 k c2) k (encSp (l.take k)) wr ∧ Below w.heap.size w wr) (fun _ x _ => n - (RowKit.intOf x).toNat)
  case atStart => exact ⟨0, none, 0, rfl, rfl, by omega, own_nil _ _ _ _, Below.refl _ _⟩
  case round =>
    obtain ⟨k, a2, c2, rfl, rfl, hk, ho, hb⟩ := hrel
    have HI := Lib.hid (And.intro ho hb)
    clear ho hb
    by_cases hlt : k < n
    · have hlt' : (k : Int) < n := by omega
      obtain ⟨x, hx⟩ : ∃ x, l[k]? = some x := ⟨_, List.getElem?_eq_getElem (by rw [HN.out]; exact hlt)⟩
      obtain ⟨a, rfl, hca⟩ : ∃ a : Addr, aa = some a ∧ ∀ (i : Nat) (x : Int × Int), l[i]? = some x → w.cell? (a.add (i * 2)) = some (.int .i32 x.1) ∧ w.cell? (a.add (i * 2 + 1)) = some (.int .i32 x.2) := by
        rcases H2.out with h | h
        · subst h; simp at hx
        · exact h
      have q0 := hca k _ hx
      have HT : Hid (l.take (k + 1) = l.take k ++ [x]) := Lib.hid (by rw [List.take_add_one, hx]; rfl)
      have q1 : wr.cell? (a.add (k * 2)) = some (.int .i32 x.1) := (HI.out.2.cell (lt_of_cell q0.1)).trans q0.1
      have q2 : wr.cell? ⟨(a.add (k * 2)).block, (a.add (k * 2)).off + 1, none⟩ = some (.int .i32 x.2) := by
        rw [show (⟨(a.add (k * 2)).block, (a.add (k * 2)).off + 1, none⟩ : Addr) = (a.add (k * 2)).add 1 from rfl, add_one_more]
        exact (HI.out.2.cell (lt_of_cell q0.2)).trans q0.2
      obtain ⟨g2, cap2, w2, hrun2, hown2, hz2, hk2⟩ := append_spn HI.out.1 (fun y hy => Nat.le_trans HI.out.2.size hy) x (by omega)
      rw [← HT.out] at hown2
      have HRun2 := Lib.hid hrun2
      have HO2 := Lib.hid (And.intro hown2 (HI.out.2.trans (hk2.below HI.out.2.size (fun b hb => HI.out.1.2 b hb))))
      clear hx hca q0 hrun2 hown2 hz2 hk2
      go_wp2_with (at_builtin; refine wpList_append_eq rfl rfl rfl rfl HRun2.out ?_)
      go_roundw
      case rel => exact ⟨k + 1, some ⟨g2, 0, none⟩, cap2, rfl, by go_num, by omega, HO2.out.1, HO2.out.2⟩
      case measure => simp [RowKit.intOf]; omega
    · have hlt' : ¬ (k : Int) < n := by omega
      obtain rfl : k = n := by omega
      have e : l.take k = l := by rw [← HN.out, List.take_length]
      have HE := HI.out
      rw [e] at HE
      have HE2 := Lib.hid HE
      clear HE e
      go_wp2_with fail
      go_loopw [3, 5] (fun o i wr => ∃ (j : Nat) (ao : Option Addr) (cp m : Nat), m = k + j ∧ j ≤ 16 ∧ i = .int .i64 j ∧ o = .slice ao m cp ∧ OwnS (fun b => w.heap.size ≤ b) 27 2 (.slice ao m cp) m (encSp (l ++ marksS j)) wr ∧ Below w.heap.size w wr)
        (fun _ i _ => 16 - (RowKit.intOf i).toNat)
      case atStart => exact ⟨0, a2, c2, _, rfl, by omega, rfl, rfl, by simpa [marksS] using HE2.out.1, HE2.out.2⟩
      case round =>
        clear HE2
        obtain ⟨j, ao, cp, m, hm, hj, rfl, rfl, hown, hb⟩ := hrel
        have HO := Lib.hid (And.intro hown hb)
        have HM := Lib.hid hm
        have hm1 : m ≤ 1099511627792 := by omega
        clear hown hb
        by_cases hlt2 : j < 16
        · have CM := Lib.hid (markSp_any 90 (j : Int) wr (by omega) (by omega) (by omega) (by omega))
          clear hm
          go_wp2_with fail
          refine CM.out.mono ?_
          rintro e w1 ⟨rfl, hb1⟩
          have hb2 := HO.out.2.trans (hb1.mono HO.out.2.size)
          have hown1 := own_nx HO.out.1 hb1
          obtain ⟨g2, cap2, w2, hrun2, hown2, hz2, hk2⟩ := append_spn hown1 (fun y hy => Nat.le_trans hb2.size hy) (-97, -(j : Int) - 1) (by omega)
          have HRun2 := Lib.hid hrun2
          have HO2 := Lib.hid (And.intro hown2 (hb2.trans (hk2.below hb2.size (fun b hb => hown1.2 b hb))))
          clear hrun2 hown2 hz2 hk2 hb2 hown1 hb1
          go_wp2_with (at_builtin; refine wpList_append_eq rfl rfl rfl rfl HRun2.out ?_)
          go_roundw
          case rel => exact ⟨j + 1, some ⟨g2, 0, none⟩, cap2, m + 1, by have := HM.out; omega, by omega, by go_num, rfl, by rw [marksS_succ, ← List.append_assoc]; exact HO2.out.1, HO2.out.2⟩
          case measure => simp [RowKit.intOf]; omega
        · obtain rfl : j = 16 := by omega
          subst hm
          go_wp2_with fail
          go_ret
          exact ⟨ao, cp, rfl, HO.out.1, HO.out.2⟩

theorem lentSpans_any (v : Value) (l : List (Int × Int)) (w : World) (h : SpA w v l) (hl : l.length ≤ 1099511627776) :
    Calls Tryz.prog 14 #[v] w fun e w' => ∃ g cap, e = .returned (.slice (some ⟨g, 0, none⟩) l.length cap) ∧ l.length + 16 ≤ cap ∧ cap ≤ 9223372036854775807 ∧ OwnS (fun b => w.heap.size ≤ b) 27 2 (.slice (some ⟨g, 0, none⟩) (l.length + 16) cap) (l.length + 16) (encSp (l ++ marksS 16)) w' ∧ Below w.heap.size w w' := by
  have C := Lib.hid (fullSpans_any v l w h hl)
  obtain ⟨av, cv, rfl, h⟩ := h
  clear h
  go_enter Tryz.func14, Tryz.ntmps14
  go_wp2_with fail
  refine (C.out).mono ?_
  rintro e w1 ⟨ao, cap, rfl, hown, hb⟩
  obtain ⟨g, rfl, hcap, hcm⟩ : ∃ g, ao = some ⟨g, 0, none⟩ ∧ l.length + 16 ≤ cap ∧ cap ≤ maxLen := by
    rcases hown.1.2 with ⟨h, _⟩ | ⟨g, c, cur, h, _, _, h1, h2, _⟩
    · cases h
    · injection h with e1 e2 e3
      subst e3
      exact ⟨g, e1, h1, h2⟩
  unfold maxLen at hcm
  have HO := Lib.hid hown
  clear hown
  go_wp2
  go_ret
  exact ⟨g, cap, rfl, hcap, hcm, HO.out, hb⟩

set_option maxRecDepth 100000 in
set_option maxHeartbeats 2000000 in
theorem keptFullSp_any (g n cap : Nat) (v : Value) (l : List (Int × Int)) (w : World) (h1 : SpG w (.slice (some ⟨g, 0, none⟩) n cap) (l ++ marksS 16)) (hn : n = l.length + 16) (h2 : SpA w v l) (hl : l.length ≤ 1099511627776) (hr : Runy l) :
    Calls Tryz.prog 43 #[.slice (some ⟨g, 0, none⟩) n cap, v] w fun e w' => e = .returned (.bool true) ∧ Below w.heap.size w w' := by
  obtain ⟨av, cv, rfl, h2⟩ := h2
  obtain ⟨ao', cap', he, h1⟩ := h1
  injection he with e1 e2 e3
  subst e1; subst e3
  have hcs : ∀ (i : Nat) (x : Int × Int), (l ++ marksS 16)[i]? = some x → w.cell? ⟨g, i * 2, none⟩ = some (.int .i32 x.1) ∧ w.cell? ⟨g, i * 2 + 1, none⟩ = some (.int .i32 x.2) := by
    rcases h1 with h | ⟨g', off, e, h⟩
    · have := congrArg List.length h; simp [marksS_len] at this
    · injection e with e
      injection e with e4 e5
      subst e4
      subst e5
      exact fun i x hx => by simpa using h i x hx
  have H1 := Lib.hid hcs
  have H2 := Lib.hid h2
  obtain ⟨m, hm⟩ : ∃ m, l.length = m := ⟨_, rfl⟩
  rw [hm] at hn hl ⊢
  have HM := Lib.hid hm
  have hne : ((n : Int) != (m : Int) + 16) = false := by subst hn; simp
  have HN := Lib.hid hn
  have hn1 : n ≤ 1099511627792 := by omega
  clear h1 hcs h2 e2 hn hm
  go_enter Tryz.func43, Tryz.ntmps43
  go_wp2
  go_loopw [5] (fun i wr => ∃ k : Nat, k ≤ n ∧ i = .int .i64 k ∧ Below w.heap.size w wr) (fun i _ => n - (RowKit.intOf i).toNat)
  case atStart => exact ⟨0, by omega, rfl, Below.refl _ _⟩
  case round =>
    obtain ⟨k, hk, rfl, hb⟩ := hrel
    have HB := Lib.hid hb
    clear hb
    by_cases hlt : k < n
    · have hlt' : (k : Int) < n := by omega
      obtain ⟨x, hx⟩ : ∃ x, (l ++ marksS 16)[k]? = some x := ⟨(l ++ marksS 16)[k]'(by rw [List.length_append, marksS_len, HM.out]; have := HN.out; omega), List.getElem?_eq_getElem _⟩
      have p1 := H1.out k x hx
      by_cases hin : k < m
      · have hin' : (k : Int) < m := by omega
        obtain ⟨a, rfl, ha⟩ : ∃ a : Addr, av = some a ∧ ∀ (i : Nat) (x : Int × Int), l[i]? = some x → w.cell? (a.add (i * 2)) = some (.int .i32 x.1) ∧ w.cell? (a.add (i * 2 + 1)) = some (.int .i32 x.2) := by
          rcases H2.out with h | h
          · subst h; simp at HM; have := HM.out; omega
          · exact h
        have q0 := ha k x (by rw [← hx, List.getElem?_append_left (by rw [HM.out]; exact hin)])
        have q2 : w.cell? ⟨(a.add (k * 2)).block, (a.add (k * 2)).off + 1, none⟩ = some (.int .i32 x.2) := by
          rw [show (⟨(a.add (k * 2)).block, (a.add (k * 2)).off + 1, none⟩ : Addr) = (a.add (k * 2)).add 1 from rfl, add_one_more]
          exact q0.2
        have HQ := Lib.hid (And.intro q0.1 (And.intro q2 p1))
        have CM := Lib.hid (markSp_some ((k : Int) - m) wr (by omega) (by omega))
        clear ha hx q0 q2 p1
        go_wp2_with fail
        refine CM.out.mono ?_
        rintro e w1 ⟨y1, y2, rfl, hb1⟩
        have hb2 := HB.out.trans (hb1.mono HB.out.size)
        obtain ⟨w2, hw2⟩ : ∃ W, w1.alloc (.cells #[.int .i32 y1, .int .i32 y2] 27) = W := ⟨_, rfl⟩
        have hn2 : w2.heap[w1.heap.size]? = some (.cells #[.int .i32 y1, .int .i32 y2] 27 (0, 0)) := by rw [← hw2]; exact alloc_at rfl
        have hb3 : Below w.heap.size w w2 := by rw [← hw2]; exact hb2.alloc hb2.size _
        have q1 : (w1.alloc (.cells #[.int .i32 y1, .int .i32 y2] 27)).cell? (a.add (k * 2)) = some (.int .i32 x.1) := by rw [hw2]; exact (hb3.cell (lt_of_cell HQ.out.1)).trans HQ.out.1
        have q2 : (w1.alloc (.cells #[.int .i32 y1, .int .i32 y2] 27)).cell? ⟨(a.add (k * 2)).block, (a.add (k * 2)).off + 1, none⟩ = some (.int .i32 x.2) := by rw [hw2]; exact (hb3.cell (lt_of_cell HQ.out.2.1)).trans HQ.out.2.1
        have c0 : (w1.alloc (.cells #[.int .i32 y1, .int .i32 y2] 27)).cell? ⟨w1.heap.size, 0, none⟩ = some (.int .i32 y1) := by rw [hw2]; rw [Lib.cell_of_heap hn2]; rfl
        have c1 : (w1.alloc (.cells #[.int .i32 y1, .int .i32 y2] 27)).cell? ⟨w1.heap.size, 1, none⟩ = some (.int .i32 y2) := by rw [hw2]; rw [Lib.cell_of_heap hn2]; rfl
        have f0 : (w1.alloc (.cells #[.int .i32 y1, .int .i32 y2] 27)).frozen? ⟨w1.heap.size, 0, none⟩ = false := by rw [hw2]; exact Lib.frozen_of_heap hn2 _
        have f1 : (w1.alloc (.cells #[.int .i32 y1, .int .i32 y2] 27)).frozen? ⟨w1.heap.size, 1, none⟩ = false := by rw [hw2]; exact Lib.frozen_of_heap hn2 _
        have HW2 := Lib.hid hw2
        have HB3 := Lib.hid (And.intro hb2 (And.intro hb2.size hn2))
        clear hb1 hb2 hw2 hn2 hb3
        go_wp2_with fail
        obtain ⟨w3, hw3⟩ : ∃ W, w1.alloc (.cells #[.int .i32 x.1, .int .i32 x.2] 27) = W := ⟨_, rfl⟩
        have hn3 : w3.heap[w1.heap.size]? = some (.cells #[.int .i32 x.1, .int .i32 x.2] 27 (0, 0)) := by rw [← hw3]; exact alloc_at rfl
        have hb3 : Below w.heap.size w w3 := by rw [← hw3]; exact HB3.out.1.alloc HB3.out.1.size _
        rw [hw3]
        have r1 : w3.cell? ⟨g, k * 2, none⟩ = some (.int .i32 x.1) := (hb3.cell (lt_of_cell HQ.out.2.2.1)).trans HQ.out.2.2.1
        have r2 : w3.cell? ⟨g, k * 2 + 1, none⟩ = some (.int .i32 x.2) := (hb3.cell (lt_of_cell HQ.out.2.2.2)).trans HQ.out.2.2.2
        have d0 : w3.cell? ⟨w1.heap.size, 0, none⟩ = some (.int .i32 x.1) := by rw [Lib.cell_of_heap hn3]; rfl
        have d1 : w3.cell? ⟨w1.heap.size, 1, none⟩ = some (.int .i32 x.2) := by rw [Lib.cell_of_heap hn3]; rfl
        have HB4 := Lib.hid hb3
        clear hw3 hn3 hb3
        clear q1 q2 c0 c1 f0 f1 HW2
        go_quiet (fail)
        go_wp2_with fail
        go_roundw
        case rel => exact ⟨k + 1, by omega, by go_num, HB4.out.trans ((below_drewN (Below.refl _ w3) _).mono HB4.out.size)⟩
        case measure => simp [RowKit.intOf]; omega
      · have hin' : ¬ (k : Int) < m := by omega
        have hx2 : x = (-97, -((k : Int) - m) - 1) := by
          rw [List.getElem?_append_right (by rw [HM.out]; omega)] at hx
          have h16 : k - m < 16 := by have := HN.out; omega
          rw [HM.out] at hx
          simp [marksS, h16] at hx
          rw [← hx]
          congr 1
          omega
        have h16 : (k : Int) - m < 16 := by have := HN.out; omega
        have CM := Lib.hid (markSp_any 90 ((k : Int) - m) wr (by omega) (by omega) (by omega) (by omega))
        subst hx2
        have HQ := Lib.hid p1
        clear hx p1
        obtain ⟨y2, hy2⟩ : ∃ y, -((k : Int) - m) - 1 = y := ⟨_, rfl⟩
        rw [hy2] at CM HQ
        clear hy2
        go_wp2_with fail
        refine CM.out.mono ?_
        rintro e w1 ⟨rfl, hb1⟩
        have HB3 := Lib.hid (And.intro (HB.out.trans (hb1.mono HB.out.size)) trivial)
        clear hb1
        go_wp2_with fail
        obtain ⟨w3, hw3⟩ : ∃ W, w1.alloc (.cells #[.int .i32 (-97), .int .i32 y2] 27) = W := ⟨_, rfl⟩
        have hn3 : w3.heap[w1.heap.size]? = some (.cells #[.int .i32 (-97), .int .i32 y2] 27 (0, 0)) := by rw [← hw3]; exact alloc_at rfl
        have hb3 : Below w.heap.size w w3 := by rw [← hw3]; exact HB3.out.1.alloc HB3.out.1.size _
        rw [hw3]
        have r1 : w3.cell? ⟨g, k * 2, none⟩ = some (.int .i32 (-97)) := (hb3.cell (lt_of_cell HQ.out.1)).trans HQ.out.1
        have r2 : w3.cell? ⟨g, k * 2 + 1, none⟩ = some (.int .i32 y2) := (hb3.cell (lt_of_cell HQ.out.2)).trans HQ.out.2
        have d0 : w3.cell? ⟨w1.heap.size, 0, none⟩ = some (.int .i32 (-97)) := by rw [Lib.cell_of_heap hn3]; rfl
        have d1 : w3.cell? ⟨w1.heap.size, 1, none⟩ = some (.int .i32 y2) := by rw [Lib.cell_of_heap hn3]; rfl
        have HB4 := Lib.hid hb3
        clear hw3 hn3 hb3
        go_quiet (fail)
        go_wp2_with fail
        go_roundw
        case rel => exact ⟨k + 1, by omega, by go_num, HB4.out.trans ((below_drewN (Below.refl _ w3) _).mono HB4.out.size)⟩
        case measure => simp [RowKit.intOf]; omega
    · go_wp2
      go_ret
      exact ⟨rfl, HB.out⟩
theorem keptSpans_any (g cap : Nat) (v : Value) (l : List (Int × Int)) (w : World) (h1 : SpG w (.slice (some ⟨g, 0, none⟩) (l.length + 16) cap) (l ++ marksS 16)) (h2 : SpA w v l) (hl : l.length ≤ 1099511627776) (hr : Runy l) (hc : l.length + 16 ≤ cap) (_hc2 : cap ≤ 9223372036854775807) :
    Calls Tryz.prog 16 #[.slice (some ⟨g, 0, none⟩) l.length cap, v] w fun e w' => e = .returned (.bool true) ∧ Below w.heap.size w w' := by
  have C := Lib.hid (keptFullSp_any g _ cap v l w h1 rfl h2 hl hr)
  obtain ⟨av, cv, rfl, h2⟩ := h2
  obtain ⟨m, hm⟩ : ∃ m, l.length = m := ⟨_, rfl⟩
  rw [hm] at hl hc C ⊢
  clear h1 h2 hm
  have hne : ((m : Int) != m) = false := by simp
  go_enter Tryz.func16, Tryz.ntmps16
  go_wp2_with fail
  refine (C.out).mono ?_
  rintro e w1 ⟨rfl, hb⟩
  go_wp2
  go_ret
  exact ⟨rfl, hb⟩
end Go.Proofs.YtjbkpcdpdifpnaaGreatDoor
