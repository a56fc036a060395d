/- Parts of the proof of what the last text says. -/
import Derived.Test.YthhepebkfokddaaGreatDoorGz8
/- slices.Sort on numbers of 32 bits: the heap. -/
namespace Go.Proofs.YthhepebkfokddaaGreatDoor
open Go Go.RowKit Go.Kt Go.Kt.Os Go.Sort

set_option maxRecDepth 100000 in
set_option maxHeartbeats 8000000 in
theorem oSift (blk off cap lo hi F n : Nat) (d : Array Int) (w : World) (hn : d.size = n) (hH : Holds E32 w blk off d) (hlo : lo ≤ hi) (hb : F + hi ≤ n) (hsz : n < 4611686018427387904) :
    Calls Tryz.prog 158 #[.slice (some ⟨blk, off, none⟩) n cap, .int .i64 lo, .int .i64 hi, .int .i64 F] w fun e w' =>
      e = .returned (.tuple #[]) ∧ SW w blk off (siftDown ltInt hi F lo d) w' := by
  have H0 := Lib.hid (SW.refl hH)
  have HN := Lib.hid hn
  clear hH hn
  go_enter Tryz.func158, Tryz.ntmps158
  go_wp2
  go_loopw [8] (fun vr wr => ∃ (r : Nat) (dk : Array Int), vr = .int .i64 r ∧ r ≤ hi ∧ Hid (dk.size = n ∧ SW w blk off dk wr ∧ siftDown ltInt hi F r dk = siftDown ltInt hi F lo d)) (fun vr _ => hi - (RowKit.intOf vr).toNat)
  case atStart => exact ⟨lo, d, rfl, hlo, Lib.hid ⟨HN.out, H0.out, rfl⟩⟩
  case round =>
    obtain ⟨r, dk, rfl, hr, hh⟩ := hrel
    obtain ⟨G, hG⟩ : ∃ G : Nat → Int, ∀ t, G t = dk[t]! := ⟨fun t => dk[t]!, fun _ => rfl⟩
    have hcw := hh.out.2.1.cells hG hh.out.1
    have hfw := hh.out.2.1.thaw hh.out.1
    have HG := Lib.hid hG
    clear hG
    by_cases h0 : hi ≤ 2 * r + 1
    · have h0z : (hi : Int) ≤ 2 * (r : Int) + 1 := by omega
      go_wp2
      go_end0
      refine ⟨rfl, ?_⟩
      rw [← hh.out.2.2, sd_end ltInt dk h0]
      exact hh.out.2.1
    · have h0z : ¬ ((hi : Int) ≤ 2 * (r : Int) + 1) := by omega
      by_cases h1 : 2 * r + 2 < hi
      · have h1z : 2 * (r : Int) + 1 + 1 < (hi : Int) := by omega
        go_wp2_with fail
        go_big_quiet (first | (go_at_call 118; refine Calls.quiet_of_same (oLess _ _ _)))
        go_wp2_with fail
        · have hL : ltInt (G (F + 2 * r + 1)) (G (F + 2 * r + 2)) = true := by assumption
          have HS := Lib.hid (hh.out.2.1.drewN nq)
          clear hcw hfw
          generalize wr.drewN nq = wr2 at HS ⊢
          clear nq
          have hcw2 := HS.out.cells HG.out hh.out.1
          have hfw2 := HS.out.thaw hh.out.1
          go_big_quiet (first | (go_at_call 118; refine Calls.quiet_of_same (oLess _ _ _)))
          go_wp2_with fail
          · have hS : ltInt (G (F + r)) (G (F + 2 * r + 2)) = false := by
              have : (!ltInt (G (F + r)) (G (F + 2 * r + 2))) = true := by assumption
              simpa using this
            (try simp only [Exit.inBlock, Exit.then]); refine bodyPost_ret (results_none rfl _ _ _) rfl ?_
            refine ⟨rfl, ?_⟩
            rw [← hh.out.2.2, sd_r ltInt dk h1 (by rw [← HG.out, ← HG.out]; exact hL), if_neg (by rw [← HG.out, ← HG.out, hS]; exact Bool.false_ne_true)]
            exact HS.out.drewN nq
          · have hS : ltInt (G (F + r)) (G (F + 2 * r + 2)) = true := by
              have : (!ltInt (G (F + r)) (G (F + 2 * r + 2))) = false := by assumption
              simpa using this
            have HS3 := Lib.hid (HS.out.drewN nq)
            clear hcw2 hfw2
            generalize wr2.drewN nq = wr3 at HS3 ⊢
            have hcw3 := HS3.out.cells HG.out hh.out.1
            have hfw3 := HS3.out.thaw hh.out.1
            go_region
            all_goals go_wp2
            go_roundw
            case rel =>
              refine ⟨2 * r + 2, swp dk (F + r) (F + 2 * r + 2), by go_num, by omega, Lib.hid ⟨by rw [size_swp]; exact hh.out.1, HS3.out.swapq HG.out (by have := hh.out.1; omega) (by have := hh.out.1; omega) 0 1, ?_⟩⟩
              rw [← hh.out.2.2, sd_r ltInt dk h1 (by rw [← HG.out, ← HG.out]; exact hL), if_pos (by rw [← HG.out, ← HG.out]; exact hS)]
            case measure => simp [RowKit.intOf]; omega
        · have hL : ltInt (G (F + 2 * r + 1)) (G (F + 2 * r + 2)) = false := by assumption
          have HS := Lib.hid (hh.out.2.1.drewN nq)
          clear hcw hfw
          generalize wr.drewN nq = wr2 at HS ⊢
          clear nq
          have hcw2 := HS.out.cells HG.out hh.out.1
          have hfw2 := HS.out.thaw hh.out.1
          go_big_quiet (first | (go_at_call 118; refine Calls.quiet_of_same (oLess _ _ _)))
          go_wp2_with fail
          · have hS : ltInt (G (F + r)) (G (F + 2 * r + 1)) = false := by
              have : (!ltInt (G (F + r)) (G (F + 2 * r + 1))) = true := by assumption
              simpa using this
            (try simp only [Exit.inBlock, Exit.then]); refine bodyPost_ret (results_none rfl _ _ _) rfl ?_
            refine ⟨rfl, ?_⟩
            rw [← hh.out.2.2, sd_l ltInt dk (by omega) (.inr (by rw [← HG.out, ← HG.out]; exact hL)), if_neg (by rw [← HG.out, ← HG.out, hS]; exact Bool.false_ne_true)]
            exact HS.out.drewN nq
          · have hS : ltInt (G (F + r)) (G (F + 2 * r + 1)) = true := by
              have : (!ltInt (G (F + r)) (G (F + 2 * r + 1))) = false := by assumption
              simpa using this
            have HS3 := Lib.hid (HS.out.drewN nq)
            clear hcw2 hfw2
            generalize wr2.drewN nq = wr3 at HS3 ⊢
            have hcw3 := HS3.out.cells HG.out hh.out.1
            have hfw3 := HS3.out.thaw hh.out.1
            go_region
            all_goals go_wp2
            go_roundw
            case rel =>
              refine ⟨2 * r + 1, swp dk (F + r) (F + 2 * r + 1), by go_num, by omega, Lib.hid ⟨by rw [size_swp]; exact hh.out.1, HS3.out.swapq HG.out (by have := hh.out.1; omega) (by have := hh.out.1; omega) 0 1, ?_⟩⟩
              rw [← hh.out.2.2, sd_l ltInt dk (by omega) (.inr (by rw [← HG.out, ← HG.out]; exact hL)), if_pos (by rw [← HG.out, ← HG.out]; exact hS)]
            case measure => simp [RowKit.intOf]; omega
      · have h1z : decide (2 * (r : Int) + 1 + 1 < (hi : Int)) = false := decide_eq_false (by omega)
        go_wp2_with fail
        go_big_quiet (first | (go_at_call 118; refine Calls.quiet_of_same (oLess _ _ _)))
        go_wp2_with fail
        have HS := Lib.hid (hh.out.2.1.drewN nq)
        clear hcw hfw
        generalize wr.drewN nq = wr2 at HS ⊢
        clear nq
        have hcw2 := HS.out.cells HG.out hh.out.1
        have hfw2 := HS.out.thaw hh.out.1
        go_big_quiet (first | (go_at_call 118; refine Calls.quiet_of_same (oLess _ _ _)))
        go_wp2_with fail
        · have hS : ltInt (G (F + r)) (G (F + 2 * r + 1)) = false := by
            have : (!ltInt (G (F + r)) (G (F + 2 * r + 1))) = true := by assumption
            simpa using this
          (try simp only [Exit.inBlock, Exit.then]); refine bodyPost_ret (results_none rfl _ _ _) rfl ?_
          refine ⟨rfl, ?_⟩
          rw [← hh.out.2.2, sd_l ltInt dk (by omega) (.inl h1), if_neg (by rw [← HG.out, ← HG.out, hS]; exact Bool.false_ne_true)]
          exact HS.out.drewN nq
        · have hS : ltInt (G (F + r)) (G (F + 2 * r + 1)) = true := by
            have : (!ltInt (G (F + r)) (G (F + 2 * r + 1))) = false := by assumption
            simpa using this
          have HS3 := Lib.hid (HS.out.drewN nq)
          clear hcw2 hfw2
          generalize wr2.drewN nq = wr3 at HS3 ⊢
          have hcw3 := HS3.out.cells HG.out hh.out.1
          have hfw3 := HS3.out.thaw hh.out.1
          go_region
          all_goals go_wp2
          go_roundw
          case rel =>
            refine ⟨2 * r + 1, swp dk (F + r) (F + 2 * r + 1), by go_num, by omega, Lib.hid ⟨by rw [size_swp]; exact hh.out.1, HS3.out.swapq HG.out (by have := hh.out.1; omega) (by have := hh.out.1; omega) 0 1, ?_⟩⟩
            rw [← hh.out.2.2, sd_l ltInt dk (by omega) (.inl h1), if_pos (by rw [← HG.out, ← HG.out]; exact hS)]
          case measure => simp [RowKit.intOf]; omega

theorem half_up {a b : Nat} (h : a ≤ b) : ((b : Int) - (a : Int) - 1).tdiv 2 = (((b - a - 1) / 2 + 1 : Nat) : Int) - 1 := by
  obtain ⟨c, rfl⟩ : ∃ c, b = a + c := ⟨b - a, by omega⟩
  rcases Nat.eq_zero_or_pos c with h0 | h0
  · subst h0
    rw [show ((a + 0 : Nat) : Int) - (a : Int) - 1 = -1 by omega, show a + 0 - a - 1 = 0 by omega]
    decide
  · rw [show ((a + c : Nat) : Int) - (a : Int) - 1 = ((c - 1 : Nat) : Int) by omega, show a + c - a - 1 = c - 1 by omega, Int.tdiv_eq_ediv_of_nonneg (by omega)]
    omega

set_option maxRecDepth 100000 in
set_option maxHeartbeats 1000000 in
theorem oHeap (blk off cap a b n : Nat) (d : Array Int) (w : World) (hn : d.size = n) (hH : Holds E32 w blk off d) (hab : a ≤ b) (hb : b ≤ n) (hsz : n < 4611686018427387904) :
    Calls Tryz.prog 139 #[.slice (some ⟨blk, off, none⟩) n cap, .int .i64 a, .int .i64 b] w fun e w' =>
      e = .returned (.tuple #[]) ∧ SW w blk off (heapSort ltInt d a b) w' := by
  have H0 := Lib.hid (SW.refl hH)
  have HN := Lib.hid hn
  clear hH hn
  have EC := Lib.hid (show ((b - a : Nat) : Int) = (b : Int) - (a : Int) by omega)
  have EH := Lib.hid (half_up hab)
  have EB := Lib.hid (show heapSort ltInt d a b = heapPop ltInt a (b - a) (heapBuild ltInt (b - a) a ((b - a - 1) / 2 + 1) d) from rfl)
  go_enter Tryz.func139, Tryz.ntmps139
  go_wp2
  go_loopw [9] (fun vk wr => ∃ (k : Nat) (dk : Array Int), vk = .int .i64 ((k : Int) - 1) ∧ k ≤ (b - a - 1) / 2 + 1 ∧ Hid (dk.size = n ∧ SW w blk off dk wr ∧ heapBuild ltInt (b - a) a k dk = heapBuild ltInt (b - a) a ((b - a - 1) / 2 + 1) d)) (fun vk _ => (RowKit.intOf vk + 1).toNat)
  case atStart => exact ⟨_, d, by rw [← EH.out], Nat.le_refl _, Lib.hid ⟨HN.out, H0.out, rfl⟩⟩
  case round =>
    obtain ⟨k, dk, hv, hk, hg⟩ := hrel
    cases k with
    | zero =>
      replace hv := hv.trans (show Value.int .i64 (((0 : Nat) : Int) - 1) = .int .i64 (-1) from rfl)
      subst hv
      go_wp2
      go_loopw [10] (fun vk wr => ∃ (k : Nat) (dj : Array Int), vk = .int .i64 ((k : Int) - 1) ∧ k ≤ b - a ∧ Hid (dj.size = n ∧ SW w blk off dj wr ∧ heapPop ltInt a k dj = heapPop ltInt a (b - a) dk)) (fun vk _ => (RowKit.intOf vk + 1).toNat)
      case atStart => exact ⟨b - a, dk, by rw [EC.out], Nat.le_refl _, Lib.hid ⟨hg.out.1, hg.out.2.1, rfl⟩⟩
      case round =>
        obtain ⟨k, dj, hv, hk, hp⟩ := hrel
        cases k with
        | zero =>
          replace hv := hv.trans (show Value.int .i64 (((0 : Nat) : Int) - 1) = .int .i64 (-1) from rfl)
          subst hv
          go_wp2
          go_end0
          refine ⟨rfl, ?_⟩
          rw [EB.out, ← hg.out.2.2]
          show SW w blk off (heapPop ltInt a (b - a) dk) _
          rw [← hp.out.2.2]
          exact hp.out.2.1
        | succ k =>
          replace hv := hv.trans (show Value.int .i64 (((k + 1 : Nat) : Int) - 1) = .int .i64 (k : Int) by congr 1; omega)
          subst hv
          obtain ⟨G, hG⟩ : ∃ G : Nat → Int, ∀ t, G t = dj[t]! := ⟨fun t => dj[t]!, fun _ => rfl⟩
          have hcw := hp.out.2.1.cells hG hp.out.1
          have hfw := hp.out.2.1.thaw hp.out.1
          have HG := Lib.hid hG
          clear hG
          have hk0 : (0 : Int) ≤ (k : Int) := by omega
          obtain ⟨v', hy⟩ := cell?_setCell_some (w := wr) (p := ⟨blk, off + a, none⟩) (x := .int .i32 (G (a + k))) (q := ⟨blk, off + (a + k), none⟩) (hcw (a + k) (by omega))
          have HS := Lib.hid (SW.swapq hp.out.2.1 HG.out (i := a) (j := a + k) (by have := hp.out.1; omega) (by have := hp.out.1; omega))
          go_wp2
          go_region
          all_goals go_wp2_with fail
          have HS5 : SW w blk off (swp dj a (a + k)) (((wr.setCell ⟨blk, off + a, none⟩ (.int .i32 (G (a + k)))).setCell ⟨blk, off + (a + k), none⟩ (.int .i32 (G a))).drew) := HS.out 0 1
          generalize ((wr.setCell ⟨blk, off + a, none⟩ (.int .i32 (G (a + k)))).setCell ⟨blk, off + (a + k), none⟩ (.int .i32 (G a))).drew = W5 at HS5 ⊢
          have C0 := oSift blk off cap 0 k a n (swp dj a (a + k)) W5 (by rw [size_swp]; exact hp.out.1) HS5.holds (by omega) (by omega) hsz
          rw [show ((0 : Nat) : Int) = 0 from rfl] at C0
          refine C0.mono ?_
          rintro e w1 ⟨rfl, hS⟩
          go_wp2
          go_roundw
          case rel => exact ⟨k, siftDown ltInt k a 0 (swp dj a (a + k)), rfl, by omega, Lib.hid ⟨by rw [size_siftDown ltInt _ _ _ _ _ (Nat.le_refl _), size_swp]; exact hp.out.1, HS5.trans hS, hp.out.2.2⟩⟩
          case measure => simp [RowKit.intOf]
    | succ k =>
      replace hv := hv.trans (show Value.int .i64 (((k + 1 : Nat) : Int) - 1) = .int .i64 (k : Int) by congr 1; omega)
      subst hv
      have hk0 : (0 : Int) ≤ (k : Int) := by omega
      have C0 := oSift blk off cap k (b - a) a n dk wr hg.out.1 hg.out.2.1.holds (by omega) (by omega) hsz
      rw [EC.out] at C0
      have C := Lib.hid C0
      clear C0
      go_wp2_with (go_at_call 158; refine C.out.mono ?_; rintro e w1 ⟨rfl, hS⟩)
      go_roundw
      case rel => exact ⟨k, siftDown ltInt (b - a) a k dk, rfl, by omega, Lib.hid ⟨by rw [size_siftDown ltInt _ _ _ _ _ (Nat.le_refl _)]; exact hg.out.1, hg.out.2.1.trans hS, hg.out.2.2⟩⟩
      case measure => simp [RowKit.intOf]
end Go.Proofs.YthhepebkfokddaaGreatDoor
/- slices.Sort on numbers of 32 bits: a row whose least stands ahead is parted. -/
namespace Go.Proofs.YthhepebkfokddaaGreatDoor
open Go Go.RowKit Go.Kt Go.Kt.Os Go.Sort
theorem peq_stop (a i j : Nat) (dk : Array Int) {i2 j2 : Nat} (hi : i2 = scanUp (fun x => !ltInt dk[a]! x) dk j i) (hj : j2 = scanDown (fun x => ltInt dk[a]! x) dk i2 j) (h : j2 < i2) : partEqLoop ltInt a i j dk = (i2, dk) := by
  rw [partEqLoop_eq, ← hi, ← hj, if_pos h]
theorem peq_go (a i j : Nat) (dk : Array Int) {i2 j2 : Nat} (hi : i2 = scanUp (fun x => !ltInt dk[a]! x) dk j i) (hj : j2 = scanDown (fun x => ltInt dk[a]! x) dk i2 j) (h : ¬ j2 < i2) :
    partEqLoop ltInt a i j dk = partEqLoop ltInt a (i2 + 1) (j2 - 1) (swp dk i2 j2) := by
  rw [partEqLoop_eq, ← hi, ← hj, if_neg h]
set_option maxRecDepth 100000 in
set_option maxHeartbeats 2000000 in
theorem oPeq (blk off cap a b pv n : Nat) (d : Array Int) (w : World) (hn : d.size = n) (hH : Holds E32 w blk off d) (hap : a ≤ pv) (hpb : pv < b) (hb : b ≤ n) (hsz : n < 4611686018427387904) :
    Calls Tryz.prog 144 #[.slice (some ⟨blk, off, none⟩) n cap, .int .i64 a, .int .i64 b, .int .i64 pv] w fun e w' =>
      e = .returned (.int .i64 (partitionEqual ltInt d a b pv).1) ∧ SW w blk off (partitionEqual ltInt d a b pv).2 w' := by
  obtain ⟨G0, hG⟩ : ∃ G : Nat → Int, ∀ t, G t = d[t]! := ⟨fun t => d[t]!, fun _ => rfl⟩
  have hcw := (SW.refl hH).cells hG hn
  have hfw := (SW.refl hH).thaw hn
  have HS1 := Lib.hid ((SW.refl hH).swapq hG (i := a) (j := pv) (by omega) (by omega) 0 1)
  obtain ⟨v0, hy0⟩ := cell?_setCell_some (w := w) (p := ⟨blk, off + a, none⟩) (x := .int .i32 (G0 pv)) (q := ⟨blk, off + pv, none⟩) (hcw pv (by omega))
  have HN := Lib.hid hn
  clear hG hH hn
  go_enter Tryz.func144, Tryz.ntmps144
  go_wp2
  go_region
  go_wp2_with fail
  replace HS1 : Hid (SW w blk off (swp d a pv) ((w.setCell ⟨blk, off + a, none⟩ (.int .i32 (G0 pv))).setCell ⟨blk, off + pv, none⟩ (.int .i32 (G0 a))).drew) := HS1
  generalize ((w.setCell ⟨blk, off + a, none⟩ (.int .i32 (G0 pv))).setCell ⟨blk, off + pv, none⟩ (.int .i32 (G0 a))).drew = w0 at HS1 ⊢
  clear hcw hfw v0 hy0
  have EP := Lib.hid (show partitionEqual ltInt d a b pv = partEqLoop ltInt a (a + 1) (b - 1) (swp d a pv) from rfl)
  go_wp2
  go_loopw [9, 10] (fun vi vj wr => ∃ (i j : Nat) (dk : Array Int), vi = .int .i64 i ∧ vj = .int .i64 j ∧ a < i ∧ i ≤ j + 1 ∧ j < b ∧ Hid (dk.size = n ∧ SW w blk off dk wr ∧ partEqLoop ltInt a i j dk = partEqLoop ltInt a (a + 1) (b - 1) (swp d a pv))) (fun vi vj _ => (RowKit.intOf vj).toNat + 1 - (RowKit.intOf vi).toNat)
  case atStart => exact ⟨a + 1, b - 1, swp d a pv, by go_num, by go_num, by omega, by omega, by omega, Lib.hid ⟨by rw [size_swp]; exact HN.out, HS1.out, rfl⟩⟩
  case round =>
    obtain ⟨i, j, dk, rfl, rfl, hai, hij, hjb, hh⟩ := hrel
    clear HS1
    obtain ⟨G, hG⟩ : ∃ G : Nat → Int, ∀ t, G t = dk[t]! := ⟨fun t => dk[t]!, fun _ => rfl⟩
    have HG := Lib.hid hG
    have HD := Lib.hid hh.out.1
    have HS0 := Lib.hid hh.out.2.1
    have HE := Lib.hid hh.out.2.2
    clear hG hh
    go_wp2
    go_loopw [9] (fun vi w1 => ∃ i' : Nat, vi = .int .i64 i' ∧ i ≤ i' ∧ i' ≤ j + 1 ∧ Hid (SW w blk off dk w1 ∧ scanUp (fun x => !ltInt dk[a]! x) dk j i' = scanUp (fun x => !ltInt dk[a]! x) dk j i)) (fun vi _ => j + 1 - (RowKit.intOf vi).toNat)
    case atStart => exact ⟨i, by go_num, Nat.le_refl _, hij, Lib.hid ⟨HS0.out, rfl⟩⟩
    case round =>
      obtain ⟨i', rfl, hii, hij', hs1⟩ := hrel
      have hcw := hs1.out.1.cells HG.out HD.out
      clear HS0
      by_cases hle : i' ≤ j
      · go_wp2_with fail
        go_big_quiet (first | (go_at_call 118; refine Calls.quiet_of_same (oLess _ _ _)))
        go_wp2_with fail
        · have ht : (!ltInt (G a) (G i')) = true := by assumption
          go_wp2
          go_roundw
          case rel => exact ⟨i' + 1, by go_num, by omega, by omega, Lib.hid ⟨hs1.out.1.drewN nq, (scanUp_go (fun x => !ltInt dk[a]! x) dk j i' hle (by show (!ltInt dk[a]! dk[i']!) = true; rw [← HG.out, ← HG.out]; exact ht)).symm.trans hs1.out.2⟩⟩
          case measure => simp [RowKit.intOf]; omega
        · have ht : (!ltInt (G a) (G i')) = false := by assumption
          have hi2 : Hid (i' = scanUp (fun x => !ltInt dk[a]! x) dk j i) := Lib.hid ((scanUp_end (fun x => !ltInt dk[a]! x) dk j i' (.inr (by show (!ltInt dk[a]! dk[i']!) = false; rw [← HG.out, ← HG.out]; exact ht))).symm.trans hs1.out.2)
          have HT := Lib.hid ht
          have HS := Lib.hid (hs1.out.1.drewN nq)
          clear ht hcw hs1
          generalize wr.drewN nq = w3 at HS ⊢
          clear nq
          go_loopw [10] (fun vj w2 => ∃ j' : Nat, vj = .int .i64 j' ∧ j' ≤ j ∧ i' ≤ j' + 1 ∧ Hid (SW w blk off dk w2 ∧ scanDown (fun x => ltInt dk[a]! x) dk i' j' = scanDown (fun x => ltInt dk[a]! x) dk i' j)) (fun vj _ => (RowKit.intOf vj).toNat)
          case atStart => exact ⟨j, by go_num, Nat.le_refl _, hij', Lib.hid ⟨HS.out, rfl⟩⟩
          case round =>
            obtain ⟨j', rfl, hjj, hij2, hs2⟩ := hrel
            have hcw := hs2.out.1.cells HG.out HD.out
            clear HS
            by_cases hle2 : i' ≤ j'
            · go_wp2_with fail
              go_big_quiet (first | (go_at_call 118; refine Calls.quiet_of_same (oLess _ _ _)))
              go_wp2_with fail
              · have ht : ltInt (G a) (G j') = true := by assumption
                go_wp2
                go_roundw
                case rel => exact ⟨j' - 1, by go_num, by omega, by omega, Lib.hid ⟨hs2.out.1.drewN nq, (scanDown_go (fun x => ltInt dk[a]! x) dk i' j' hle2 (by omega) (by show ltInt dk[a]! dk[j']! = true; rw [← HG.out, ← HG.out]; exact ht)).symm.trans hs2.out.2⟩⟩
                case measure => simp [RowKit.intOf]; omega
              · have ht : ltInt (G a) (G j') = false := by assumption
                have hj2 : Hid (j' = scanDown (fun x => ltInt dk[a]! x) dk i' j) := Lib.hid ((scanDown_end (fun x => ltInt dk[a]! x) dk i' j' (.inr (by show ltInt dk[a]! dk[j']! = false; rw [← HG.out, ← HG.out]; exact ht))).symm.trans hs2.out.2)
                have hlt3 : i' < j' := by
                  rcases Nat.lt_or_ge i' j' with h | h
                  · exact h
                  · have e : i' = j' := by omega
                    have := HT.out
                    rw [e] at this
                    cases hq : ltInt (G a) (G j') <;> cases hp : ltInt (G j') (G a) <;> simp [hq] at this ht
                have HS := Lib.hid (hs2.out.1.drewN nq)
                clear ht hcw hs2 HT
                generalize wr.drewN nq = w4 at HS ⊢
                clear nq
                have hcw := HS.out.cells HG.out HD.out
                have hfw := HS.out.thaw HD.out
                obtain ⟨v3, hy3⟩ := cell?_setCell_some (w := w4) (p := ⟨blk, off + i', none⟩) (x := .int .i32 (G j')) (q := ⟨blk, off + j', none⟩) (hcw j' (by omega))
                go_wp2
                go_region
                all_goals go_wp2
                all_goals go_roundw
                case rel => exact ⟨i' + 1, j' - 1, swp dk i' j', by go_num, by go_num, by omega, by omega, by omega, Lib.hid ⟨by rw [size_swp]; exact HD.out, HS.out.swapq HG.out (by have := HD.out; omega) (by have := HD.out; omega) 0 1, by rw [← HE.out]; exact (peq_go a i j dk hi2.out hj2.out (by omega)).symm⟩⟩
                case measure => simp [RowKit.intOf]; omega
            · go_wp2_with fail
              go_big_quiet (first | (go_at_call 118; refine Calls.quiet_of_same (oLess _ _ _)))
              go_wp2_with fail
              have hj2 : Hid (j' = scanDown (fun x => ltInt dk[a]! x) dk i' j) := Lib.hid ((scanDown_end (fun x => ltInt dk[a]! x) dk i' j' (.inl hle2)).symm.trans hs2.out.2)
              have HS := Lib.hid (hs2.out.1.drewN nq)
              clear hcw hs2
              generalize wr.drewN nq = w4 at HS ⊢
              clear nq
              go_wp2
              go_ret
              have e := (peq_stop a i j dk hi2.out hj2.out (by omega)).symm.trans HE.out
              rw [EP.out, ← e]
              exact ⟨rfl, HS.out⟩
      · go_wp2_with fail
        go_big_quiet (first | (go_at_call 118; refine Calls.quiet_of_same (oLess _ _ _)))
        go_wp2_with fail
        have hi2 : Hid (i' = scanUp (fun x => !ltInt dk[a]! x) dk j i) := Lib.hid ((scanUp_end (fun x => !ltInt dk[a]! x) dk j i' (.inl hle)).symm.trans hs1.out.2)
        have HS := Lib.hid (hs1.out.1.drewN nq)
        clear hcw hs1
        generalize wr.drewN nq = w3 at HS ⊢
        clear nq
        go_loopw [10] (fun vj w2 => ∃ j' : Nat, vj = .int .i64 j' ∧ j' ≤ j ∧ i' ≤ j' + 1 ∧ Hid (SW w blk off dk w2 ∧ scanDown (fun x => ltInt dk[a]! x) dk i' j' = scanDown (fun x => ltInt dk[a]! x) dk i' j)) (fun vj _ => (RowKit.intOf vj).toNat)
        case atStart => exact ⟨j, by go_num, Nat.le_refl _, hij', Lib.hid ⟨HS.out, rfl⟩⟩
        case round =>
          obtain ⟨j', rfl, hjj, hij2, hs2⟩ := hrel
          have hcw := hs2.out.1.cells HG.out HD.out
          clear HS
          by_cases hle2 : i' ≤ j'
          · exfalso; omega
          · go_wp2_with fail
            go_big_quiet (first | (go_at_call 118; refine Calls.quiet_of_same (oLess _ _ _)))
            go_wp2_with fail
            have hj2 : Hid (j' = scanDown (fun x => ltInt dk[a]! x) dk i' j) := Lib.hid ((scanDown_end (fun x => ltInt dk[a]! x) dk i' j' (.inl hle2)).symm.trans hs2.out.2)
            have HS := Lib.hid (hs2.out.1.drewN nq)
            clear hcw hs2
            generalize wr.drewN nq = w4 at HS ⊢
            clear nq
            go_wp2
            go_ret
            have e := (peq_stop a i j dk hi2.out hj2.out (by omega)).symm.trans HE.out
            rw [EP.out, ← e]
            exact ⟨rfl, HS.out⟩
end Go.Proofs.YthhepebkfokddaaGreatDoor
/- slices.Sort on numbers of 32 bits: a row is parted. -/
namespace Go.Proofs.YthhepebkfokddaaGreatDoor
open Go Go.RowKit Go.Kt Go.Kt.Os Go.Sort
theorem prt_stop (a i j : Nat) (dk : Array Int) {i2 j2 : Nat} (hi : i2 = scanUp (fun x => ltInt x dk[a]!) dk j i) (hj : j2 = scanDown (fun x => !ltInt x dk[a]!) dk i2 j) (h : j2 < i2) : partLoop ltInt a i j dk = (j2, dk) := by
  rw [partLoop_eq, ← hi, ← hj, if_pos h]
theorem prt_go (a i j : Nat) (dk : Array Int) {i2 j2 : Nat} (hi : i2 = scanUp (fun x => ltInt x dk[a]!) dk j i) (hj : j2 = scanDown (fun x => !ltInt x dk[a]!) dk i2 j) (h : ¬ j2 < i2) :
    partLoop ltInt a i j dk = partLoop ltInt a (i2 + 1) (j2 - 1) (swp dk i2 j2) := by
  rw [partLoop_eq, ← hi, ← hj, if_neg h]
theorem prt_first (d : Array Int) (a b pv : Nat) {i j i2 j2 : Nat} {dk : Array Int} (hi0 : i = a + 1) (hj0 : j = b - 1) (hdk : dk = swp d a pv) (hi : i2 = scanUp (fun x => ltInt x dk[a]!) dk j i) (hj : j2 = scanDown (fun x => !ltInt x dk[a]!) dk i2 j) (h : j2 < i2) :
    partition ltInt d a b pv = (j2, true, swp dk j2 a) := by
  subst hi0 hj0 hdk
  unfold partition
  simp only [← hi, ← hj]
  rw [if_pos h]
theorem prt_more (d : Array Int) (a b pv : Nat) {i j i2 j2 : Nat} {dk : Array Int} (hi0 : i = a + 1) (hj0 : j = b - 1) (hdk : dk = swp d a pv) (hi : i2 = scanUp (fun x => ltInt x dk[a]!) dk j i) (hj : j2 = scanDown (fun x => !ltInt x dk[a]!) dk i2 j) (h : ¬ j2 < i2) :
    partition ltInt d a b pv = ((partLoop ltInt a (i2 + 1) (j2 - 1) (swp dk i2 j2)).1, false, swp (partLoop ltInt a (i2 + 1) (j2 - 1) (swp dk i2 j2)).2 (partLoop ltInt a (i2 + 1) (j2 - 1) (swp dk i2 j2)).1 a) := by
  subst hi0 hj0 hdk
  unfold partition
  simp only [← hi, ← hj]
  rw [if_neg h]
set_option maxRecDepth 100000 in
set_option maxHeartbeats 2000000 in
theorem oPart (blk off cap a b pv n : Nat) (d : Array Int) (w : World) (hn : d.size = n) (hH : Holds E32 w blk off d) (hap : a ≤ pv) (hpb : pv < b) (hb : b ≤ n) (hsz : n < 4611686018427387904) :
    Calls Tryz.prog 145 #[.slice (some ⟨blk, off, none⟩) n cap, .int .i64 a, .int .i64 b, .int .i64 pv] w fun e w' =>
      e = .returned (.tuple #[.int .i64 (partition ltInt d a b pv).1, .bool (partition ltInt d a b pv).2.1]) ∧ SW w blk off (partition ltInt d a b pv).2.2 w' := by
  obtain ⟨G0, hG⟩ : ∃ G : Nat → Int, ∀ t, G t = d[t]! := ⟨fun t => d[t]!, fun _ => rfl⟩
  have hcw := (SW.refl hH).cells hG hn
  have hfw := (SW.refl hH).thaw hn
  have HS1 := Lib.hid ((SW.refl hH).swapq hG (i := a) (j := pv) (by omega) (by omega) 0 1)
  obtain ⟨v0, hy0⟩ := cell?_setCell_some (w := w) (p := ⟨blk, off + a, none⟩) (x := .int .i32 (G0 pv)) (q := ⟨blk, off + pv, none⟩) (hcw pv (by omega))
  have HN := Lib.hid hn
  clear hG hH hn
  go_enter Tryz.func145, Tryz.ntmps145
  go_wp2
  go_region
  go_wp2_with fail
  replace HS1 : Hid (SW w blk off (swp d a pv) ((w.setCell ⟨blk, off + a, none⟩ (.int .i32 (G0 pv))).setCell ⟨blk, off + pv, none⟩ (.int .i32 (G0 a))).drew) := HS1
  generalize ((w.setCell ⟨blk, off + a, none⟩ (.int .i32 (G0 pv))).setCell ⟨blk, off + pv, none⟩ (.int .i32 (G0 a))).drew = w0 at HS1 ⊢
  clear hcw hfw v0 hy0
  obtain ⟨i, hi0⟩ : ∃ i, i = a + 1 := ⟨_, rfl⟩
  obtain ⟨j, hj0⟩ : ∃ j, j = b - 1 := ⟨_, rfl⟩
  obtain ⟨dk, hdk⟩ : ∃ dk, dk = swp d a pv := ⟨_, rfl⟩
  have hai : a < i := by omega
  have hij : i ≤ j + 1 := by omega
  have hjb : j < b := by omega
  have HD : Hid (dk.size = n) := Lib.hid (by rw [hdk, size_swp]; exact HN.out)
  have HS0 : Hid (SW w blk off dk w0) := Lib.hid (by rw [hdk]; exact HS1.out)
  have HI0 := Lib.hid hi0
  have HJ0 := Lib.hid hj0
  have HDK := Lib.hid hdk
  have EI := Lib.hid (show (a : Int) + 1 = (i : Int) by omega)
  have EJ := Lib.hid (show (b : Int) - 1 = (j : Int) by omega)
  clear HS1 hi0 hj0 hdk
  obtain ⟨G, hG⟩ : ∃ G : Nat → Int, ∀ t, G t = dk[t]! := ⟨fun t => dk[t]!, fun _ => rfl⟩
  have HG := Lib.hid hG
  clear hG
  go_wp2
  rw [EI.out, EJ.out]
  go_loopw [10] (fun vi w1 => ∃ i' : Nat, vi = .int .i64 i' ∧ i ≤ i' ∧ i' ≤ j + 1 ∧ Hid (SW w blk off dk w1 ∧ scanUp (fun x => ltInt x dk[a]!) dk j i' = scanUp (fun x => ltInt x dk[a]!) dk j i)) (fun vi _ => j + 1 - (RowKit.intOf vi).toNat)
  case atStart => exact ⟨i, by go_num, Nat.le_refl _, hij, Lib.hid ⟨HS0.out, rfl⟩⟩
  case round =>
    obtain ⟨i', rfl, hii, hij', hs1⟩ := hrel
    have hcw := hs1.out.1.cells HG.out HD.out
    clear HS0
    by_cases hle : i' ≤ j
    · go_wp2_with fail
      go_big_quiet (first | (go_at_call 118; refine Calls.quiet_of_same (oLess _ _ _)))
      go_wp2_with fail
      · have ht : ltInt (G i') (G a) = true := by assumption
        go_wp2
        go_roundw
        case rel => exact ⟨i' + 1, by go_num, by omega, by omega, Lib.hid ⟨hs1.out.1.drewN nq, (scanUp_go (fun x => ltInt x dk[a]!) dk j i' hle (by show ltInt dk[i']! dk[a]! = true; rw [← HG.out, ← HG.out]; exact ht)).symm.trans hs1.out.2⟩⟩
        case measure => simp [RowKit.intOf]; omega
      · have ht : ltInt (G i') (G a) = false := by assumption
        have hi2 : Hid (i' = scanUp (fun x => ltInt x dk[a]!) dk j i) := Lib.hid ((scanUp_end (fun x => ltInt x dk[a]!) dk j i' (.inr (by show ltInt dk[i']! dk[a]! = false; rw [← HG.out, ← HG.out]; exact ht))).symm.trans hs1.out.2)
        have HT := Lib.hid ht
        have HS := Lib.hid (hs1.out.1.drewN nq)
        clear ht hcw hs1
        generalize wr.drewN nq = w3 at HS ⊢
        clear nq
        go_loopw [11] (fun vj w2 => ∃ j' : Nat, vj = .int .i64 j' ∧ j' ≤ j ∧ i' ≤ j' + 1 ∧ Hid (SW w blk off dk w2 ∧ scanDown (fun x => !ltInt x dk[a]!) dk i' j' = scanDown (fun x => !ltInt x dk[a]!) dk i' j)) (fun vj _ => (RowKit.intOf vj).toNat)
        case atStart => exact ⟨j, by go_num, Nat.le_refl _, hij', Lib.hid ⟨HS.out, rfl⟩⟩
        case round =>
          obtain ⟨j', rfl, hjj, hij2, hs2⟩ := hrel
          have hcw := hs2.out.1.cells HG.out HD.out
          clear HS
          by_cases hle2 : i' ≤ j'
          · go_wp2_with fail
            go_big_quiet (first | (go_at_call 118; refine Calls.quiet_of_same (oLess _ _ _)))
            go_wp2_with fail
            · have ht : (!ltInt (G j') (G a)) = true := by assumption
              go_wp2
              go_roundw
              case rel => exact ⟨j' - 1, by go_num, by omega, by omega, Lib.hid ⟨hs2.out.1.drewN nq, (scanDown_go (fun x => !ltInt x dk[a]!) dk i' j' hle2 (by omega) (by show (!ltInt dk[j']! dk[a]!) = true; rw [← HG.out, ← HG.out]; exact ht)).symm.trans hs2.out.2⟩⟩
              case measure => simp [RowKit.intOf]; omega
            · have ht : (!ltInt (G j') (G a)) = false := by assumption
              have hj2 : Hid (j' = scanDown (fun x => !ltInt x dk[a]!) dk i' j) := Lib.hid ((scanDown_end (fun x => !ltInt x dk[a]!) dk i' j' (.inr (by show (!ltInt dk[j']! dk[a]!) = false; rw [← HG.out, ← HG.out]; exact ht))).symm.trans hs2.out.2)
              have hlt3 : i' < j' := by
                rcases Nat.lt_or_ge i' j' with h | h
                · exact h
                · have e : i' = j' := by omega
                  have := HT.out
                  rw [e] at this
                  cases hq : ltInt (G a) (G j') <;> cases hp : ltInt (G j') (G a) <;> simp [hp] at this ht
              have HS := Lib.hid (hs2.out.1.drewN nq)
              clear ht hcw hs2 HT
              generalize wr.drewN nq = w4 at HS ⊢
              clear nq
              have hcw := HS.out.cells HG.out HD.out
              have hfw := HS.out.thaw HD.out
              obtain ⟨v3, hy3⟩ := cell?_setCell_some (w := w4) (p := ⟨blk, off + i', none⟩) (x := .int .i32 (G j')) (q := ⟨blk, off + j', none⟩) (hcw j' (by omega))
              have EP := Lib.hid (prt_more d a b pv HI0.out HJ0.out HDK.out hi2.out hj2.out (by omega))
              have HS5 := Lib.hid (HS.out.swapq HG.out (i := i') (j := j') (by have := HD.out; omega) (by have := HD.out; omega) 0 1)
              go_wp2
              go_region
              go_wp2
              replace HS5 : Hid (SW w blk off (swp dk i' j') ((w4.setCell ⟨blk, off + i', none⟩ (.int .i32 (G j'))).setCell ⟨blk, off + j', none⟩ (.int .i32 (G i'))).drew) := HS5
              generalize ((w4.setCell ⟨blk, off + i', none⟩ (.int .i32 (G j'))).setCell ⟨blk, off + j', none⟩ (.int .i32 (G i'))).drew = w5 at HS5 ⊢
              obtain ⟨i3, hi3⟩ : ∃ i3, i3 = i' + 1 := ⟨_, rfl⟩
              obtain ⟨j3, hj3⟩ : ∃ j3, j3 = j' - 1 := ⟨_, rfl⟩
              obtain ⟨dk3, hdk3⟩ : ∃ dk3, dk3 = swp dk i' j' := ⟨_, rfl⟩
              rw [← hi3, ← hj3, ← hdk3] at EP
              have HB := Lib.hid (show a < i3 ∧ i3 ≤ j3 + 1 ∧ j3 < b by omega)
              have HD3 : Hid (dk3.size = n) := Lib.hid (by rw [hdk3, size_swp]; exact HD.out)
              rw [← hdk3] at HS5
              have HI3 := Lib.hid (show (i' : Int) + 1 = (i3 : Int) by omega)
              have HJ3 := Lib.hid (show (j' : Int) - 1 = (j3 : Int) by omega)
              clear hcw hfw hy3 HS hi2 hj2 hlt3 hle2 hij2 hjj hle hii hij' hi3 hj3 hdk3 HG HD HI0 HJ0 HDK
              go_loopw [10, 11] (fun vi vj wr => ∃ (i j : Nat) (dk : Array Int), vi = .int .i64 i ∧ vj = .int .i64 j ∧ a < i ∧ i ≤ j + 1 ∧ j < b ∧ Hid (dk.size = n ∧ SW w blk off dk wr ∧ partLoop ltInt a i j dk = partLoop ltInt a i3 j3 dk3)) (fun vi vj _ => (RowKit.intOf vj).toNat + 1 - (RowKit.intOf vi).toNat)
              case atStart => exact ⟨i3, j3, dk3, by rw [← HI3.out], by rw [← HJ3.out], HB.out.1, HB.out.2.1, HB.out.2.2, Lib.hid ⟨HD3.out, HS5.out, rfl⟩⟩
              case round =>
                clear hai hij hjb
                obtain ⟨i, j, dk, rfl, rfl, hai, hij, hjb, hh⟩ := hrel
                clear HS5
                obtain ⟨G, hG⟩ : ∃ G : Nat → Int, ∀ t, G t = dk[t]! := ⟨fun t => dk[t]!, fun _ => rfl⟩
                have HG := Lib.hid hG
                have HD := Lib.hid hh.out.1
                have HS0 := Lib.hid hh.out.2.1
                have HE := Lib.hid hh.out.2.2
                clear hG hh
                go_wp2
                go_loopw [10] (fun vi w1 => ∃ i' : Nat, vi = .int .i64 i' ∧ i ≤ i' ∧ i' ≤ j + 1 ∧ Hid (SW w blk off dk w1 ∧ scanUp (fun x => ltInt x dk[a]!) dk j i' = scanUp (fun x => ltInt x dk[a]!) dk j i)) (fun vi _ => j + 1 - (RowKit.intOf vi).toNat)
                case atStart => exact ⟨i, by go_num, Nat.le_refl _, hij, Lib.hid ⟨HS0.out, rfl⟩⟩
                case round =>
                  obtain ⟨i', rfl, hii, hij', hs1⟩ := hrel
                  have hcw := hs1.out.1.cells HG.out HD.out
                  clear HS0
                  by_cases hle : i' ≤ j
                  · go_wp2_with fail
                    go_big_quiet (first | (go_at_call 118; refine Calls.quiet_of_same (oLess _ _ _)))
                    go_wp2_with fail
                    · have ht : ltInt (G i') (G a) = true := by assumption
                      go_wp2
                      go_roundw
                      case rel => exact ⟨i' + 1, by go_num, by omega, by omega, Lib.hid ⟨hs1.out.1.drewN nq, (scanUp_go (fun x => ltInt x dk[a]!) dk j i' hle (by show ltInt dk[i']! dk[a]! = true; rw [← HG.out, ← HG.out]; exact ht)).symm.trans hs1.out.2⟩⟩
                      case measure => simp [RowKit.intOf]; omega
                    · have ht : ltInt (G i') (G a) = false := by assumption
                      have hi2 : Hid (i' = scanUp (fun x => ltInt x dk[a]!) dk j i) := Lib.hid ((scanUp_end (fun x => ltInt x dk[a]!) dk j i' (.inr (by show ltInt dk[i']! dk[a]! = false; rw [← HG.out, ← HG.out]; exact ht))).symm.trans hs1.out.2)
                      have HT := Lib.hid ht
                      have HS := Lib.hid (hs1.out.1.drewN nq)
                      clear ht hcw hs1
                      generalize wr.drewN nq = w3 at HS ⊢
                      clear nq
                      go_loopw [11] (fun vj w2 => ∃ j' : Nat, vj = .int .i64 j' ∧ j' ≤ j ∧ i' ≤ j' + 1 ∧ Hid (SW w blk off dk w2 ∧ scanDown (fun x => !ltInt x dk[a]!) dk i' j' = scanDown (fun x => !ltInt x dk[a]!) dk i' j)) (fun vj _ => (RowKit.intOf vj).toNat)
                      case atStart => exact ⟨j, by go_num, Nat.le_refl _, hij', Lib.hid ⟨HS.out, rfl⟩⟩
                      case round =>
                        obtain ⟨j', rfl, hjj, hij2, hs2⟩ := hrel
                        have hcw := hs2.out.1.cells HG.out HD.out
                        clear HS
                        by_cases hle2 : i' ≤ j'
                        · go_wp2_with fail
                          go_big_quiet (first | (go_at_call 118; refine Calls.quiet_of_same (oLess _ _ _)))
                          go_wp2_with fail
                          · have ht : (!ltInt (G j') (G a)) = true := by assumption
                            go_wp2
                            go_roundw
                            case rel => exact ⟨j' - 1, by go_num, by omega, by omega, Lib.hid ⟨hs2.out.1.drewN nq, (scanDown_go (fun x => !ltInt x dk[a]!) dk i' j' hle2 (by omega) (by show (!ltInt dk[j']! dk[a]!) = true; rw [← HG.out, ← HG.out]; exact ht)).symm.trans hs2.out.2⟩⟩
                            case measure => simp [RowKit.intOf]; omega
                          · have ht : (!ltInt (G j') (G a)) = false := by assumption
                            have hj2 : Hid (j' = scanDown (fun x => !ltInt x dk[a]!) dk i' j) := Lib.hid ((scanDown_end (fun x => !ltInt x dk[a]!) dk i' j' (.inr (by show (!ltInt dk[j']! dk[a]!) = false; rw [← HG.out, ← HG.out]; exact ht))).symm.trans hs2.out.2)
                            have hlt3 : i' < j' := by
                              rcases Nat.lt_or_ge i' j' with h | h
                              · exact h
                              · have e : i' = j' := by omega
                                have := HT.out
                                rw [e] at this
                                cases hq : ltInt (G a) (G j') <;> cases hp : ltInt (G j') (G a) <;> simp [hp] at this ht
                            have HS := Lib.hid (hs2.out.1.drewN nq)
                            clear ht hcw hs2 HT
                            generalize wr.drewN nq = w4 at HS ⊢
                            clear nq
                            have hcw := HS.out.cells HG.out HD.out
                            have hfw := HS.out.thaw HD.out
                            obtain ⟨v3, hy3⟩ := cell?_setCell_some (w := w4) (p := ⟨blk, off + i', none⟩) (x := .int .i32 (G j')) (q := ⟨blk, off + j', none⟩) (hcw j' (by omega))
                            go_wp2
                            go_region
                            all_goals go_wp2
                            all_goals go_roundw
                            case rel => exact ⟨i' + 1, j' - 1, swp dk i' j', by go_num, by go_num, by omega, by omega, by omega, Lib.hid ⟨by rw [size_swp]; exact HD.out, HS.out.swapq HG.out (by have := HD.out; omega) (by have := HD.out; omega) 0 1, by rw [← HE.out]; exact (prt_go a i j dk hi2.out hj2.out (by omega)).symm⟩⟩
                            case measure => simp [RowKit.intOf]; omega
                        · go_wp2_with fail
                          go_big_quiet (first | (go_at_call 118; refine Calls.quiet_of_same (oLess _ _ _)))
                          go_wp2_with fail
                          have hj2 : Hid (j' = scanDown (fun x => !ltInt x dk[a]!) dk i' j) := Lib.hid ((scanDown_end (fun x => !ltInt x dk[a]!) dk i' j' (.inl hle2)).symm.trans hs2.out.2)
                          have HS := Lib.hid (hs2.out.1.drewN nq)
                          clear hcw hs2
                          generalize wr.drewN nq = w4 at HS ⊢
                          clear nq
                          have hcw := HS.out.cells HG.out HD.out
                          have hfw := HS.out.thaw HD.out
                          obtain ⟨v3, hy3⟩ := cell?_setCell_some (w := w4) (p := ⟨blk, off + j', none⟩) (x := .int .i32 (G a)) (q := ⟨blk, off + a, none⟩) (hcw a (by omega))
                          go_wp2
                          go_region
                          all_goals go_wp2
                          all_goals go_ret2
                          have e := (prt_stop a i j dk hi2.out hj2.out (by omega)).symm.trans HE.out
                          rw [EP.out, ← e]
                          exact ⟨rfl, HS.out.swapq HG.out (by have := HD.out; omega) (by have := HD.out; omega) 0 1⟩
                  · go_wp2_with fail
                    go_big_quiet (first | (go_at_call 118; refine Calls.quiet_of_same (oLess _ _ _)))
                    go_wp2_with fail
                    have hi2 : Hid (i' = scanUp (fun x => ltInt x dk[a]!) dk j i) := Lib.hid ((scanUp_end (fun x => ltInt x dk[a]!) dk j i' (.inl hle)).symm.trans hs1.out.2)
                    have HS := Lib.hid (hs1.out.1.drewN nq)
                    clear hcw hs1
                    generalize wr.drewN nq = w3 at HS ⊢
                    clear nq
                    go_loopw [11] (fun vj w2 => ∃ j' : Nat, vj = .int .i64 j' ∧ j' ≤ j ∧ i' ≤ j' + 1 ∧ Hid (SW w blk off dk w2 ∧ scanDown (fun x => !ltInt x dk[a]!) dk i' j' = scanDown (fun x => !ltInt x dk[a]!) dk i' j)) (fun vj _ => (RowKit.intOf vj).toNat)
                    case atStart => exact ⟨j, by go_num, Nat.le_refl _, hij', Lib.hid ⟨HS.out, rfl⟩⟩
                    case round =>
                      obtain ⟨j', rfl, hjj, hij2, hs2⟩ := hrel
                      have hcw := hs2.out.1.cells HG.out HD.out
                      clear HS
                      by_cases hle2 : i' ≤ j'
                      · exfalso; omega
                      · go_wp2_with fail
                        go_big_quiet (first | (go_at_call 118; refine Calls.quiet_of_same (oLess _ _ _)))
                        go_wp2_with fail
                        have hj2 : Hid (j' = scanDown (fun x => !ltInt x dk[a]!) dk i' j) := Lib.hid ((scanDown_end (fun x => !ltInt x dk[a]!) dk i' j' (.inl hle2)).symm.trans hs2.out.2)
                        have HS := Lib.hid (hs2.out.1.drewN nq)
                        clear hcw hs2
                        generalize wr.drewN nq = w4 at HS ⊢
                        clear nq
                        have hcw := HS.out.cells HG.out HD.out
                        have hfw := HS.out.thaw HD.out
                        obtain ⟨v3, hy3⟩ := cell?_setCell_some (w := w4) (p := ⟨blk, off + j', none⟩) (x := .int .i32 (G a)) (q := ⟨blk, off + a, none⟩) (hcw a (by omega))
                        go_wp2
                        go_region
                        all_goals go_wp2
                        all_goals go_ret2
                        have e := (prt_stop a i j dk hi2.out hj2.out (by omega)).symm.trans HE.out
                        rw [EP.out, ← e]
                        exact ⟨rfl, HS.out.swapq HG.out (by have := HD.out; omega) (by have := HD.out; omega) 0 1⟩
          · go_wp2_with fail
            go_big_quiet (first | (go_at_call 118; refine Calls.quiet_of_same (oLess _ _ _)))
            go_wp2_with fail
            have hj2 : Hid (j' = scanDown (fun x => !ltInt x dk[a]!) dk i' j) := Lib.hid ((scanDown_end (fun x => !ltInt x dk[a]!) dk i' j' (.inl hle2)).symm.trans hs2.out.2)
            have HS := Lib.hid (hs2.out.1.drewN nq)
            clear hcw hs2
            generalize wr.drewN nq = w4 at HS ⊢
            clear nq
            have hcw := HS.out.cells HG.out HD.out
            have hfw := HS.out.thaw HD.out
            obtain ⟨v3, hy3⟩ := cell?_setCell_some (w := w4) (p := ⟨blk, off + j', none⟩) (x := .int .i32 (G a)) (q := ⟨blk, off + a, none⟩) (hcw a (by omega))
            go_wp2
            go_region
            all_goals go_wp2
            all_goals go_ret2
            rw [prt_first d a b pv HI0.out HJ0.out HDK.out hi2.out hj2.out (by omega)]
            exact ⟨rfl, HS.out.swapq HG.out (by have := HD.out; omega) (by have := HD.out; omega) 0 1⟩
    · go_wp2_with fail
      go_big_quiet (first | (go_at_call 118; refine Calls.quiet_of_same (oLess _ _ _)))
      go_wp2_with fail
      have hi2 : Hid (i' = scanUp (fun x => ltInt x dk[a]!) dk j i) := Lib.hid ((scanUp_end (fun x => ltInt x dk[a]!) dk j i' (.inl hle)).symm.trans hs1.out.2)
      have HS := Lib.hid (hs1.out.1.drewN nq)
      clear hcw hs1
      generalize wr.drewN nq = w3 at HS ⊢
      clear nq
      go_loopw [11] (fun vj w2 => ∃ j' : Nat, vj = .int .i64 j' ∧ j' ≤ j ∧ i' ≤ j' + 1 ∧ Hid (SW w blk off dk w2 ∧ scanDown (fun x => !ltInt x dk[a]!) dk i' j' = scanDown (fun x => !ltInt x dk[a]!) dk i' j)) (fun vj _ => (RowKit.intOf vj).toNat)
      case atStart => exact ⟨j, by go_num, Nat.le_refl _, hij', Lib.hid ⟨HS.out, rfl⟩⟩
      case round =>
        obtain ⟨j', rfl, hjj, hij2, hs2⟩ := hrel
        have hcw := hs2.out.1.cells HG.out HD.out
        clear HS
        by_cases hle2 : i' ≤ j'
        · exfalso; omega
        · go_wp2_with fail
          go_big_quiet (first | (go_at_call 118; refine Calls.quiet_of_same (oLess _ _ _)))
          go_wp2_with fail
          have hj2 : Hid (j' = scanDown (fun x => !ltInt x dk[a]!) dk i' j) := Lib.hid ((scanDown_end (fun x => !ltInt x dk[a]!) dk i' j' (.inl hle2)).symm.trans hs2.out.2)
          have HS := Lib.hid (hs2.out.1.drewN nq)
          clear hcw hs2
          generalize wr.drewN nq = w4 at HS ⊢
          clear nq
          have hcw := HS.out.cells HG.out HD.out
          have hfw := HS.out.thaw HD.out
          obtain ⟨v3, hy3⟩ := cell?_setCell_some (w := w4) (p := ⟨blk, off + j', none⟩) (x := .int .i32 (G a)) (q := ⟨blk, off + a, none⟩) (hcw a (by omega))
          go_wp2
          go_region
          all_goals go_wp2
          all_goals go_ret2
          rw [prt_first d a b pv HI0.out HJ0.out HDK.out hi2.out hj2.out (by omega)]
          exact ⟨rfl, HS.out.swapq HG.out (by have := HD.out; omega) (by have := HD.out; omega) 0 1⟩
end Go.Proofs.YthhepebkfokddaaGreatDoor
