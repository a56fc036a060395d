/- Parts of the proof of what the last text says. -/
import Derived.Test.YthhepebkfokddaaGreatDoorGz8
import Derived.Test.YthhepebkfokddaaGreatDoorGz3
/- slices.Sort on numbers of 32 bits: a row that is nearly in order. -/
namespace Go.Proofs.YthhepebkfokddaaGreatDoor
open Go Go.RowKit Go.Kt Go.Kt.Os Go.Sort

set_option maxRecDepth 100000 in
set_option maxHeartbeats 2000000 in
theorem oPins (blk off cap a b n : Nat) (d : Array Int) (w : World) (hn : d.size = n) (hH : Holds E32 w blk off d) (hab : a < b) (hb : b ≤ n) (hsz : n < 4611686018427387904) :
    Calls Tryz.prog 143 #[.slice (some ⟨blk, off, none⟩) n cap, .int .i64 a, .int .i64 b] w fun e w' =>
      e = .returned (.bool (partialInsertionSort ltInt d a b).2) ∧ SW w blk off (partialInsertionSort ltInt d a b).1 w' := by
  have HS1 := Lib.hid (SW.refl hH)
  have HN := Lib.hid hn
  clear hH hn
  have EP := Lib.hid (show partialInsertionSort ltInt d a b = partialIns ltInt a b (5 - 0) (a + 1) d from rfl)
  go_enter Tryz.func143, Tryz.ntmps143
  go_wp2
  go_loopw [7, 8] (fun vi vs wr => ∃ (i s : Nat) (dk : Array Int), vi = .int .i64 i ∧ vs = .int .i64 s ∧ a < i ∧ i ≤ b ∧ s ≤ 5 ∧ Hid (dk.size = n ∧ SW w blk off dk wr ∧ partialIns ltInt a b (5 - s) i dk = partialIns ltInt a b (5 - 0) (a + 1) d)) (fun vi vs _ => 5 - (RowKit.intOf vs).toNat)
  case atStart => exact ⟨a + 1, 0, d, by go_num, rfl, by omega, by omega, by omega, Lib.hid ⟨HN.out, HS1.out, rfl⟩⟩
  case round =>
    obtain ⟨i, s, dk, rfl, rfl, hai, hib, hs5, hh⟩ := hrel
    clear HS1
    obtain ⟨G, hG⟩ : ∃ G : Nat → Int, ∀ t, G t = dk[t]! := ⟨fun t => dk[t]!, fun _ => rfl⟩
    have HG := Lib.hid hG
    have HD := Lib.hid hh.out.1
    have HS0 := Lib.hid hh.out.2.1
    have HE := Lib.hid hh.out.2.2
    clear hG hh
    by_cases hs : s < 5
    · have hsz : (s : Int) < 5 := by omega
      go_wp2_with fail
      go_loopw [7] (fun vi w1 => ∃ i' : Nat, vi = .int .i64 i' ∧ i ≤ i' ∧ i' ≤ b ∧ Hid (SW w blk off dk w1 ∧ scanSorted ltInt dk b i' = scanSorted ltInt dk b i)) (fun vi _ => b - (RowKit.intOf vi).toNat)
      case atStart => exact ⟨i, rfl, Nat.le_refl _, hib, Lib.hid ⟨HS0.out, rfl⟩⟩
      case round =>
        obtain ⟨i', rfl, hii, hib', hs1⟩ := hrel
        have hcw := hs1.out.1.cells HG.out HD.out
        clear HS0
        by_cases hle : i' < b
        · have hne : ((i' : Int) == (b : Int)) = false := beq_eq_false_iff_ne.2 (by omega)
          have hnf := Lib.hid hne
          by_cases h50 : b - a < 50
          · have h50z : (b : Int) - (a : Int) < 50 := by omega
            go_wp2_with fail
            go_big_quiet (first | (go_at_call 118; refine Calls.quiet_of_same (oLess _ _ _)))
            go_wp2_with fail
            · have ht : (!ltInt (G i') (G (i' - 1))) = true := by assumption
              (try go_wp2)
              go_roundw
              case rel => exact ⟨i' + 1, by go_num, by omega, by omega, Lib.hid ⟨hs1.out.1.drewN nq, (ss_go ltInt dk b i' hle (by rw [← HG.out, ← HG.out]; simpa using ht)).symm.trans hs1.out.2⟩⟩
              case measure => simp [RowKit.intOf]; omega
            · have ht : (!ltInt (G i') (G (i' - 1))) = false := by assumption
              have hK : Hid (scanSorted ltInt dk b i = i') := Lib.hid (hs1.out.2.symm.trans (ss_stop ltInt dk b i' (.inr (by rw [← HG.out, ← HG.out]; simpa using ht))))
              (try go_wp2)
              go_ret
              rw [EP.out, ← HE.out, pi_short ltInt a b s i i' dk hs hK.out (by omega) h50]
              exact ⟨rfl, hs1.out.1.drewN nq⟩
          · by_cases c1 : i' - a ≥ 2
            · by_cases c2 : b - i' ≥ 2
              · have h50z : (50 : Int) ≤ (b : Int) - (a : Int) := by omega
                have c1z : (2 : Int) ≤ (i' : Int) - (a : Int) := by omega
                have c2z : (2 : Int) ≤ (b : Int) - (i' : Int) := by omega
                go_wp2_with fail
                go_big_quiet (first | (go_at_call 118; refine Calls.quiet_of_same (oLess _ _ _)))
                go_wp2_with fail
                · have ht : (!ltInt (G i') (G (i' - 1))) = true := by assumption
                  (try go_wp2)
                  go_roundw
                  case rel => exact ⟨i' + 1, by go_num, by omega, by omega, Lib.hid ⟨hs1.out.1.drewN nq, (ss_go ltInt dk b i' hle (by rw [← HG.out, ← HG.out]; simpa using ht)).symm.trans hs1.out.2⟩⟩
                  case measure => simp [RowKit.intOf]; omega
                · have ht : (!ltInt (G i') (G (i' - 1))) = false := by assumption
                  have hK : Hid (scanSorted ltInt dk b i = i') := Lib.hid (hs1.out.2.symm.trans (ss_stop ltInt dk b i' (.inr (by rw [← HG.out, ← HG.out]; simpa using ht))))
                  have HS := Lib.hid (hs1.out.1.drewN nq)
                  clear ht hcw hs1
                  generalize wr.drewN nq = w3 at HS ⊢
                  clear nq
                  have hcw := HS.out.cells HG.out HD.out
                  have hfw := HS.out.thaw HD.out
                  have HS5 := Lib.hid (HS.out.swapq HG.out (i := i') (j := i' - 1) (by have := HD.out; omega) (by have := HD.out; omega) 0 1)
                  go_region
                  go_wp2_with fail
                  replace HS5 : Hid (SW w blk off (swp dk i' (i' - 1)) ((w3.setCell ⟨blk, off + i', none⟩ (.int .i32 (G (i' - 1)))).setCell ⟨blk, off + (i' - 1), none⟩ (.int .i32 (G i'))).drew) := HS5
                  generalize ((w3.setCell ⟨blk, off + i', none⟩ (.int .i32 (G (i' - 1)))).setCell ⟨blk, off + (i' - 1), none⟩ (.int .i32 (G i'))).drew = w5 at HS5 ⊢
                  obtain ⟨d1, hd1⟩ : ∃ d1, d1 = swp dk i' (i' - 1) := ⟨_, rfl⟩
                  rw [← hd1] at HS5
                  have HD1 : Hid (d1.size = n) := Lib.hid (by rw [hd1, size_swp]; exact HD.out)
                  have PG := Lib.hid (fun (d2 d3 : Array Int) (h2 : d2 = if i' - a ≥ 2 then shiftDown ltInt (i' - 1) d1 else d1) (h3 : d3 = if b - i' ≥ 2 then shiftUp ltInt b (i' + 1) d2 else d2) => (pi_go ltInt a b s i i' dk hs hK.out (by omega) h50 hd1 h2 h3).symm.trans HE.out)
                  clear hcw hfw HS hK hd1 HD HE
                  go_loopw [9] (fun vj wr => ∃ (j : Nat) (dj : Array Int), vj = .int .i64 j ∧ j + 1 ≤ i' ∧ Hid (dj.size = n ∧ SW w blk off dj wr ∧ shiftDown ltInt j dj = shiftDown ltInt (i' - 1) d1)) (fun vj _ => (RowKit.intOf vj).toNat)
                  case atStart => exact ⟨i' - 1, d1, by go_num, by omega, Lib.hid ⟨HD1.out, HS5.out, rfl⟩⟩
                  case round =>
                    clear HS5 HD1
                    obtain ⟨j, dj, rfl, hj, hg⟩ := hrel
                    obtain ⟨G3, hG⟩ : ∃ G : Nat → Int, ∀ t, G t = dj[t]! := ⟨fun t => dj[t]!, fun _ => rfl⟩
                    have HG3 := Lib.hid hG
                    clear hG
                    by_cases hj1 : 1 ≤ j
                    · have hj1z : (1 : Int) ≤ (j : Int) := by omega
                      have hcw := hg.out.2.1.cells HG3.out hg.out.1
                      go_wp2_with fail
                      go_big_quiet (first | (go_at_call 118; refine Calls.quiet_of_same (oLess _ _ _)))
                      go_wp2_with fail
                      · have ht : (!ltInt (G3 j) (G3 (j - 1))) = true := by assumption
                        have PG3 := Lib.hid (fun d3 h3 => PG.out dj d3 ((if_pos c1).trans (hg.out.2.2.symm.trans (sdn_stop ltInt j dj (.inr (by rw [← HG3.out, ← HG3.out]; simpa using ht))))).symm h3)
                        have HD2 := Lib.hid hg.out.1
                        have HS6 := Lib.hid (hg.out.2.1.drewN nq)
                        clear hcw hg ht
                        generalize wr.drewN nq = w6 at HS6 ⊢
                        clear nq
                        go_wp2_with fail
                        go_loopw [10] (fun vj wr => ∃ (j : Nat) (dl : Array Int), vj = .int .i64 j ∧ i' + 1 ≤ j ∧ j ≤ b ∧ Hid (dl.size = n ∧ SW w blk off dl wr ∧ shiftUp ltInt b j dl = shiftUp ltInt b (i' + 1) dj)) (fun vj _ => b - (RowKit.intOf vj).toNat)
                        case atStart => exact ⟨i' + 1, dj, by go_num, by omega, by omega, Lib.hid ⟨HD2.out, HS6.out, rfl⟩⟩
                        case round =>
                          clear HS6 HD2
                          obtain ⟨j4, dl, rfl, hj4, hj4b, hg⟩ := hrel
                          obtain ⟨G4, hG⟩ : ∃ G : Nat → Int, ∀ t, G t = dl[t]! := ⟨fun t => dl[t]!, fun _ => rfl⟩
                          have HG4 := Lib.hid hG
                          clear hG
                          by_cases hj1 : j4 < b
                          · have hj1z : (j4 : Int) < (b : Int) := by omega
                            have hcw := hg.out.2.1.cells HG4.out hg.out.1
                            go_wp2_with fail
                            go_big_quiet (first | (go_at_call 118; refine Calls.quiet_of_same (oLess _ _ _)))
                            go_wp2_with fail
                            · have ht : (!ltInt (G4 j4) (G4 (j4 - 1))) = true := by assumption
                              have HQ : Hid (shiftUp ltInt b (i' + 1) dj = dl) := Lib.hid (hg.out.2.2.symm.trans (sup_stop ltInt b j4 dl (.inr (by rw [← HG4.out, ← HG4.out]; simpa using ht))))
                              (try go_wp2)
                              go_roundw
                              case rel => exact ⟨i', s + 1, dl, rfl, by go_num, by omega, by omega, by omega, Lib.hid ⟨hg.out.1, hg.out.2.1.drewN nq, PG3.out dl ((if_pos c2).trans HQ.out).symm⟩⟩
                              case measure => simp [RowKit.intOf]; omega
                            · have ht : (!ltInt (G4 j4) (G4 (j4 - 1))) = false := by assumption
                              have HS7 := Lib.hid (hg.out.2.1.drewN nq)
                              clear hcw
                              generalize wr.drewN nq = w7 at HS7 ⊢
                              clear nq
                              have hcw := HS7.out.cells HG4.out hg.out.1
                              have hfw := HS7.out.thaw hg.out.1
                              go_region
                              all_goals go_wp2
                              go_roundw
                              case rel => exact ⟨j4 + 1, swp dl j4 (j4 - 1), by go_num, by omega, by omega, Lib.hid ⟨by rw [size_swp]; exact hg.out.1, HS7.out.swapq HG4.out (by have := hg.out.1; omega) (by have := hg.out.1; omega) 0 1, (sup_go ltInt b j4 dl hj1 (by rw [← HG4.out, ← HG4.out]; simpa using ht)).symm.trans hg.out.2.2⟩⟩
                              case measure => simp [RowKit.intOf]; omega
                          · have hj1z : (b : Int) ≤ (j4 : Int) := by omega
                            have HQ : Hid (shiftUp ltInt b (i' + 1) dj = dl) := Lib.hid (hg.out.2.2.symm.trans (sup_stop ltInt b j4 dl (.inl hj1)))
                            go_wp2
                            go_roundw
                            case rel => exact ⟨i', s + 1, dl, rfl, by go_num, by omega, by omega, by omega, Lib.hid ⟨hg.out.1, hg.out.2.1, PG3.out dl ((if_pos c2).trans HQ.out).symm⟩⟩
                            case measure => simp [RowKit.intOf]; omega
                      · have ht : (!ltInt (G3 j) (G3 (j - 1))) = false := by assumption
                        have HS6 := Lib.hid (hg.out.2.1.drewN nq)
                        clear hcw
                        generalize wr.drewN nq = w6 at HS6 ⊢
                        clear nq
                        have hcw := HS6.out.cells HG3.out hg.out.1
                        have hfw := HS6.out.thaw hg.out.1
                        go_region
                        all_goals go_wp2
                        go_roundw
                        case rel => exact ⟨j - 1, swp dj j (j - 1), by go_num, by omega, Lib.hid ⟨by rw [size_swp]; exact hg.out.1, HS6.out.swapq HG3.out (by have := hg.out.1; omega) (by have := hg.out.1; omega) 0 1, (sdn_go ltInt j dj hj1 (by rw [← HG3.out, ← HG3.out]; simpa using ht)).symm.trans hg.out.2.2⟩⟩
                        case measure => simp [RowKit.intOf]; omega
                    · have hj1z : (j : Int) < 1 := by omega
                      have PG3 := Lib.hid (fun d3 h3 => PG.out dj d3 ((if_pos c1).trans (hg.out.2.2.symm.trans (sdn_stop ltInt j dj (.inl hj1)))).symm h3)
                      have HD2 := Lib.hid hg.out.1
                      have HS6 := Lib.hid hg.out.2.1
                      clear hg
                      go_wp2_with fail
                      go_loopw [10] (fun vj wr => ∃ (j : Nat) (dl : Array Int), vj = .int .i64 j ∧ i' + 1 ≤ j ∧ j ≤ b ∧ Hid (dl.size = n ∧ SW w blk off dl wr ∧ shiftUp ltInt b j dl = shiftUp ltInt b (i' + 1) dj)) (fun vj _ => b - (RowKit.intOf vj).toNat)
                      case atStart => exact ⟨i' + 1, dj, by go_num, by omega, by omega, Lib.hid ⟨HD2.out, HS6.out, rfl⟩⟩
                      case round =>
                        clear HS6 HD2
                        obtain ⟨j4, dl, rfl, hj4, hj4b, hg⟩ := hrel
                        obtain ⟨G4, hG⟩ : ∃ G : Nat → Int, ∀ t, G t = dl[t]! := ⟨fun t => dl[t]!, fun _ => rfl⟩
                        have HG4 := Lib.hid hG
                        clear hG
                        by_cases hj1 : j4 < b
                        · have hj1z : (j4 : Int) < (b : Int) := by omega
                          have hcw := hg.out.2.1.cells HG4.out hg.out.1
                          go_wp2_with fail
                          go_big_quiet (first | (go_at_call 118; refine Calls.quiet_of_same (oLess _ _ _)))
                          go_wp2_with fail
                          · have ht : (!ltInt (G4 j4) (G4 (j4 - 1))) = true := by assumption
                            have HQ : Hid (shiftUp ltInt b (i' + 1) dj = dl) := Lib.hid (hg.out.2.2.symm.trans (sup_stop ltInt b j4 dl (.inr (by rw [← HG4.out, ← HG4.out]; simpa using ht))))
                            (try go_wp2)
                            go_roundw
                            case rel => exact ⟨i', s + 1, dl, rfl, by go_num, by omega, by omega, by omega, Lib.hid ⟨hg.out.1, hg.out.2.1.drewN nq, PG3.out dl ((if_pos c2).trans HQ.out).symm⟩⟩
                            case measure => simp [RowKit.intOf]; omega
                          · have ht : (!ltInt (G4 j4) (G4 (j4 - 1))) = false := by assumption
                            have HS7 := Lib.hid (hg.out.2.1.drewN nq)
                            clear hcw
                            generalize wr.drewN nq = w7 at HS7 ⊢
                            clear nq
                            have hcw := HS7.out.cells HG4.out hg.out.1
                            have hfw := HS7.out.thaw hg.out.1
                            go_region
                            all_goals go_wp2
                            go_roundw
                            case rel => exact ⟨j4 + 1, swp dl j4 (j4 - 1), by go_num, by omega, by omega, Lib.hid ⟨by rw [size_swp]; exact hg.out.1, HS7.out.swapq HG4.out (by have := hg.out.1; omega) (by have := hg.out.1; omega) 0 1, (sup_go ltInt b j4 dl hj1 (by rw [← HG4.out, ← HG4.out]; simpa using ht)).symm.trans hg.out.2.2⟩⟩
                            case measure => simp [RowKit.intOf]; omega
                        · have hj1z : (b : Int) ≤ (j4 : Int) := by omega
                          have HQ : Hid (shiftUp ltInt b (i' + 1) dj = dl) := Lib.hid (hg.out.2.2.symm.trans (sup_stop ltInt b j4 dl (.inl hj1)))
                          go_wp2
                          go_roundw
                          case rel => exact ⟨i', s + 1, dl, rfl, by go_num, by omega, by omega, by omega, Lib.hid ⟨hg.out.1, hg.out.2.1, PG3.out dl ((if_pos c2).trans HQ.out).symm⟩⟩
                          case measure => simp [RowKit.intOf]; omega
              · have h50z : (50 : Int) ≤ (b : Int) - (a : Int) := by omega
                have c1z : (2 : Int) ≤ (i' : Int) - (a : Int) := by omega
                have c2z : (b : Int) - (i' : Int) < 2 := by omega
                go_wp2_with fail
                go_big_quiet (first | (go_at_call 118; refine Calls.quiet_of_same (oLess _ _ _)))
                go_wp2_with fail
                · have ht : (!ltInt (G i') (G (i' - 1))) = true := by assumption
                  (try go_wp2)
                  go_roundw
                  case rel => exact ⟨i' + 1, by go_num, by omega, by omega, Lib.hid ⟨hs1.out.1.drewN nq, (ss_go ltInt dk b i' hle (by rw [← HG.out, ← HG.out]; simpa using ht)).symm.trans hs1.out.2⟩⟩
                  case measure => simp [RowKit.intOf]; omega
                · have ht : (!ltInt (G i') (G (i' - 1))) = false := by assumption
                  have hK : Hid (scanSorted ltInt dk b i = i') := Lib.hid (hs1.out.2.symm.trans (ss_stop ltInt dk b i' (.inr (by rw [← HG.out, ← HG.out]; simpa using ht))))
                  have HS := Lib.hid (hs1.out.1.drewN nq)
                  clear ht hcw hs1
                  generalize wr.drewN nq = w3 at HS ⊢
                  clear nq
                  have hcw := HS.out.cells HG.out HD.out
                  have hfw := HS.out.thaw HD.out
                  have HS5 := Lib.hid (HS.out.swapq HG.out (i := i') (j := i' - 1) (by have := HD.out; omega) (by have := HD.out; omega) 0 1)
                  go_region
                  go_wp2_with fail
                  replace HS5 : Hid (SW w blk off (swp dk i' (i' - 1)) ((w3.setCell ⟨blk, off + i', none⟩ (.int .i32 (G (i' - 1)))).setCell ⟨blk, off + (i' - 1), none⟩ (.int .i32 (G i'))).drew) := HS5
                  generalize ((w3.setCell ⟨blk, off + i', none⟩ (.int .i32 (G (i' - 1)))).setCell ⟨blk, off + (i' - 1), none⟩ (.int .i32 (G i'))).drew = w5 at HS5 ⊢
                  obtain ⟨d1, hd1⟩ : ∃ d1, d1 = swp dk i' (i' - 1) := ⟨_, rfl⟩
                  rw [← hd1] at HS5
                  have HD1 : Hid (d1.size = n) := Lib.hid (by rw [hd1, size_swp]; exact HD.out)
                  have PG := Lib.hid (fun (d2 d3 : Array Int) (h2 : d2 = if i' - a ≥ 2 then shiftDown ltInt (i' - 1) d1 else d1) (h3 : d3 = if b - i' ≥ 2 then shiftUp ltInt b (i' + 1) d2 else d2) => (pi_go ltInt a b s i i' dk hs hK.out (by omega) h50 hd1 h2 h3).symm.trans HE.out)
                  clear hcw hfw HS hK hd1 HD HE
                  go_loopw [9] (fun vj wr => ∃ (j : Nat) (dj : Array Int), vj = .int .i64 j ∧ j + 1 ≤ i' ∧ Hid (dj.size = n ∧ SW w blk off dj wr ∧ shiftDown ltInt j dj = shiftDown ltInt (i' - 1) d1)) (fun vj _ => (RowKit.intOf vj).toNat)
                  case atStart => exact ⟨i' - 1, d1, by go_num, by omega, Lib.hid ⟨HD1.out, HS5.out, rfl⟩⟩
                  case round =>
                    clear HS5 HD1
                    obtain ⟨j, dj, rfl, hj, hg⟩ := hrel
                    obtain ⟨G3, hG⟩ : ∃ G : Nat → Int, ∀ t, G t = dj[t]! := ⟨fun t => dj[t]!, fun _ => rfl⟩
                    have HG3 := Lib.hid hG
                    clear hG
                    by_cases hj1 : 1 ≤ j
                    · have hj1z : (1 : Int) ≤ (j : Int) := by omega
                      have hcw := hg.out.2.1.cells HG3.out hg.out.1
                      go_wp2_with fail
                      go_big_quiet (first | (go_at_call 118; refine Calls.quiet_of_same (oLess _ _ _)))
                      go_wp2_with fail
                      · have ht : (!ltInt (G3 j) (G3 (j - 1))) = true := by assumption
                        have PG3 := Lib.hid (fun d3 h3 => PG.out dj d3 ((if_pos c1).trans (hg.out.2.2.symm.trans (sdn_stop ltInt j dj (.inr (by rw [← HG3.out, ← HG3.out]; simpa using ht))))).symm h3)
                        have HD2 := Lib.hid hg.out.1
                        have HS6 := Lib.hid (hg.out.2.1.drewN nq)
                        clear hcw hg ht
                        generalize wr.drewN nq = w6 at HS6 ⊢
                        clear nq
                        (try go_wp2)
                        go_roundw
                        case rel => exact ⟨i', s + 1, dj, rfl, by go_num, by omega, by omega, by omega, Lib.hid ⟨HD2.out, HS6.out, PG3.out dj (if_neg c2).symm⟩⟩
                        case measure => simp [RowKit.intOf]; omega
                      · have ht : (!ltInt (G3 j) (G3 (j - 1))) = false := by assumption
                        have HS6 := Lib.hid (hg.out.2.1.drewN nq)
                        clear hcw
                        generalize wr.drewN nq = w6 at HS6 ⊢
                        clear nq
                        have hcw := HS6.out.cells HG3.out hg.out.1
                        have hfw := HS6.out.thaw hg.out.1
                        go_region
                        all_goals go_wp2
                        go_roundw
                        case rel => exact ⟨j - 1, swp dj j (j - 1), by go_num, by omega, Lib.hid ⟨by rw [size_swp]; exact hg.out.1, HS6.out.swapq HG3.out (by have := hg.out.1; omega) (by have := hg.out.1; omega) 0 1, (sdn_go ltInt j dj hj1 (by rw [← HG3.out, ← HG3.out]; simpa using ht)).symm.trans hg.out.2.2⟩⟩
                        case measure => simp [RowKit.intOf]; omega
                    · have hj1z : (j : Int) < 1 := by omega
                      have PG3 := Lib.hid (fun d3 h3 => PG.out dj d3 ((if_pos c1).trans (hg.out.2.2.symm.trans (sdn_stop ltInt j dj (.inl hj1)))).symm h3)
                      have HD2 := Lib.hid hg.out.1
                      have HS6 := Lib.hid hg.out.2.1
                      clear hg
                      (try go_wp2)
                      go_roundw
                      case rel => exact ⟨i', s + 1, dj, rfl, by go_num, by omega, by omega, by omega, Lib.hid ⟨HD2.out, HS6.out, PG3.out dj (if_neg c2).symm⟩⟩
                      case measure => simp [RowKit.intOf]; omega
            · by_cases c2 : b - i' ≥ 2
              · have h50z : (50 : Int) ≤ (b : Int) - (a : Int) := by omega
                have c1z : (i' : Int) - (a : Int) < 2 := by omega
                have c2z : (2 : Int) ≤ (b : Int) - (i' : Int) := by omega
                go_wp2_with fail
                go_big_quiet (first | (go_at_call 118; refine Calls.quiet_of_same (oLess _ _ _)))
                go_wp2_with fail
                · have ht : (!ltInt (G i') (G (i' - 1))) = true := by assumption
                  (try go_wp2)
                  go_roundw
                  case rel => exact ⟨i' + 1, by go_num, by omega, by omega, Lib.hid ⟨hs1.out.1.drewN nq, (ss_go ltInt dk b i' hle (by rw [← HG.out, ← HG.out]; simpa using ht)).symm.trans hs1.out.2⟩⟩
                  case measure => simp [RowKit.intOf]; omega
                · have ht : (!ltInt (G i') (G (i' - 1))) = false := by assumption
                  have hK : Hid (scanSorted ltInt dk b i = i') := Lib.hid (hs1.out.2.symm.trans (ss_stop ltInt dk b i' (.inr (by rw [← HG.out, ← HG.out]; simpa using ht))))
                  have HS := Lib.hid (hs1.out.1.drewN nq)
                  clear ht hcw hs1
                  generalize wr.drewN nq = w3 at HS ⊢
                  clear nq
                  have hcw := HS.out.cells HG.out HD.out
                  have hfw := HS.out.thaw HD.out
                  have HS5 := Lib.hid (HS.out.swapq HG.out (i := i') (j := i' - 1) (by have := HD.out; omega) (by have := HD.out; omega) 0 1)
                  go_region
                  go_wp2_with fail
                  replace HS5 : Hid (SW w blk off (swp dk i' (i' - 1)) ((w3.setCell ⟨blk, off + i', none⟩ (.int .i32 (G (i' - 1)))).setCell ⟨blk, off + (i' - 1), none⟩ (.int .i32 (G i'))).drew) := HS5
                  generalize ((w3.setCell ⟨blk, off + i', none⟩ (.int .i32 (G (i' - 1)))).setCell ⟨blk, off + (i' - 1), none⟩ (.int .i32 (G i'))).drew = w5 at HS5 ⊢
                  obtain ⟨d1, hd1⟩ : ∃ d1, d1 = swp dk i' (i' - 1) := ⟨_, rfl⟩
                  rw [← hd1] at HS5
                  have HD1 : Hid (d1.size = n) := Lib.hid (by rw [hd1, size_swp]; exact HD.out)
                  have PG := Lib.hid (fun (d2 d3 : Array Int) (h2 : d2 = if i' - a ≥ 2 then shiftDown ltInt (i' - 1) d1 else d1) (h3 : d3 = if b - i' ≥ 2 then shiftUp ltInt b (i' + 1) d2 else d2) => (pi_go ltInt a b s i i' dk hs hK.out (by omega) h50 hd1 h2 h3).symm.trans HE.out)
                  clear hcw hfw HS hK hd1 HD HE
                  have PG3 := Lib.hid (fun d3 h3 => PG.out d1 d3 (if_neg c1).symm h3)
                  have HD2 := HD1
                  have HS6 := HS5
                  obtain ⟨dj, hdj⟩ : ∃ dj, dj = d1 := ⟨_, rfl⟩
                  rw [← hdj] at HD2 HS6 PG3
                  clear PG HD1 HS5 hdj
                  go_wp2_with fail
                  go_loopw [10] (fun vj wr => ∃ (j : Nat) (dl : Array Int), vj = .int .i64 j ∧ i' + 1 ≤ j ∧ j ≤ b ∧ Hid (dl.size = n ∧ SW w blk off dl wr ∧ shiftUp ltInt b j dl = shiftUp ltInt b (i' + 1) dj)) (fun vj _ => b - (RowKit.intOf vj).toNat)
                  case atStart => exact ⟨i' + 1, dj, by go_num, by omega, by omega, Lib.hid ⟨HD2.out, HS6.out, rfl⟩⟩
                  case round =>
                    clear HS6 HD2
                    obtain ⟨j4, dl, rfl, hj4, hj4b, hg⟩ := hrel
                    obtain ⟨G4, hG⟩ : ∃ G : Nat → Int, ∀ t, G t = dl[t]! := ⟨fun t => dl[t]!, fun _ => rfl⟩
                    have HG4 := Lib.hid hG
                    clear hG
                    by_cases hj1 : j4 < b
                    · have hj1z : (j4 : Int) < (b : Int) := by omega
                      have hcw := hg.out.2.1.cells HG4.out hg.out.1
                      go_wp2_with fail
                      go_big_quiet (first | (go_at_call 118; refine Calls.quiet_of_same (oLess _ _ _)))
                      go_wp2_with fail
                      · have ht : (!ltInt (G4 j4) (G4 (j4 - 1))) = true := by assumption
                        have HQ : Hid (shiftUp ltInt b (i' + 1) dj = dl) := Lib.hid (hg.out.2.2.symm.trans (sup_stop ltInt b j4 dl (.inr (by rw [← HG4.out, ← HG4.out]; simpa using ht))))
                        (try go_wp2)
                        go_roundw
                        case rel => exact ⟨i', s + 1, dl, rfl, by go_num, by omega, by omega, by omega, Lib.hid ⟨hg.out.1, hg.out.2.1.drewN nq, PG3.out dl ((if_pos c2).trans HQ.out).symm⟩⟩
                        case measure => simp [RowKit.intOf]; omega
                      · have ht : (!ltInt (G4 j4) (G4 (j4 - 1))) = false := by assumption
                        have HS7 := Lib.hid (hg.out.2.1.drewN nq)
                        clear hcw
                        generalize wr.drewN nq = w7 at HS7 ⊢
                        clear nq
                        have hcw := HS7.out.cells HG4.out hg.out.1
                        have hfw := HS7.out.thaw hg.out.1
                        go_region
                        all_goals go_wp2
                        go_roundw
                        case rel => exact ⟨j4 + 1, swp dl j4 (j4 - 1), by go_num, by omega, by omega, Lib.hid ⟨by rw [size_swp]; exact hg.out.1, HS7.out.swapq HG4.out (by have := hg.out.1; omega) (by have := hg.out.1; omega) 0 1, (sup_go ltInt b j4 dl hj1 (by rw [← HG4.out, ← HG4.out]; simpa using ht)).symm.trans hg.out.2.2⟩⟩
                        case measure => simp [RowKit.intOf]; omega
                    · have hj1z : (b : Int) ≤ (j4 : Int) := by omega
                      have HQ : Hid (shiftUp ltInt b (i' + 1) dj = dl) := Lib.hid (hg.out.2.2.symm.trans (sup_stop ltInt b j4 dl (.inl hj1)))
                      go_wp2
                      go_roundw
                      case rel => exact ⟨i', s + 1, dl, rfl, by go_num, by omega, by omega, by omega, Lib.hid ⟨hg.out.1, hg.out.2.1, PG3.out dl ((if_pos c2).trans HQ.out).symm⟩⟩
                      case measure => simp [RowKit.intOf]; omega
              · exfalso; omega
        · have hne : ((i' : Int) == (b : Int)) = true := beq_iff_eq.2 (by omega)
          go_wp2_with fail
          go_big_quiet (first | (go_at_call 118; refine Calls.quiet_of_same (oLess _ _ _)))
          go_wp2_with fail
          have hK : Hid (scanSorted ltInt dk b i = b) := Lib.hid (hs1.out.2.symm.trans ((ss_stop ltInt dk b i' (.inl hle)).trans (by omega)))
          have HS := Lib.hid (hs1.out.1.drewN nq)
          clear hcw hs1
          generalize wr.drewN nq = w3 at HS ⊢
          clear nq
          (try go_wp2)
          go_ret
          rw [EP.out, ← HE.out, pi_true ltInt a b s i dk hs hK.out]
          exact ⟨rfl, HS.out⟩
    · have hsz : ¬ (s : Int) < 5 := by omega
      have e5 : s = 5 := by omega
      subst e5
      go_wp2
      go_ret
      rw [EP.out, ← HE.out]
      exact ⟨rfl, HS0.out⟩
end Go.Proofs.YthhepebkfokddaaGreatDoor
/- slices.Sort on numbers of 32 bits: patterns are broken, by numbers that nobody knows. -/
namespace Go.Proofs.YthhepebkfokddaaGreatDoor
open Go Go.RowKit Go.Kt Go.Kt.Os Go.Sort

set_option maxRecDepth 100000 in
set_option maxHeartbeats 1000000 in
theorem oNext (rb : Nat) (x : Int) (w : World) (hc : w.cell? ⟨rb, 0, none⟩ = some (.int .u64 x)) (hf : w.frozen? ⟨rb, 0, none⟩ = false) :
    Calls Tryz.prog 160 #[.pointer (some ⟨rb, 0, none⟩)] w fun e w' => ∃ y : Int, e = .returned (.int .u64 y) ∧ w'.cell? ⟨rb, 0, none⟩ = some (.int .u64 y) ∧ w'.frozen? ⟨rb, 0, none⟩ = false ∧ Keep (fun b => b = rb) w w' := by
  go_enter Tryz.func160, Tryz.ntmps160
  go_wp2
  have K0 := Lib.hid (Keep.refl (fun b => b = rb) w)
  go_region
  go_wp2_with fail
  generalize bits BinOp.xor IntKind.u64 x (IntKind.u64.wrap (x * 8192)) = y1
  have c1 : ((w.setCell ⟨rb, 0, none⟩ (.int .u64 y1)).drew).cell? ⟨rb, 0, none⟩ = some (.int .u64 y1) := World.cell?_setCell_same _ _ _ hc
  have f1 : ((w.setCell ⟨rb, 0, none⟩ (.int .u64 y1)).drew).frozen? ⟨rb, 0, none⟩ = false := (World.frozen?_setCell _ _ _ _).trans hf
  have K1 : Hid (Keep (fun b => b = rb) w (w.setCell ⟨rb, 0, none⟩ (.int .u64 y1)).drew) := Lib.hid ((K0.out.setCell (p := ⟨rb, 0, none⟩) rfl _).drew)
  generalize ((w.setCell ⟨rb, 0, none⟩ (.int .u64 y1)).drew) = w1 at c1 f1 K1 ⊢
  go_region
  go_wp2_with fail
  generalize bits BinOp.xor IntKind.u64 y1 (y1 / 128) = y2
  have c2 : ((w1.setCell ⟨rb, 0, none⟩ (.int .u64 y2)).drew).cell? ⟨rb, 0, none⟩ = some (.int .u64 y2) := World.cell?_setCell_same _ _ _ c1
  have f2 : ((w1.setCell ⟨rb, 0, none⟩ (.int .u64 y2)).drew).frozen? ⟨rb, 0, none⟩ = false := (World.frozen?_setCell _ _ _ _).trans f1
  have K2 : Hid (Keep (fun b => b = rb) w (w1.setCell ⟨rb, 0, none⟩ (.int .u64 y2)).drew) := Lib.hid ((K1.out.setCell (p := ⟨rb, 0, none⟩) rfl _).drew)
  generalize ((w1.setCell ⟨rb, 0, none⟩ (.int .u64 y2)).drew) = w2 at c2 f2 K2 ⊢
  go_region
  go_wp2_with fail
  generalize bits BinOp.xor IntKind.u64 y2 (IntKind.u64.wrap (y2 * 131072)) = y3
  have c3 : ((w2.setCell ⟨rb, 0, none⟩ (.int .u64 y3)).drew).cell? ⟨rb, 0, none⟩ = some (.int .u64 y3) := World.cell?_setCell_same _ _ _ c2
  have f3 : ((w2.setCell ⟨rb, 0, none⟩ (.int .u64 y3)).drew).frozen? ⟨rb, 0, none⟩ = false := (World.frozen?_setCell _ _ _ _).trans f2
  have K3 : Hid (Keep (fun b => b = rb) w (w2.setCell ⟨rb, 0, none⟩ (.int .u64 y3)).drew) := Lib.hid ((K2.out.setCell (p := ⟨rb, 0, none⟩) rfl _).drew)
  generalize ((w2.setCell ⟨rb, 0, none⟩ (.int .u64 y3)).drew) = w3 at c3 f3 K3 ⊢
  go_wp2
  go_ret
  exact ⟨y3, rfl, c3, f3, K3.out⟩

theorem bl_zero : ∀ f, Lib.bitLenAux f 0 = 0
  | 0 => rfl
  | _ + 1 => rfl
theorem bl_aux : ∀ (f x : Nat), x < 2 ^ f → x < 2 ^ Lib.bitLenAux f x ∧ (x ≠ 0 → 2 ^ Lib.bitLenAux f x ≤ 2 * x)
  | 0, x, h => by
    have : x = 0 := by simpa using h
    subst this
    exact ⟨by simp [Lib.bitLenAux], fun e => absurd rfl e⟩
  | f + 1, x, h => by
    by_cases h0 : x = 0
    · subst h0
      rw [bl_zero]
      exact ⟨by decide, fun e => absurd rfl e⟩
    · have hd : x / 2 < 2 ^ f := by rw [Nat.pow_succ] at h; omega
      obtain ⟨i1, i2⟩ := bl_aux f (x / 2) hd
      have e : Lib.bitLenAux (f + 1) x = 1 + Lib.bitLenAux f (x / 2) := by rw [Lib.bitLenAux, if_neg h0]
      rw [e, Nat.add_comm, Nat.pow_succ]
      refine ⟨by omega, fun _ => ?_⟩
      by_cases h1 : x / 2 = 0
      · rw [h1, bl_zero]; omega
      · have := i2 h1; omega
theorem bl_le : ∀ (f x : Nat), Lib.bitLenAux f x ≤ f
  | 0, _ => Nat.le_refl _
  | f + 1, x => by
    by_cases h0 : x = 0
    · subst h0; rw [bl_zero]; omega
    · have := bl_le f (x / 2)
      rw [Lib.bitLenAux, if_neg h0]; omega

theorem wrap_pow {k : Nat} (hk : k ≤ 63) : IntKind.u64.wrap ((2 : Int) ^ k) = ((2 ^ k : Nat) : Int) := by
  have h1 : 2 ^ k < 2 ^ 64 := Nat.pow_lt_pow_right (by decide) (by omega)
  rw [show (2 : Int) ^ k = ((2 ^ k : Nat) : Int) by simp]
  generalize 2 ^ k = z at h1
  show (if (false && decide ((z : Int) % 2 ^ 64 ≥ 2 ^ (64 - 1))) = true then (z : Int) % 2 ^ 64 - 2 ^ 64 else (z : Int) % 2 ^ 64) = _
  rw [Bool.false_and, if_neg (by decide)]
  omega

theorem bits_mask (y : Int) {k : Nat} (hk : k ≤ 63) : ∃ r : Nat, bits .and .u64 y ((2 : Int) ^ k - 1) = (r : Int) ∧ (r : Int) < (2 : Int) ^ k := by
  have h1 : 2 ^ k < 2 ^ 64 := Nat.pow_lt_pow_right (by decide) (by omega)
  have h0 : 0 < 2 ^ k := Nat.pos_of_ne_zero (by simp)
  have e0 : (2 : Int) ^ k = ((2 ^ k : Nat) : Int) := by simp
  rw [e0]
  generalize 2 ^ k = z at h0 h1
  have e1 : ((z : Int) - 1) = ((z - 1 : Nat) : Int) := by omega
  rw [e1]
  have h2 : ((BitVec.ofInt 64 y) &&& (BitVec.ofInt 64 ((z - 1 : Nat) : Int))).toNat ≤ z - 1 := by
    rw [BitVec.toNat_and]
    refine Nat.le_trans Nat.and_le_right ?_
    rw [BitVec.toNat_ofInt]
    omega
  refine ⟨((BitVec.ofInt 64 y) &&& (BitVec.ofInt 64 ((z - 1 : Nat) : Int))).toNat, ?_, by omega⟩
  show IntKind.u64.wrap (((BitVec.ofInt 64 y) &&& (BitVec.ofInt 64 ((z - 1 : Nat) : Int))).toNat : Int) = _
  generalize ((BitVec.ofInt 64 y) &&& (BitVec.ofInt 64 ((z - 1 : Nat) : Int))).toNat = r at h2
  show (if (false && decide ((r : Int) % 2 ^ 64 ≥ 2 ^ (64 - 1))) = true then (r : Int) % 2 ^ 64 - 2 ^ 64 else (r : Int) % 2 ^ 64) = _
  rw [Bool.false_and, if_neg (by decide)]
  omega

set_option maxRecDepth 100000 in
set_option maxHeartbeats 1000000 in
theorem oPow (n : Nat) (w : World) (h0 : 1 ≤ n) (hn : n < 4611686018427387904) :
    Calls Tryz.prog 159 #[.int .i64 n] w fun e w' => ∃ m : Int, e = .returned (.int .u64 m) ∧ (n : Int) < m ∧ m ≤ 2 * (n : Int) ∧ (∀ y : Int, ∃ r : Nat, bits .and .u64 y (m - 1) = (r : Int) ∧ (r : Int) < m) ∧ w' = w := by
  obtain ⟨b1, b2⟩ := bl_aux 64 n (by omega)
  have hb : 2 ^ Lib.bitLenAux 64 n ≤ 2 * n := b2 (by omega)
  have hk : Lib.bitLenAux 64 n ≤ 63 := by
    rcases Nat.lt_or_ge 63 (Lib.bitLenAux 64 n) with h | h
    · have : 2 ^ 64 ≤ 2 ^ Lib.bitLenAux 64 n := Nat.pow_le_pow_right (by decide) h
      omega
    · exact h
  have C0 := Tryz.bits_Len (n : Int) w (by omega) (by omega)
  rw [Int.toNat_natCast, show Lib.bitLen n = Lib.bitLenAux 64 n from rfl] at C0
  obtain ⟨k, hkk⟩ : ∃ k, Lib.bitLenAux 64 n = k := ⟨_, rfl⟩
  rw [hkk] at C0 b1 hb hk
  have e0 : (2 : Int) ^ k = ((2 ^ k : Nat) : Int) := by simp
  have HX := Lib.hid (show (n : Int) < 2 ^ k ∧ (2 : Int) ^ k ≤ 2 * (n : Int) ∧ k ≤ 63 from ⟨by rw [e0]; omega, by rw [e0]; omega, hk⟩)
  have C := Lib.hid C0
  clear C0 b1 b2 hb hkk e0
  go_enter Tryz.func159, Tryz.ntmps159
  go_wp2_with fail
  refine C.out.mono ?_
  rintro e w' ⟨rfl, rfl⟩
  go_wp2
  go_ret
  exact ⟨(2 : Int) ^ k, congrArg (fun z => Ending.returned (Value.int .u64 z)) ((wrap_pow HX.out.2.2).trans (by simp)), HX.out.1, HX.out.2.1, fun y => bits_mask y HX.out.2.2, rfl⟩

set_option maxRecDepth 100000 in
set_option maxHeartbeats 1000000 in
theorem oBreak (blk off cap a l n : Nat) (d : Array Int) (w : World) (hn : d.size = n) (hH : Holds E32 w blk off d) (hblk : blk < w.heap.size) (hl8 : 8 ≤ l) (hb : a + l ≤ n) (hsz : n < 4611686018427387904) :
    Calls Tryz.prog 140 #[.slice (some ⟨blk, off, none⟩) n cap, .int .i64 a, .int .i64 ((a : Int) + (l : Int))] w fun e w' =>
      e = .returned (.tuple #[]) ∧ ∃ d', PermIn a (a + l) d d' ∧ SW w blk off d' w' := by
  have HS1 := Lib.hid (SW.refl hH)
  have HN := Lib.hid hn
  clear hH hn
  have hl8z : (8 : Int) ≤ (a : Int) + (l : Int) - (a : Int) := by omega
  have EL := Lib.hid (show (a : Int) + (l : Int) - (a : Int) = (l : Int) by omega)
  have C := Lib.hid (fun W => oPow l W (by omega) (by omega))
  go_enter Tryz.func140, Tryz.ntmps140
  go_wp2_with fail
  rw [EL.out]
  refine (C.out _).mono ?_
  rintro e w1 ⟨m, rfl, m1, m2, m3, rfl⟩
  have HM := Lib.hid m3
  clear C m3 hl8z
  have m4 : m ≤ 9223372036854775807 := by omega
  go_wp2_with fail
  obtain ⟨q, hq⟩ : ∃ q, q = l / 4 * 2 := ⟨_, rfl⟩
  have hq1 : 4 ≤ q := by omega
  have hq2 : q + 1 < l := by omega
  have EQ := Lib.hid (show (l : Int) / 4 * 2 = (q : Int) by omega)
  clear hq
  rw [EQ.out]
  have K1 : Hid (Keep (fun b => b = blk) w (w.alloc (.cells #[.int .u64 (l : Int)] 209))) := Lib.hid ((Keep.refl _ _).alloc _)
  have hs1 : SW w blk off d (w.alloc (.cells #[.int .u64 (l : Int)] 209)) := ⟨K1.out, holds_keep HS1.out.holds ((Keep.refl (fun _ => False) w).alloc _) id⟩
  have hc1 : (w.alloc (.cells #[.int .u64 (l : Int)] 209)).cell? ⟨w.heap.size, 0, none⟩ = some (.int .u64 (l : Int)) := by
    rw [World.cell?_alloc_at _ _ _ _ (by simp)]; rfl
  have hf1 : (w.alloc (.cells #[.int .u64 (l : Int)] 209)).frozen? ⟨w.heap.size, 0, none⟩ = false := by
    exact World.frozen?_alloc_new _ _ _ _
  have HB := Lib.hid (show _ ∧ _ ∧ _ from ⟨hs1, hc1, hf1⟩)
  clear hs1 hc1 hf1 K1
  go_loopw [9] (fun vi wr => ∃ (i : Nat) (dk : Array Int) (x : Int), vi = .int .i64 i ∧ a + q ≤ i + 1 ∧ i ≤ a + q + 2 ∧ Hid (PermIn a (a + l) d dk ∧ SW w blk off dk wr ∧ wr.cell? ⟨w.heap.size, 0, none⟩ = some (.int .u64 x) ∧ wr.frozen? ⟨w.heap.size, 0, none⟩ = false)) (fun vi _ => a + q + 2 - (RowKit.intOf vi).toNat)
  case atStart => exact ⟨a + q - 1, d, (l : Int), by go_num, by omega, by omega, Lib.hid ⟨permIn_refl _ _ _, HB.out⟩⟩
  case round =>
    obtain ⟨i, dk, x, rfl, hi1, hi2, hh⟩ := hrel
    clear HB
    by_cases hi : i ≤ a + q + 1
    · have hiz : (i : Int) ≤ (a : Int) + (l : Int) / 4 * 2 + 1 := by have := EQ.out; omega
      have C := Lib.hid (oNext w.heap.size x wr hh.out.2.2.1 hh.out.2.2.2)
      go_wp2_with fail
      refine C.out.mono ?_
      rintro e w2 ⟨y, rfl, hc2, hf2, hk2⟩
      clear C
      have HB := Lib.hid (show SW w blk off dk w2 ∧ _ ∧ _ from ⟨hh.out.2.1.then (hk2.weaken fun b _ e => by subst e; exact ⟨by omega, Nat.le_refl _⟩), hc2, hf2⟩)
      clear hc2 hf2 hk2
      obtain ⟨r, hr, hrm⟩ := HM.out y
      obtain ⟨G, hG⟩ : ∃ G : Nat → Int, ∀ t, G t = dk[t]! := ⟨fun t => dk[t]!, fun _ => rfl⟩
      have hsk : dk.size = n := hh.out.1.1.trans HN.out
      have hcw := HB.out.1.cells hG hsk
      have hfw := HB.out.1.thaw hsk
      have HG := Lib.hid hG
      have HSK := Lib.hid hsk
      clear hG hsk
      have hrz : (r : Int) ≤ 9223372036854775807 := by omega
      by_cases hrl : l ≤ r
      · have hrlz : (l : Int) ≤ (r : Int) := by omega
        obtain ⟨o, ho⟩ : ∃ o, o = r - l := ⟨_, rfl⟩
        have EO := Lib.hid (show (r : Int) - (l : Int) = (o : Int) by omega)
        have hol : o < l := by omega
        clear ho
        obtain ⟨v3, hy3⟩ := cell?_setCell_some (w := w2) (p := ⟨blk, off + i, none⟩) (x := .int .i32 (G (a + o))) (q := ⟨blk, off + (a + o), none⟩) (hcw (a + o) (by omega))
        go_wp2_with fail
        rw [EO.out]
        go_region
        all_goals go_wp2
        all_goals go_roundw
        case rel => exact ⟨i + 1, swp dk i (a + o), y, by go_num, by omega, by omega, Lib.hid ⟨permIn_trans _ _ _ _ _ hh.out.1 (swp_permIn dk a (a + l) i (a + o) (by omega) (by omega) (by omega) (by omega) (by have := HSK.out; omega)), HB.out.1.swapq HG.out (by have := HSK.out; omega) (by have := HSK.out; omega) 0 1, by
          refine (World.cell?_setCell_other _ _ _ _ (fun e => ?_)).trans ((World.cell?_setCell_other _ _ _ _ (fun e => ?_)).trans HB.out.2.1)
          · injection e with e; omega
          · injection e with e; omega, by
          refine (World.frozen?_setCell _ _ _ _).trans ((World.frozen?_setCell _ _ _ _).trans HB.out.2.2)⟩⟩
        case measure => simp [RowKit.intOf]; omega
      · have hrlz : (r : Int) < (l : Int) := by omega
        obtain ⟨v3, hy3⟩ := cell?_setCell_some (w := w2) (p := ⟨blk, off + i, none⟩) (x := .int .i32 (G (a + r))) (q := ⟨blk, off + (a + r), none⟩) (hcw (a + r) (by omega))
        go_wp2_with fail
        go_region
        all_goals go_wp2
        all_goals go_roundw
        case rel => exact ⟨i + 1, swp dk i (a + r), y, by go_num, by omega, by omega, Lib.hid ⟨permIn_trans _ _ _ _ _ hh.out.1 (swp_permIn dk a (a + l) i (a + r) (by omega) (by omega) (by omega) (by omega) (by have := HSK.out; omega)), HB.out.1.swapq HG.out (by have := HSK.out; omega) (by have := HSK.out; omega) 0 1, by
          refine (World.cell?_setCell_other _ _ _ _ (fun e => ?_)).trans ((World.cell?_setCell_other _ _ _ _ (fun e => ?_)).trans HB.out.2.1)
          · injection e with e; omega
          · injection e with e; omega, by
          refine (World.frozen?_setCell _ _ _ _).trans ((World.frozen?_setCell _ _ _ _).trans HB.out.2.2)⟩⟩
        case measure => simp [RowKit.intOf]; omega
    · have hiz : (a : Int) + (l : Int) / 4 * 2 + 1 < (i : Int) := by have := EQ.out; omega
      go_wp2
      go_end0
      exact ⟨rfl, dk, hh.out.1, hh.out.2.1⟩
end Go.Proofs.YthhepebkfokddaaGreatDoor
/- slices.Sort: what a round of the sort that parts a row keeps. No program. -/
namespace Go.Kt.Os
open Go Go.RowKit Go.Kt Go.Sort

theorem ltI_t {x y : Int} : ltInt x y = true ↔ x < y := by simp [ltInt]
theorem ltI_f {x y : Int} : ltInt x y = false ↔ y ≤ x := by simp [ltInt]

/-- Of the row d what lies from a' to b' of dk is all that is not yet in its place. -/
structure PWay (a b : Nat) (d : Array Int) (a' b' : Nat) (dk : Array Int) : Prop where
  lo : a ≤ a'
  mid : a' ≤ b'
  hi : b' ≤ b
  all : b ≤ d.size
  perm : PermIn a b d dk
  under : Sort.Below ltInt a' b' dk
  fin : ∀ d4, PermIn a' b' dk d4 → SortedIn ltInt a' b' d4 → SortedIn ltInt a b d4

section
variable {a b a' b' m : Nat} {d dk d5 d6 : Array Int}
theorem PWay.size (h : PWay a b d a' b' dk) : dk.size = d.size := h.perm.1
theorem PWay.start (hab : a ≤ b) (hb : b ≤ d.size) (h : Sort.Below ltInt a b d) : PWay a b d a b d := ⟨Nat.le_refl _, hab, Nat.le_refl _, hb, permIn_refl _ _ _, h, fun _ _ h => h⟩
theorem PWay.wide (h : PWay a b d a' b' dk) (k : PermIn a' b' dk d5) : PermIn a b d d5 :=
  permIn_trans _ _ _ _ _ h.perm (permIn_mono _ _ _ _ _ _ h.lo h.hi (by rw [h.size]; exact h.all) k)
theorem PWay.done (h : PWay a b d a' b' dk) (k : PermIn a' b' dk d5) (s : SortedIn ltInt a' b' d5) : PermIn a b d d5 ∧ SortedIn ltInt a b d5 := ⟨h.wide k, h.fin _ k s⟩
theorem PWay.turn (h : PWay a b d a' b' dk) (k : PermIn a' b' dk d5) : PWay a b d a' b' d5 :=
  ⟨h.lo, h.mid, h.hi, h.all, h.wide k, h.under.permA permIn_all (by rw [h.size]; have := h.hi; have := h.all; omega) k, fun d4 h1 h2 => h.fin d4 (permIn_trans _ _ _ _ _ k h1) h2⟩
theorem pget (h : PermIn a b d d5) {i : Nat} (hi : i < a ∨ b ≤ i) : d5[i]! = d[i]! := h.2.1 i hi

theorem PWay.equal (h : PWay a b d a' b' dk) (p : Int) (h0 : ∀ i, a' ≤ i → i < b' → ltInt dk[i]! p = false) (k : PermIn a' b' dk d5) (hm : a' < m) (hm' : m ≤ b')
    (h1 : ∀ i, a' ≤ i → i < m → ltInt p d5[i]! = false) (h2 : ∀ i, m ≤ i → i < b' → ltInt p d5[i]! = true) : PWay a b d m b' d5 := by
  have hb' : b' ≤ dk.size := by rw [h.size]; have := h.hi; have := h.all; omega
  have hp := permIn_all dk d5 a' b' (fun x => p ≤ x) hb' k (fun i h3 h4 => ltI_f.1 (h0 i h3 h4))
  refine ⟨by have := h.lo; omega, hm', h.hi, h.all, h.wide k, .inr (fun i h3 h4 => ?_), fun d4 h3 h4 => ?_⟩
  · have e1 := ltI_t.1 (h2 i h3 h4)
    have e2 := ltI_f.1 (h1 (m - 1) (by omega) (by omega))
    exact ltI_f.2 (by omega)
  · refine h.fin d4 (permIn_trans _ _ _ _ _ k (permIn_mono _ _ _ _ _ _ (by omega) (Nat.le_refl _) (by rw [k.1]; exact hb') h3)) (fun i j hi hij hj => ?_)
    have hq := permIn_all d5 d4 m b' (fun x => p < x) (by rw [k.1]; exact hb') h3 (fun i h5 h6 => ltI_t.1 (h2 i h5 h6))
    rcases Nat.lt_or_ge j m with hjm | hjm
    · rw [pget h3 (.inl hjm), pget h3 (.inl (by omega))]
      have e1 := ltI_f.1 (h1 i hi (by omega))
      have e2 := hp j (by omega) hj
      exact ltI_f.2 (by omega)
    · rcases Nat.lt_or_ge i m with him | him
      · rw [pget h3 (.inl him)]
        have e1 := ltI_f.1 (h1 i hi him)
        have e2 := hq j hjm hj
        exact ltI_f.2 (by omega)
      · exact h4 i j him hij hj

/-- A row that is parted at m: what is less stands ahead, what is not stands behind. -/
structure Parted (a' b' m : Nat) (d5 : Array Int) : Prop where
  le : a' ≤ m
  lt : m < b'
  less : ∀ i, a' ≤ i → i < m → ltInt d5[i]! d5[m]! = true
  more : ∀ i, m < i → i < b' → ltInt d5[i]! d5[m]! = false

theorem PWay.belowL (h : PWay a b d a' b' d5) (k : Parted a' b' m d5) : Sort.Below ltInt a' m d5 := by
  rcases h.under with e | e
  · exact .inl e
  · exact .inr fun i h1 h2 => e i h1 (by have := k.lt; omega)
theorem PWay.belowR (k : Parted a' b' m d5) : Sort.Below ltInt (m + 1) b' d5 := .inr fun i h1 h2 => k.more i (by omega) h2

theorem PWay.left (h : PWay a b d a' b' d5) (k : Parted a' b' m d5) (h1 : PermIn a' m d5 d6) (h2 : SortedIn ltInt a' m d6) : PWay a b d (m + 1) b' d6 := by
  have hs : b' ≤ d5.size := by rw [h.size]; have := h.hi; have := h.all; omega
  have hw : PermIn a' b' d5 d6 := permIn_mono _ _ _ _ _ _ (Nat.le_refl _) (by have := k.lt; omega) hs h1
  have hl := permIn_all d5 d6 a' m (fun x => x < d5[m]!) (by have := k.lt; omega) h1 (fun i h3 h4 => ltI_t.1 (k.less i h3 h4))
  have hm6 : d6[m]! = d5[m]! := pget h1 (.inr (Nat.le_refl _))
  refine ⟨by have := h.lo; have := k.le; omega, k.lt, h.hi, h.all, h.wide hw, .inr (fun i h3 h4 => ?_), fun d4 h3 h4 => ?_⟩
  · rw [Nat.add_sub_cancel, hm6, pget h1 (.inr (by omega))]
    exact k.more i (by omega) h4
  · have hmr := permIn_all d6 d4 (m + 1) b' (fun x => d5[m]! ≤ x) (by rw [h1.1]; exact hs) h3 (fun i h5 h6 => by rw [pget h1 (.inr (by omega))]; exact ltI_f.1 (k.more i (by omega) h6))
    refine h.fin d4 (permIn_trans _ _ _ _ _ hw (permIn_mono _ _ _ _ _ _ (by have := k.le; omega) (Nat.le_refl _) (by rw [h1.1]; exact hs) h3)) (fun i j hi hij hj => ?_)
    have eL : ∀ t, t < m + 1 → d4[t]! = d6[t]! := fun t ht => pget h3 (.inl ht)
    rcases Nat.lt_trichotomy j m with hjm | hjm | hjm
    · rw [eL j (by omega), eL i (by omega)]; exact h2 i j hi hij hjm
    · subst hjm
      rw [eL j (by omega), eL i (by omega), hm6]
      have := hl i hi hij
      exact ltI_f.2 (by omega)
    · have ej := hmr j (by omega) hj
      rcases Nat.lt_trichotomy i m with him | him | him
      · rw [eL i (by omega)]
        have := hl i hi him
        exact ltI_f.2 (by omega)
      · subst him
        rw [eL i (by omega), hm6]
        exact ltI_f.2 (by omega)
      · exact h4 i j (by omega) hij hj

theorem PWay.right (h : PWay a b d a' b' d5) (k : Parted a' b' m d5) (h1 : PermIn (m + 1) b' d5 d6) (h2 : SortedIn ltInt (m + 1) b' d6) : PWay a b d a' m d6 := by
  have hs : b' ≤ d5.size := by rw [h.size]; have := h.hi; have := h.all; omega
  have hw : PermIn a' b' d5 d6 := permIn_mono _ _ _ _ _ _ (by have := k.le; omega) (Nat.le_refl _) hs h1
  have hr := permIn_all d5 d6 (m + 1) b' (fun x => d5[m]! ≤ x) hs h1 (fun i h3 h4 => ltI_f.1 (k.more i (by omega) h4))
  have hm6 : d6[m]! = d5[m]! := pget h1 (.inl (by omega))
  refine ⟨h.lo, k.le, by have := h.hi; have := k.lt; omega, h.all, h.wide hw, ?_, fun d4 h3 h4 => ?_⟩
  · rcases h.belowL k with e | e
    · exact .inl e
    · refine .inr fun i h3 h4 => ?_
      rw [pget h1 (.inl (by omega)), pget h1 (.inl (by omega))]
      exact e i h3 h4
  · have hl := permIn_all d6 d4 a' m (fun x => x < d5[m]!) (by rw [h1.1]; have := k.lt; omega) h3 (fun i h5 h6 => by rw [pget h1 (.inl (by omega))]; exact ltI_t.1 (k.less i h5 h6))
    refine h.fin d4 (permIn_trans _ _ _ _ _ hw (permIn_mono _ _ _ _ _ _ (Nat.le_refl _) (by have := k.lt; omega) (by rw [h1.1]; exact hs) h3)) (fun i j hi hij hj => ?_)
    have eR : ∀ t, m ≤ t → d4[t]! = d6[t]! := fun t ht => pget h3 (.inr ht)
    rcases Nat.lt_trichotomy j m with hjm | hjm | hjm
    · exact h4 i j hi hij hjm
    · subst hjm
      rw [eR j (Nat.le_refl _), hm6]
      have := hl i hi hij
      exact ltI_f.2 (by omega)
    · rw [eR j (by omega)]
      have ej := hr j (by omega) hj
      rcases Nat.lt_trichotomy i m with him | him | him
      · have := hl i hi him
        exact ltI_f.2 (by omega)
      · subst him
        rw [eR i (Nat.le_refl _), hm6]
        exact ltI_f.2 (by omega)
      · rw [eR i (by omega)]
        exact h2 i j (by omega) hij hj
end
end Go.Kt.Os
/- slices.Sort on numbers of 32 bits: which place a row is parted by. -/
namespace Go.Proofs.YthhepebkfokddaaGreatDoor
open Go Go.RowKit Go.Kt Go.Kt.Os Go.Sort

/-- A row that is read, and the counter beside it. -/
structure PV (w : World) (blk off : Nat) (d : Array Int) (sb : Nat) : Prop where
  row : Holds E32 w blk off d
  ne : sb ≠ blk
  cell : ∃ s : Int, w.cell? ⟨sb, 0, none⟩ = some (.int .i64 s)
  thaw : w.frozen? ⟨sb, 0, none⟩ = false
theorem PV.drewN {w : World} {blk off sb : Nat} {d : Array Int} (h : PV w blk off d sb) (q : Nat) : PV (w.drewN q) blk off d sb := ⟨h.row, h.ne, h.cell, h.thaw⟩
theorem PV.set {w : World} {blk off sb : Nat} {d : Array Int} (h : PV w blk off d sb) (x : Int) : PV (w.setCell ⟨sb, 0, none⟩ (.int .i64 x)) blk off d sb := by
  obtain ⟨s, hs⟩ := h.cell
  have hk : Keep (fun b => b = sb) w (w.setCell ⟨sb, 0, none⟩ (.int .i64 x)) := Keep.setCell (X := fun b => b = sb) (Keep.refl _ _) (p := ⟨sb, 0, none⟩) rfl _
  exact ⟨holds_keep h.row hk (fun e => h.ne e.symm), h.ne, ⟨x, World.cell?_setCell_same _ _ _ hs⟩, by rw [World.frozen?_setCell]; exact h.thaw⟩

set_option maxRecDepth 100000 in
set_option maxHeartbeats 1000000 in
theorem oOrd2 (blk off cap a b n sb : Nat) (d : Array Int) (w : World) (hn : d.size = n) (hP : PV w blk off d sb) (ha : a < n) (hb : b < n) :
    Calls Tryz.prog 169 #[.slice (some ⟨blk, off, none⟩) n cap, .int .i64 a, .int .i64 b, .pointer (some ⟨sb, 0, none⟩)] w fun e w' =>
      ∃ x y : Nat, e = .returned (.tuple #[.int .i64 x, .int .i64 y]) ∧ ((x = a ∧ y = b) ∨ (x = b ∧ y = a)) ∧ PV w' blk off d sb ∧ Keep (fun b => b = sb) w w' := by
  obtain ⟨G, hG⟩ : ∃ G : Nat → Int, ∀ t, G t = d[t]! := ⟨fun t => d[t]!, fun _ => rfl⟩
  have hcw := (SW.refl hP.row).cells hG hn
  obtain ⟨s, hs⟩ := hP.cell
  have hfz := hP.thaw
  have HP := Lib.hid hP
  clear hG hP
  go_enter Tryz.func169, Tryz.ntmps169
  go_wp2
  go_big_quiet (first | (go_at_call 118; refine Calls.quiet_of_same (oLess _ _ _)))
  go_wp2_with fail
  · have HP2 := Lib.hid (HP.out.drewN nq)
    have HK2 : Hid (Keep (fun b => b = sb) w (w.drewN nq)) := Lib.hid ⟨rfl, rfl, rfl, Nat.le_refl _, fun _ _ _ => rfl⟩
    have hs2 : (w.drewN nq).cell? ⟨sb, 0, none⟩ = some (.int .i64 s) := hs
    have hf2 : (w.drewN nq).frozen? ⟨sb, 0, none⟩ = false := hfz
    clear hcw hs hfz
    generalize w.drewN nq = w2 at HP2 HK2 hs2 hf2 ⊢
    go_wp2
    go_ret2
    exact ⟨b, a, rfl, .inr ⟨rfl, rfl⟩, HP2.out.set _, HK2.out.setCell rfl _⟩
  · go_wp2
    go_ret2
    exact ⟨a, b, rfl, .inl ⟨rfl, rfl⟩, HP.out.drewN nq, ⟨rfl, rfl, rfl, Nat.le_refl _, fun _ _ _ => rfl⟩⟩

set_option maxRecDepth 100000 in
set_option maxHeartbeats 1000000 in
theorem oMed (blk off cap a b c n sb : Nat) (d : Array Int) (w : World) (hn : d.size = n) (hP : PV w blk off d sb) (ha : a < n) (hb : b < n) (hc : c < n) :
    Calls Tryz.prog 162 #[.slice (some ⟨blk, off, none⟩) n cap, .int .i64 a, .int .i64 b, .int .i64 c, .pointer (some ⟨sb, 0, none⟩)] w fun e w' =>
      ∃ x : Nat, e = .returned (.int .i64 x) ∧ (x = a ∨ x = b ∨ x = c) ∧ PV w' blk off d sb ∧ Keep (fun b => b = sb) w w' := by
  have C1 := Lib.hid (oOrd2 blk off cap a b n sb d w hn hP ha hb)
  have HN := Lib.hid hn
  clear hP hn
  go_enter Tryz.func162, Tryz.ntmps162
  go_wp2_with fail
  refine C1.out.mono ?_
  rintro e w1 ⟨a1, b1, rfl, h1, hP1, hK1⟩
  clear C1
  have C2 := Lib.hid (oOrd2 blk off cap b1 c n sb d w1 HN.out hP1 (by omega) hc)
  have HK1 := Lib.hid hK1
  clear hP1 hK1
  go_wp2_with fail
  refine C2.out.mono ?_
  rintro e w2 ⟨b2, c2, rfl, h2, hP2, hK2⟩
  clear C2
  have C3 := Lib.hid (oOrd2 blk off cap a1 b2 n sb d w2 HN.out hP2 (by omega) (by omega))
  have HK2 := Lib.hid hK2
  clear hP2 hK2
  go_wp2_with fail
  refine C3.out.mono ?_
  rintro e w3 ⟨a3, b3, rfl, h3, hP3, hK3⟩
  clear C3
  have HP3 := Lib.hid hP3
  have HK3 := Lib.hid hK3
  have HX := Lib.hid (show b3 = a ∨ b3 = b ∨ b3 = c by omega)
  clear hP3 hK3 h1 h2 h3
  go_wp2
  go_ret
  exact ⟨b3, rfl, HX.out, HP3.out, (HK1.out.trans HK2.out).trans HK3.out⟩

set_option maxRecDepth 100000 in
set_option maxHeartbeats 1000000 in
theorem oAdj (blk off cap a n sb : Nat) (d : Array Int) (w : World) (hn : d.size = n) (hP : PV w blk off d sb) (ha0 : 1 ≤ a) (ha : a + 1 < n) (hsz : n < 4611686018427387904) :
    Calls Tryz.prog 161 #[.slice (some ⟨blk, off, none⟩) n cap, .int .i64 a, .pointer (some ⟨sb, 0, none⟩)] w fun e w' =>
      ∃ x : Nat, e = .returned (.int .i64 x) ∧ (a - 1 ≤ x ∧ x ≤ a + 1) ∧ PV w' blk off d sb ∧ Keep (fun b => b = sb) w w' := by
  have C0 := oMed blk off cap (a - 1) a (a + 1) n sb d w hn hP (by omega) (by omega) ha
  rw [show ((a - 1 : Nat) : Int) = (a : Int) - 1 by omega, show ((a + 1 : Nat) : Int) = (a : Int) + 1 by omega] at C0
  have C1 := Lib.hid C0
  clear C0 hP hn
  go_enter Tryz.func161, Tryz.ntmps161
  go_wp2_with fail
  refine C1.out.mono ?_
  rintro e w1 ⟨x, rfl, h1, hP1, hK1⟩
  clear C1
  have HP1 := Lib.hid hP1
  have HK1 := Lib.hid hK1
  have HX := Lib.hid (show a - 1 ≤ x ∧ x ≤ a + 1 by omega)
  clear hP1 hK1 h1
  go_wp2
  go_ret
  exact ⟨x, rfl, HX.out, HP1.out, HK1.out⟩
end Go.Proofs.YthhepebkfokddaaGreatDoor
/- slices.Sort on numbers of 32 bits: the place that parts a row lies in it. -/
namespace Go.Proofs.YthhepebkfokddaaGreatDoor
open Go Go.RowKit Go.Kt Go.Kt.Os Go.Sort

set_option maxRecDepth 100000 in
set_option maxHeartbeats 1000000 in
theorem oPivot (blk off cap a l n : Nat) (d : Array Int) (w : World) (hn : d.size = n) (hH : Holds E32 w blk off d) (hblk : blk < w.heap.size) (hl8 : 8 ≤ l) (hb : a + l ≤ n) (hsz : n < 4611686018427387904) :
    Calls Tryz.prog 141 #[.slice (some ⟨blk, off, none⟩) n cap, .int .i64 a, .int .i64 ((a : Int) + (l : Int))] w fun e w' =>
      ∃ (x : Nat) (h : Int), e = .returned (.tuple #[.int .i64 x, .int .i64 h]) ∧ a ≤ x ∧ x < a + l ∧ SW w blk off d w' := by
  have HS1 := Lib.hid (SW.refl hH)
  have HN := Lib.hid hn
  clear hH hn
  have EL := Lib.hid (show (a : Int) + (l : Int) - (a : Int) = (l : Int) by omega)
  obtain ⟨q, hq⟩ : ∃ q, q = l / 4 := ⟨_, rfl⟩
  have hq1 : 4 * q ≤ l := by omega
  have hq2 : l < 4 * q + 4 := by omega
  have EQ := Lib.hid (show (l : Int) / 4 = (q : Int) by omega)
  clear hq
  have hlz : (8 : Int) ≤ (a : Int) + (l : Int) - (a : Int) := by omega
  have HP : Hid (PV (w.alloc (.cells #[.int .i64 0] 3)) blk off d w.heap.size) := Lib.hid ⟨holds_keep HS1.out.holds ((Keep.refl (fun _ => False) w).alloc _) id, by omega, ⟨0, by rw [World.cell?_alloc_at _ _ _ _ (by simp)]; rfl⟩, World.frozen?_alloc_new _ _ _ _⟩
  have HK : Hid (SW w blk off d (w.alloc (.cells #[.int .i64 0] 3))) := Lib.hid ⟨(Keep.refl _ _).alloc _, HP.out.row⟩
  have FIN : ∀ W, Keep (fun b => b = w.heap.size) (w.alloc (.cells #[.int .i64 0] 3)) W → SW w blk off d W := fun W k => HK.out.then (k.weaken fun b _ e => by subst e; exact ⟨by omega, Nat.le_refl _⟩)
  have HF := Lib.hid FIN
  clear FIN HK
  by_cases h50 : 50 ≤ l
  · have h50z : (50 : Int) ≤ (a : Int) + (l : Int) - (a : Int) := by omega
    go_enter Tryz.func141, Tryz.ntmps141
    go_wp2_with fail
    rw [EL.out, EQ.out]
    have C0 := oAdj blk off cap (a + q) n w.heap.size d _ HN.out HP.out (by omega) (by omega) hsz
    rw [show ((a + q : Nat) : Int) = (a : Int) + (q : Int) by omega] at C0
    have C := Lib.hid C0
    clear C0
    refine C.out.mono ?_
    rintro e w1 ⟨x1, rfl, hx1, hp1, hk1⟩
    clear C
    have HP1 := Lib.hid hp1
    have HK1 := Lib.hid (hk1)
    clear hp1 hk1
    have C0 := oAdj blk off cap (a + q * 2) n w.heap.size d w1 HN.out HP1.out (by omega) (by omega) hsz
    rw [show ((a + q * 2 : Nat) : Int) = (a : Int) + (q : Int) * 2 by omega] at C0
    have C := Lib.hid C0
    clear C0
    go_wp2_with fail
    refine C.out.mono ?_
    rintro e w2 ⟨x2, rfl, hx2, hp2, hk2⟩
    clear C
    have HP2 := Lib.hid hp2
    have HK2 := Lib.hid (HK1.out.trans hk2)
    clear hp2 hk2
    have C0 := oAdj blk off cap (a + q * 3) n w.heap.size d w2 HN.out HP2.out (by omega) (by omega) hsz
    rw [show ((a + q * 3 : Nat) : Int) = (a : Int) + (q : Int) * 3 by omega] at C0
    have C := Lib.hid C0
    clear C0
    go_wp2_with fail
    refine C.out.mono ?_
    rintro e w3 ⟨x3, rfl, hx3, hp3, hk3⟩
    clear C
    have HP3 := Lib.hid hp3
    have HK3 := Lib.hid (HK2.out.trans hk3)
    clear hp3 hk3
    have C := Lib.hid (oMed blk off cap x1 x2 x3 n w.heap.size d w3 HN.out HP3.out (by omega) (by omega) (by omega))
    go_wp2_with fail
    refine C.out.mono ?_
    rintro e w4 ⟨x4, rfl, hx4, hp4, hk4⟩
    clear C
    obtain ⟨s, hs⟩ := hp4.cell
    have HB := Lib.hid (show a ≤ x4 ∧ x4 < a + l by omega)
    have HS := Lib.hid (HF.out w4 (HK3.out.trans hk4))
    clear hp4 hk4 hx1 hx2 hx3 hx4
    go_wp2
    all_goals go_ret2
    all_goals exact ⟨x4, _, rfl, HB.out.1, HB.out.2, HS.out⟩
  · have h50z : (a : Int) + (l : Int) - (a : Int) < 50 := by omega
    go_enter Tryz.func141, Tryz.ntmps141
    go_wp2_with fail
    rw [EL.out, EQ.out]
    have C0 := oMed blk off cap (a + q) (a + q * 2) (a + q * 3) n w.heap.size d _ HN.out HP.out (by omega) (by omega) (by omega)
    rw [show ((a + q : Nat) : Int) = (a : Int) + (q : Int) by omega, show ((a + q * 2 : Nat) : Int) = (a : Int) + (q : Int) * 2 by omega, show ((a + q * 3 : Nat) : Int) = (a : Int) + (q : Int) * 3 by omega] at C0
    have C := Lib.hid C0
    clear C0
    refine C.out.mono ?_
    rintro e w4 ⟨x4, rfl, hx4, hp4, hk4⟩
    clear C
    obtain ⟨s, hs⟩ := hp4.cell
    have HB := Lib.hid (show a ≤ x4 ∧ x4 < a + l by omega)
    have HS := Lib.hid (HF.out w4 hk4)
    clear hp4 hk4 hx4
    go_wp2
    all_goals go_ret2
    all_goals exact ⟨x4, _, rfl, HB.out.1, HB.out.2, HS.out⟩
end Go.Proofs.YthhepebkfokddaaGreatDoor
