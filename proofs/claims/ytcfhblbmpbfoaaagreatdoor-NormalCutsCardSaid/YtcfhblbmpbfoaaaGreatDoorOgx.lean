/- slices.Sort on numbers of 32 bits: a row that is nearly in order. -/
import Derived.Test.YtcfhblbmpbfoaaaGreatDoorGv4
namespace Go.Proofs.YtcfhblbmpbfoaaaGreatDoor
open Go Go.RowKit Go.Kt Go.Kt.Os Go.Sort

set_option maxRecDepth 100000 in
set_option maxHeartbeats 2000000 in
theorem oPins (blk off cap a b n : Nat) (d : Array Int) (w : World) (hn : d.size = n) (hH : Holds E32 w blk off d) (hab : a < b) (hb : b ≤ n) (hsz : n < 4611686018427387904) :
    Calls Tryz.prog 199 #[.slice (some ⟨blk, off, none⟩) n cap, .int .i64 a, .int .i64 b] w fun e w' =>
      e = .returned (.bool (partialInsertionSort ltInt d a b).2) ∧ SW w blk off (partialInsertionSort ltInt d a b).1 w' := by
  have HS1 := Lib.hid (SW.refl hH)
  have HN := Lib.hid hn
  clear hH hn
  have EP := Lib.hid (show partialInsertionSort ltInt d a b = partialIns ltInt a b (5 - 0) (a + 1) d from rfl)
  go_enter Tryz.func199, Tryz.ntmps199
  go_wp2
  go_loopw [7, 8] (fun vi vs wr => ∃ (i s : Nat) (dk : Array Int), vi = .int .i64 i ∧ vs = .int .i64 s ∧ a < i ∧ i ≤ b ∧ s ≤ 5 ∧ Hid (dk.size = n ∧ SW w blk off dk wr ∧ partialIns ltInt a b (5 - s) i dk = partialIns ltInt a b (5 - 0) (a + 1) d)) (fun vi vs _ => 5 - (RowKit.intOf vs).toNat)
  case atStart => exact ⟨a + 1, 0, d, by go_num, rfl, by omega, by omega, by omega, Lib.hid ⟨HN.out, HS1.out, rfl⟩⟩
  case round =>
    obtain ⟨i, s, dk, rfl, rfl, hai, hib, hs5, hh⟩ := hrel
    clear HS1
    obtain ⟨G, hG⟩ : ∃ G : Nat → Int, ∀ t, G t = dk[t]! := ⟨fun t => dk[t]!, fun _ => rfl⟩
    have HG := Lib.hid hG
    have HD := Lib.hid hh.out.1
    have HS0 := Lib.hid hh.out.2.1
    have HE := Lib.hid hh.out.2.2
    clear hG hh
    by_cases hs : s < 5
    · have hsz : (s : Int) < 5 := by omega
      go_wp2_with fail
      go_loopw [7] (fun vi w1 => ∃ i' : Nat, vi = .int .i64 i' ∧ i ≤ i' ∧ i' ≤ b ∧ Hid (SW w blk off dk w1 ∧ scanSorted ltInt dk b i' = scanSorted ltInt dk b i)) (fun vi _ => b - (RowKit.intOf vi).toNat)
      case atStart => exact ⟨i, rfl, Nat.le_refl _, hib, Lib.hid ⟨HS0.out, rfl⟩⟩
      case round =>
        obtain ⟨i', rfl, hii, hib', hs1⟩ := hrel
        have hcw := hs1.out.1.cells HG.out HD.out
        clear HS0
        by_cases hle : i' < b
        · have hne : ((i' : Int) == (b : Int)) = false := beq_eq_false_iff_ne.2 (by omega)
          have hnf := Lib.hid hne
          by_cases h50 : b - a < 50
          · have h50z : (b : Int) - (a : Int) < 50 := by omega
            go_wp2_with fail
            go_big_quiet (first | (go_at_call 175; refine Calls.quiet_of_same (oLess _ _ _)))
            go_wp2_with fail
            · have ht : (!ltInt (G i') (G (i' - 1))) = true := by assumption
              (try go_wp2)
              go_roundw
              case rel => exact ⟨i' + 1, by go_num, by omega, by omega, Lib.hid ⟨hs1.out.1.drewN nq, (ss_go ltInt dk b i' hle (by rw [← HG.out, ← HG.out]; simpa using ht)).symm.trans hs1.out.2⟩⟩
              case measure => simp [RowKit.intOf]; omega
            · have ht : (!ltInt (G i') (G (i' - 1))) = false := by assumption
              have hK : Hid (scanSorted ltInt dk b i = i') := Lib.hid (hs1.out.2.symm.trans (ss_stop ltInt dk b i' (.inr (by rw [← HG.out, ← HG.out]; simpa using ht))))
              (try go_wp2)
              go_ret
              rw [EP.out, ← HE.out, pi_short ltInt a b s i i' dk hs hK.out (by omega) h50]
              exact ⟨rfl, hs1.out.1.drewN nq⟩
          · by_cases c1 : i' - a ≥ 2
            · by_cases c2 : b - i' ≥ 2
              · have h50z : (50 : Int) ≤ (b : Int) - (a : Int) := by omega
                have c1z : (2 : Int) ≤ (i' : Int) - (a : Int) := by omega
                have c2z : (2 : Int) ≤ (b : Int) - (i' : Int) := by omega
                go_wp2_with fail
                go_big_quiet (first | (go_at_call 175; refine Calls.quiet_of_same (oLess _ _ _)))
                go_wp2_with fail
                · have ht : (!ltInt (G i') (G (i' - 1))) = true := by assumption
                  (try go_wp2)
                  go_roundw
                  case rel => exact ⟨i' + 1, by go_num, by omega, by omega, Lib.hid ⟨hs1.out.1.drewN nq, (ss_go ltInt dk b i' hle (by rw [← HG.out, ← HG.out]; simpa using ht)).symm.trans hs1.out.2⟩⟩
                  case measure => simp [RowKit.intOf]; omega
                · have ht : (!ltInt (G i') (G (i' - 1))) = false := by assumption
                  have hK : Hid (scanSorted ltInt dk b i = i') := Lib.hid (hs1.out.2.symm.trans (ss_stop ltInt dk b i' (.inr (by rw [← HG.out, ← HG.out]; simpa using ht))))
                  have HS := Lib.hid (hs1.out.1.drewN nq)
                  clear ht hcw hs1
                  generalize wr.drewN nq = w3 at HS ⊢
                  clear nq
                  have hcw := HS.out.cells HG.out HD.out
                  have hfw := HS.out.thaw HD.out
                  have HS5 := Lib.hid (HS.out.swapq HG.out (i := i') (j := i' - 1) (by have := HD.out; omega) (by have := HD.out; omega) 0 1)
                  go_region
                  go_wp2_with fail
                  replace HS5 : Hid (SW w blk off (swp dk i' (i' - 1)) ((w3.setCell ⟨blk, off + i', none⟩ (.int .i32 (G (i' - 1)))).setCell ⟨blk, off + (i' - 1), none⟩ (.int .i32 (G i'))).drew) := HS5
                  generalize ((w3.setCell ⟨blk, off + i', none⟩ (.int .i32 (G (i' - 1)))).setCell ⟨blk, off + (i' - 1), none⟩ (.int .i32 (G i'))).drew = w5 at HS5 ⊢
                  obtain ⟨d1, hd1⟩ : ∃ d1, d1 = swp dk i' (i' - 1) := ⟨_, rfl⟩
                  rw [← hd1] at HS5
                  have HD1 : Hid (d1.size = n) := Lib.hid (by rw [hd1, size_swp]; exact HD.out)
                  have PG := Lib.hid (fun (d2 d3 : Array Int) (h2 : d2 = if i' - a ≥ 2 then shiftDown ltInt (i' - 1) d1 else d1) (h3 : d3 = if b - i' ≥ 2 then shiftUp ltInt b (i' + 1) d2 else d2) => (pi_go ltInt a b s i i' dk hs hK.out (by omega) h50 hd1 h2 h3).symm.trans HE.out)
                  clear hcw hfw HS hK hd1 HD HE
                  go_loopw [9] (fun vj wr => ∃ (j : Nat) (dj : Array Int), vj = .int .i64 j ∧ j + 1 ≤ i' ∧ Hid (dj.size = n ∧ SW w blk off dj wr ∧ shiftDown ltInt j dj = shiftDown ltInt (i' - 1) d1)) (fun vj _ => (RowKit.intOf vj).toNat)
                  case atStart => exact ⟨i' - 1, d1, by go_num, by omega, Lib.hid ⟨HD1.out, HS5.out, rfl⟩⟩
                  case round =>
                    clear HS5 HD1
                    obtain ⟨j, dj, rfl, hj, hg⟩ := hrel
                    obtain ⟨G3, hG⟩ : ∃ G : Nat → Int, ∀ t, G t = dj[t]! := ⟨fun t => dj[t]!, fun _ => rfl⟩
                    have HG3 := Lib.hid hG
                    clear hG
                    by_cases hj1 : 1 ≤ j
                    · have hj1z : (1 : Int) ≤ (j : Int) := by omega
                      have hcw := hg.out.2.1.cells HG3.out hg.out.1
                      go_wp2_with fail
                      go_big_quiet (first | (go_at_call 175; refine Calls.quiet_of_same (oLess _ _ _)))
                      go_wp2_with fail
                      · have ht : (!ltInt (G3 j) (G3 (j - 1))) = true := by assumption
                        have PG3 := Lib.hid (fun d3 h3 => PG.out dj d3 ((if_pos c1).trans (hg.out.2.2.symm.trans (sdn_stop ltInt j dj (.inr (by rw [← HG3.out, ← HG3.out]; simpa using ht))))).symm h3)
                        have HD2 := Lib.hid hg.out.1
                        have HS6 := Lib.hid (hg.out.2.1.drewN nq)
                        clear hcw hg ht
                        generalize wr.drewN nq = w6 at HS6 ⊢
                        clear nq
                        go_wp2_with fail
                        go_loopw [10] (fun vj wr => ∃ (j : Nat) (dl : Array Int), vj = .int .i64 j ∧ i' + 1 ≤ j ∧ j ≤ b ∧ Hid (dl.size = n ∧ SW w blk off dl wr ∧ shiftUp ltInt b j dl = shiftUp ltInt b (i' + 1) dj)) (fun vj _ => b - (RowKit.intOf vj).toNat)
                        case atStart => exact ⟨i' + 1, dj, by go_num, by omega, by omega, Lib.hid ⟨HD2.out, HS6.out, rfl⟩⟩
                        case round =>
                          clear HS6 HD2
                          obtain ⟨j4, dl, rfl, hj4, hj4b, hg⟩ := hrel
                          obtain ⟨G4, hG⟩ : ∃ G : Nat → Int, ∀ t, G t = dl[t]! := ⟨fun t => dl[t]!, fun _ => rfl⟩
                          have HG4 := Lib.hid hG
                          clear hG
                          by_cases hj1 : j4 < b
                          · have hj1z : (j4 : Int) < (b : Int) := by omega
                            have hcw := hg.out.2.1.cells HG4.out hg.out.1
                            go_wp2_with fail
                            go_big_quiet (first | (go_at_call 175; refine Calls.quiet_of_same (oLess _ _ _)))
                            go_wp2_with fail
                            · have ht : (!ltInt (G4 j4) (G4 (j4 - 1))) = true := by assumption
                              have HQ : Hid (shiftUp ltInt b (i' + 1) dj = dl) := Lib.hid (hg.out.2.2.symm.trans (sup_stop ltInt b j4 dl (.inr (by rw [← HG4.out, ← HG4.out]; simpa using ht))))
                              (try go_wp2)
                              go_roundw
                              case rel => exact ⟨i', s + 1, dl, rfl, by go_num, by omega, by omega, by omega, Lib.hid ⟨hg.out.1, hg.out.2.1.drewN nq, PG3.out dl ((if_pos c2).trans HQ.out).symm⟩⟩
                              case measure => simp [RowKit.intOf]; omega
                            · have ht : (!ltInt (G4 j4) (G4 (j4 - 1))) = false := by assumption
                              have HS7 := Lib.hid (hg.out.2.1.drewN nq)
                              clear hcw
                              generalize wr.drewN nq = w7 at HS7 ⊢
                              clear nq
                              have hcw := HS7.out.cells HG4.out hg.out.1
                              have hfw := HS7.out.thaw hg.out.1
                              go_region
                              all_goals go_wp2
                              go_roundw
                              case rel => exact ⟨j4 + 1, swp dl j4 (j4 - 1), by go_num, by omega, by omega, Lib.hid ⟨by rw [size_swp]; exact hg.out.1, HS7.out.swapq HG4.out (by have := hg.out.1; omega) (by have := hg.out.1; omega) 0 1, (sup_go ltInt b j4 dl hj1 (by rw [← HG4.out, ← HG4.out]; simpa using ht)).symm.trans hg.out.2.2⟩⟩
                              case measure => simp [RowKit.intOf]; omega
                          · have hj1z : (b : Int) ≤ (j4 : Int) := by omega
                            have HQ : Hid (shiftUp ltInt b (i' + 1) dj = dl) := Lib.hid (hg.out.2.2.symm.trans (sup_stop ltInt b j4 dl (.inl hj1)))
                            go_wp2
                            go_roundw
                            case rel => exact ⟨i', s + 1, dl, rfl, by go_num, by omega, by omega, by omega, Lib.hid ⟨hg.out.1, hg.out.2.1, PG3.out dl ((if_pos c2).trans HQ.out).symm⟩⟩
                            case measure => simp [RowKit.intOf]; omega
                      · have ht : (!ltInt (G3 j) (G3 (j - 1))) = false := by assumption
                        have HS6 := Lib.hid (hg.out.2.1.drewN nq)
                        clear hcw
                        generalize wr.drewN nq = w6 at HS6 ⊢
                        clear nq
                        have hcw := HS6.out.cells HG3.out hg.out.1
                        have hfw := HS6.out.thaw hg.out.1
                        go_region
                        all_goals go_wp2
                        go_roundw
                        case rel => exact ⟨j - 1, swp dj j (j - 1), by go_num, by omega, Lib.hid ⟨by rw [size_swp]; exact hg.out.1, HS6.out.swapq HG3.out (by have := hg.out.1; omega) (by have := hg.out.1; omega) 0 1, (sdn_go ltInt j dj hj1 (by rw [← HG3.out, ← HG3.out]; simpa using ht)).symm.trans hg.out.2.2⟩⟩
                        case measure => simp [RowKit.intOf]; omega
                    · have hj1z : (j : Int) < 1 := by omega
                      have PG3 := Lib.hid (fun d3 h3 => PG.out dj d3 ((if_pos c1).trans (hg.out.2.2.symm.trans (sdn_stop ltInt j dj (.inl hj1)))).symm h3)
                      have HD2 := Lib.hid hg.out.1
                      have HS6 := Lib.hid hg.out.2.1
                      clear hg
                      go_wp2_with fail
                      go_loopw [10] (fun vj wr => ∃ (j : Nat) (dl : Array Int), vj = .int .i64 j ∧ i' + 1 ≤ j ∧ j ≤ b ∧ Hid (dl.size = n ∧ SW w blk off dl wr ∧ shiftUp ltInt b j dl = shiftUp ltInt b (i' + 1) dj)) (fun vj _ => b - (RowKit.intOf vj).toNat)
                      case atStart => exact ⟨i' + 1, dj, by go_num, by omega, by omega, Lib.hid ⟨HD2.out, HS6.out, rfl⟩⟩
                      case round =>
                        clear HS6 HD2
                        obtain ⟨j4, dl, rfl, hj4, hj4b, hg⟩ := hrel
                        obtain ⟨G4, hG⟩ : ∃ G : Nat → Int, ∀ t, G t = dl[t]! := ⟨fun t => dl[t]!, fun _ => rfl⟩
                        have HG4 := Lib.hid hG
                        clear hG
                        by_cases hj1 : j4 < b
                        · have hj1z : (j4 : Int) < (b : Int) := by omega
                          have hcw := hg.out.2.1.cells HG4.out hg.out.1
                          go_wp2_with fail
                          go_big_quiet (first | (go_at_call 175; refine Calls.quiet_of_same (oLess _ _ _)))
                          go_wp2_with fail
                          · have ht : (!ltInt (G4 j4) (G4 (j4 - 1))) = true := by assumption
                            have HQ : Hid (shiftUp ltInt b (i' + 1) dj = dl) := Lib.hid (hg.out.2.2.symm.trans (sup_stop ltInt b j4 dl (.inr (by rw [← HG4.out, ← HG4.out]; simpa using ht))))
                            (try go_wp2)
                            go_roundw
                            case rel => exact ⟨i', s + 1, dl, rfl, by go_num, by omega, by omega, by omega, Lib.hid ⟨hg.out.1, hg.out.2.1.drewN nq, PG3.out dl ((if_pos c2).trans HQ.out).symm⟩⟩
                            case measure => simp [RowKit.intOf]; omega
                          · have ht : (!ltInt (G4 j4) (G4 (j4 - 1))) = false := by assumption
                            have HS7 := Lib.hid (hg.out.2.1.drewN nq)
                            clear hcw
                            generalize wr.drewN nq = w7 at HS7 ⊢
                            clear nq
                            have hcw := HS7.out.cells HG4.out hg.out.1
                            have hfw := HS7.out.thaw hg.out.1
                            go_region
                            all_goals go_wp2
                            go_roundw
                            case rel => exact ⟨j4 + 1, swp dl j4 (j4 - 1), by go_num, by omega, by omega, Lib.hid ⟨by rw [size_swp]; exact hg.out.1, HS7.out.swapq HG4.out (by have := hg.out.1; omega) (by have := hg.out.1; omega) 0 1, (sup_go ltInt b j4 dl hj1 (by rw [← HG4.out, ← HG4.out]; simpa using ht)).symm.trans hg.out.2.2⟩⟩
                            case measure => simp [RowKit.intOf]; omega
                        · have hj1z : (b : Int) ≤ (j4 : Int) := by omega
                          have HQ : Hid (shiftUp ltInt b (i' + 1) dj = dl) := Lib.hid (hg.out.2.2.symm.trans (sup_stop ltInt b j4 dl (.inl hj1)))
                          go_wp2
                          go_roundw
                          case rel => exact ⟨i', s + 1, dl, rfl, by go_num, by omega, by omega, by omega, Lib.hid ⟨hg.out.1, hg.out.2.1, PG3.out dl ((if_pos c2).trans HQ.out).symm⟩⟩
                          case measure => simp [RowKit.intOf]; omega
              · have h50z : (50 : Int) ≤ (b : Int) - (a : Int) := by omega
                have c1z : (2 : Int) ≤ (i' : Int) - (a : Int) := by omega
                have c2z : (b : Int) - (i' : Int) < 2 := by omega
                go_wp2_with fail
                go_big_quiet (first | (go_at_call 175; refine Calls.quiet_of_same (oLess _ _ _)))
                go_wp2_with fail
                · have ht : (!ltInt (G i') (G (i' - 1))) = true := by assumption
                  (try go_wp2)
                  go_roundw
                  case rel => exact ⟨i' + 1, by go_num, by omega, by omega, Lib.hid ⟨hs1.out.1.drewN nq, (ss_go ltInt dk b i' hle (by rw [← HG.out, ← HG.out]; simpa using ht)).symm.trans hs1.out.2⟩⟩
                  case measure => simp [RowKit.intOf]; omega
                · have ht : (!ltInt (G i') (G (i' - 1))) = false := by assumption
                  have hK : Hid (scanSorted ltInt dk b i = i') := Lib.hid (hs1.out.2.symm.trans (ss_stop ltInt dk b i' (.inr (by rw [← HG.out, ← HG.out]; simpa using ht))))
                  have HS := Lib.hid (hs1.out.1.drewN nq)
                  clear ht hcw hs1
                  generalize wr.drewN nq = w3 at HS ⊢
                  clear nq
                  have hcw := HS.out.cells HG.out HD.out
                  have hfw := HS.out.thaw HD.out
                  have HS5 := Lib.hid (HS.out.swapq HG.out (i := i') (j := i' - 1) (by have := HD.out; omega) (by have := HD.out; omega) 0 1)
                  go_region
                  go_wp2_with fail
                  replace HS5 : Hid (SW w blk off (swp dk i' (i' - 1)) ((w3.setCell ⟨blk, off + i', none⟩ (.int .i32 (G (i' - 1)))).setCell ⟨blk, off + (i' - 1), none⟩ (.int .i32 (G i'))).drew) := HS5
                  generalize ((w3.setCell ⟨blk, off + i', none⟩ (.int .i32 (G (i' - 1)))).setCell ⟨blk, off + (i' - 1), none⟩ (.int .i32 (G i'))).drew = w5 at HS5 ⊢
                  obtain ⟨d1, hd1⟩ : ∃ d1, d1 = swp dk i' (i' - 1) := ⟨_, rfl⟩
                  rw [← hd1] at HS5
                  have HD1 : Hid (d1.size = n) := Lib.hid (by rw [hd1, size_swp]; exact HD.out)
                  have PG := Lib.hid (fun (d2 d3 : Array Int) (h2 : d2 = if i' - a ≥ 2 then shiftDown ltInt (i' - 1) d1 else d1) (h3 : d3 = if b - i' ≥ 2 then shiftUp ltInt b (i' + 1) d2 else d2) => (pi_go ltInt a b s i i' dk hs hK.out (by omega) h50 hd1 h2 h3).symm.trans HE.out)
                  clear hcw hfw HS hK hd1 HD HE
                  go_loopw [9] (fun vj wr => ∃ (j : Nat) (dj : Array Int), vj = .int .i64 j ∧ j + 1 ≤ i' ∧ Hid (dj.size = n ∧ SW w blk off dj wr ∧ shiftDown ltInt j dj = shiftDown ltInt (i' - 1) d1)) (fun vj _ => (RowKit.intOf vj).toNat)
                  case atStart => exact ⟨i' - 1, d1, by go_num, by omega, Lib.hid ⟨HD1.out, HS5.out, rfl⟩⟩
                  case round =>
                    clear HS5 HD1
                    obtain ⟨j, dj, rfl, hj, hg⟩ := hrel
                    obtain ⟨G3, hG⟩ : ∃ G : Nat → Int, ∀ t, G t = dj[t]! := ⟨fun t => dj[t]!, fun _ => rfl⟩
                    have HG3 := Lib.hid hG
                    clear hG
                    by_cases hj1 : 1 ≤ j
                    · have hj1z : (1 : Int) ≤ (j : Int) := by omega
                      have hcw := hg.out.2.1.cells HG3.out hg.out.1
                      go_wp2_with fail
                      go_big_quiet (first | (go_at_call 175; refine Calls.quiet_of_same (oLess _ _ _)))
                      go_wp2_with fail
                      · have ht : (!ltInt (G3 j) (G3 (j - 1))) = true := by assumption
                        have PG3 := Lib.hid (fun d3 h3 => PG.out dj d3 ((if_pos c1).trans (hg.out.2.2.symm.trans (sdn_stop ltInt j dj (.inr (by rw [← HG3.out, ← HG3.out]; simpa using ht))))).symm h3)
                        have HD2 := Lib.hid hg.out.1
                        have HS6 := Lib.hid (hg.out.2.1.drewN nq)
                        clear hcw hg ht
                        generalize wr.drewN nq = w6 at HS6 ⊢
                        clear nq
                        (try go_wp2)
                        go_roundw
                        case rel => exact ⟨i', s + 1, dj, rfl, by go_num, by omega, by omega, by omega, Lib.hid ⟨HD2.out, HS6.out, PG3.out dj (if_neg c2).symm⟩⟩
                        case measure => simp [RowKit.intOf]; omega
                      · have ht : (!ltInt (G3 j) (G3 (j - 1))) = false := by assumption
                        have HS6 := Lib.hid (hg.out.2.1.drewN nq)
                        clear hcw
                        generalize wr.drewN nq = w6 at HS6 ⊢
                        clear nq
                        have hcw := HS6.out.cells HG3.out hg.out.1
                        have hfw := HS6.out.thaw hg.out.1
                        go_region
                        all_goals go_wp2
                        go_roundw
                        case rel => exact ⟨j - 1, swp dj j (j - 1), by go_num, by omega, Lib.hid ⟨by rw [size_swp]; exact hg.out.1, HS6.out.swapq HG3.out (by have := hg.out.1; omega) (by have := hg.out.1; omega) 0 1, (sdn_go ltInt j dj hj1 (by rw [← HG3.out, ← HG3.out]; simpa using ht)).symm.trans hg.out.2.2⟩⟩
                        case measure => simp [RowKit.intOf]; omega
                    · have hj1z : (j : Int) < 1 := by omega
                      have PG3 := Lib.hid (fun d3 h3 => PG.out dj d3 ((if_pos c1).trans (hg.out.2.2.symm.trans (sdn_stop ltInt j dj (.inl hj1)))).symm h3)
                      have HD2 := Lib.hid hg.out.1
                      have HS6 := Lib.hid hg.out.2.1
                      clear hg
                      (try go_wp2)
                      go_roundw
                      case rel => exact ⟨i', s + 1, dj, rfl, by go_num, by omega, by omega, by omega, Lib.hid ⟨HD2.out, HS6.out, PG3.out dj (if_neg c2).symm⟩⟩
                      case measure => simp [RowKit.intOf]; omega
            · by_cases c2 : b - i' ≥ 2
              · have h50z : (50 : Int) ≤ (b : Int) - (a : Int) := by omega
                have c1z : (i' : Int) - (a : Int) < 2 := by omega
                have c2z : (2 : Int) ≤ (b : Int) - (i' : Int) := by omega
                go_wp2_with fail
                go_big_quiet (first | (go_at_call 175; refine Calls.quiet_of_same (oLess _ _ _)))
                go_wp2_with fail
                · have ht : (!ltInt (G i') (G (i' - 1))) = true := by assumption
                  (try go_wp2)
                  go_roundw
                  case rel => exact ⟨i' + 1, by go_num, by omega, by omega, Lib.hid ⟨hs1.out.1.drewN nq, (ss_go ltInt dk b i' hle (by rw [← HG.out, ← HG.out]; simpa using ht)).symm.trans hs1.out.2⟩⟩
                  case measure => simp [RowKit.intOf]; omega
                · have ht : (!ltInt (G i') (G (i' - 1))) = false := by assumption
                  have hK : Hid (scanSorted ltInt dk b i = i') := Lib.hid (hs1.out.2.symm.trans (ss_stop ltInt dk b i' (.inr (by rw [← HG.out, ← HG.out]; simpa using ht))))
                  have HS := Lib.hid (hs1.out.1.drewN nq)
                  clear ht hcw hs1
                  generalize wr.drewN nq = w3 at HS ⊢
                  clear nq
                  have hcw := HS.out.cells HG.out HD.out
                  have hfw := HS.out.thaw HD.out
                  have HS5 := Lib.hid (HS.out.swapq HG.out (i := i') (j := i' - 1) (by have := HD.out; omega) (by have := HD.out; omega) 0 1)
                  go_region
                  go_wp2_with fail
                  replace HS5 : Hid (SW w blk off (swp dk i' (i' - 1)) ((w3.setCell ⟨blk, off + i', none⟩ (.int .i32 (G (i' - 1)))).setCell ⟨blk, off + (i' - 1), none⟩ (.int .i32 (G i'))).drew) := HS5
                  generalize ((w3.setCell ⟨blk, off + i', none⟩ (.int .i32 (G (i' - 1)))).setCell ⟨blk, off + (i' - 1), none⟩ (.int .i32 (G i'))).drew = w5 at HS5 ⊢
                  obtain ⟨d1, hd1⟩ : ∃ d1, d1 = swp dk i' (i' - 1) := ⟨_, rfl⟩
                  rw [← hd1] at HS5
                  have HD1 : Hid (d1.size = n) := Lib.hid (by rw [hd1, size_swp]; exact HD.out)
                  have PG := Lib.hid (fun (d2 d3 : Array Int) (h2 : d2 = if i' - a ≥ 2 then shiftDown ltInt (i' - 1) d1 else d1) (h3 : d3 = if b - i' ≥ 2 then shiftUp ltInt b (i' + 1) d2 else d2) => (pi_go ltInt a b s i i' dk hs hK.out (by omega) h50 hd1 h2 h3).symm.trans HE.out)
                  clear hcw hfw HS hK hd1 HD HE
                  have PG3 := Lib.hid (fun d3 h3 => PG.out d1 d3 (if_neg c1).symm h3)
                  have HD2 := HD1
                  have HS6 := HS5
                  obtain ⟨dj, hdj⟩ : ∃ dj, dj = d1 := ⟨_, rfl⟩
                  rw [← hdj] at HD2 HS6 PG3
                  clear PG HD1 HS5 hdj
                  go_wp2_with fail
                  go_loopw [10] (fun vj wr => ∃ (j : Nat) (dl : Array Int), vj = .int .i64 j ∧ i' + 1 ≤ j ∧ j ≤ b ∧ Hid (dl.size = n ∧ SW w blk off dl wr ∧ shiftUp ltInt b j dl = shiftUp ltInt b (i' + 1) dj)) (fun vj _ => b - (RowKit.intOf vj).toNat)
                  case atStart => exact ⟨i' + 1, dj, by go_num, by omega, by omega, Lib.hid ⟨HD2.out, HS6.out, rfl⟩⟩
                  case round =>
                    clear HS6 HD2
                    obtain ⟨j4, dl, rfl, hj4, hj4b, hg⟩ := hrel
                    obtain ⟨G4, hG⟩ : ∃ G : Nat → Int, ∀ t, G t = dl[t]! := ⟨fun t => dl[t]!, fun _ => rfl⟩
                    have HG4 := Lib.hid hG
                    clear hG
                    by_cases hj1 : j4 < b
                    · have hj1z : (j4 : Int) < (b : Int) := by omega
                      have hcw := hg.out.2.1.cells HG4.out hg.out.1
                      go_wp2_with fail
                      go_big_quiet (first | (go_at_call 175; refine Calls.quiet_of_same (oLess _ _ _)))
                      go_wp2_with fail
                      · have ht : (!ltInt (G4 j4) (G4 (j4 - 1))) = true := by assumption
                        have HQ : Hid (shiftUp ltInt b (i' + 1) dj = dl) := Lib.hid (hg.out.2.2.symm.trans (sup_stop ltInt b j4 dl (.inr (by rw [← HG4.out, ← HG4.out]; simpa using ht))))
                        (try go_wp2)
                        go_roundw
                        case rel => exact ⟨i', s + 1, dl, rfl, by go_num, by omega, by omega, by omega, Lib.hid ⟨hg.out.1, hg.out.2.1.drewN nq, PG3.out dl ((if_pos c2).trans HQ.out).symm⟩⟩
                        case measure => simp [RowKit.intOf]; omega
                      · have ht : (!ltInt (G4 j4) (G4 (j4 - 1))) = false := by assumption
                        have HS7 := Lib.hid (hg.out.2.1.drewN nq)
                        clear hcw
                        generalize wr.drewN nq = w7 at HS7 ⊢
                        clear nq
                        have hcw := HS7.out.cells HG4.out hg.out.1
                        have hfw := HS7.out.thaw hg.out.1
                        go_region
                        all_goals go_wp2
                        go_roundw
                        case rel => exact ⟨j4 + 1, swp dl j4 (j4 - 1), by go_num, by omega, by omega, Lib.hid ⟨by rw [size_swp]; exact hg.out.1, HS7.out.swapq HG4.out (by have := hg.out.1; omega) (by have := hg.out.1; omega) 0 1, (sup_go ltInt b j4 dl hj1 (by rw [← HG4.out, ← HG4.out]; simpa using ht)).symm.trans hg.out.2.2⟩⟩
                        case measure => simp [RowKit.intOf]; omega
                    · have hj1z : (b : Int) ≤ (j4 : Int) := by omega
                      have HQ : Hid (shiftUp ltInt b (i' + 1) dj = dl) := Lib.hid (hg.out.2.2.symm.trans (sup_stop ltInt b j4 dl (.inl hj1)))
                      go_wp2
                      go_roundw
                      case rel => exact ⟨i', s + 1, dl, rfl, by go_num, by omega, by omega, by omega, Lib.hid ⟨hg.out.1, hg.out.2.1, PG3.out dl ((if_pos c2).trans HQ.out).symm⟩⟩
                      case measure => simp [RowKit.intOf]; omega
              · exfalso; omega
        · have hne : ((i' : Int) == (b : Int)) = true := beq_iff_eq.2 (by omega)
          go_wp2_with fail
          go_big_quiet (first | (go_at_call 175; refine Calls.quiet_of_same (oLess _ _ _)))
          go_wp2_with fail
          have hK : Hid (scanSorted ltInt dk b i = b) := Lib.hid (hs1.out.2.symm.trans ((ss_stop ltInt dk b i' (.inl hle)).trans (by omega)))
          have HS := Lib.hid (hs1.out.1.drewN nq)
          clear hcw hs1
          generalize wr.drewN nq = w3 at HS ⊢
          clear nq
          (try go_wp2)
          go_ret
          rw [EP.out, ← HE.out, pi_true ltInt a b s i dk hs hK.out]
          exact ⟨rfl, HS.out⟩
    · have hsz : ¬ (s : Int) < 5 := by omega
      have e5 : s = 5 := by omega
      subst e5
      go_wp2
      go_ret
      rw [EP.out, ← HE.out]
      exact ⟨rfl, HS0.out⟩
end Go.Proofs.YtcfhblbmpbfoaaaGreatDoor
