/- Parts of the proof of what the last text says. -/
import Derived.Test.YthhepebkfokddaaGreatDoorGy7
/- slices.Sort on numbers of 32 bits: a row is parted. -/
namespace Go.Proofs.YthhepebkfokddaaGreatDoor
open Go Go.RowKit Go.Kt Go.Kt.Os Go.Sort
theorem prt_stop (a i j : Nat) (dk : Array Int) {i2 j2 : Nat} (hi : i2 = scanUp (fun x => ltInt x dk[a]!) dk j i) (hj : j2 = scanDown (fun x => !ltInt x dk[a]!) dk i2 j) (h : j2 < i2) : partLoop ltInt a i j dk = (j2, dk) := by
  rw [partLoop_eq, ← hi, ← hj, if_pos h]
theorem prt_go (a i j : Nat) (dk : Array Int) {i2 j2 : Nat} (hi : i2 = scanUp (fun x => ltInt x dk[a]!) dk j i) (hj : j2 = scanDown (fun x => !ltInt x dk[a]!) dk i2 j) (h : ¬ j2 < i2) :
    partLoop ltInt a i j dk = partLoop ltInt a (i2 + 1) (j2 - 1) (swp dk i2 j2) := by
  rw [partLoop_eq, ← hi, ← hj, if_neg h]
theorem prt_first (d : Array Int) (a b pv : Nat) {i j i2 j2 : Nat} {dk : Array Int} (hi0 : i = a + 1) (hj0 : j = b - 1) (hdk : dk = swp d a pv) (hi : i2 = scanUp (fun x => ltInt x dk[a]!) dk j i) (hj : j2 = scanDown (fun x => !ltInt x dk[a]!) dk i2 j) (h : j2 < i2) :
    partition ltInt d a b pv = (j2, true, swp dk j2 a) := by
  subst hi0 hj0 hdk
  unfold partition
  simp only [← hi, ← hj]
  rw [if_pos h]
theorem prt_more (d : Array Int) (a b pv : Nat) {i j i2 j2 : Nat} {dk : Array Int} (hi0 : i = a + 1) (hj0 : j = b - 1) (hdk : dk = swp d a pv) (hi : i2 = scanUp (fun x => ltInt x dk[a]!) dk j i) (hj : j2 = scanDown (fun x => !ltInt x dk[a]!) dk i2 j) (h : ¬ j2 < i2) :
    partition ltInt d a b pv = ((partLoop ltInt a (i2 + 1) (j2 - 1) (swp dk i2 j2)).1, false, swp (partLoop ltInt a (i2 + 1) (j2 - 1) (swp dk i2 j2)).2 (partLoop ltInt a (i2 + 1) (j2 - 1) (swp dk i2 j2)).1 a) := by
  subst hi0 hj0 hdk
  unfold partition
  simp only [← hi, ← hj]
  rw [if_neg h]
set_option maxRecDepth 100000 in
set_option maxHeartbeats 2000000 in
theorem oPart (blk off cap a b pv n : Nat) (d : Array Int) (w : World) (hn : d.size = n) (hH : Holds E32 w blk off d) (hap : a ≤ pv) (hpb : pv < b) (hb : b ≤ n) (hsz : n < 4611686018427387904) :
    Calls Tryz.prog 145 #[.slice (some ⟨blk, off, none⟩) n cap, .int .i64 a, .int .i64 b, .int .i64 pv] w fun e w' =>
      e = .returned (.tuple #[.int .i64 (partition ltInt d a b pv).1, .bool (partition ltInt d a b pv).2.1]) ∧ SW w blk off (partition ltInt d a b pv).2.2 w' := by
  obtain ⟨G0, hG⟩ : ∃ G : Nat → Int, ∀ t, G t = d[t]! := ⟨fun t => d[t]!, fun _ => rfl⟩
  have hcw := (SW.refl hH).cells hG hn
  have hfw := (SW.refl hH).thaw hn
  have HS1 := Lib.hid ((SW.refl hH).swapq hG (i := a) (j := pv) (by omega) (by omega) 0 1)
  obtain ⟨v0, hy0⟩ := cell?_setCell_some (w := w) (p := ⟨blk, off + a, none⟩) (x := .int .i32 (G0 pv)) (q := ⟨blk, off + pv, none⟩) (hcw pv (by omega))
  have HN := Lib.hid hn
  clear hG hH hn
  go_enter Tryz.func145, Tryz.ntmps145
  go_wp2
  go_region
  go_wp2_with fail
  replace HS1 : Hid (SW w blk off (swp d a pv) ((w.setCell ⟨blk, off + a, none⟩ (.int .i32 (G0 pv))).setCell ⟨blk, off + pv, none⟩ (.int .i32 (G0 a))).drew) := HS1
  generalize ((w.setCell ⟨blk, off + a, none⟩ (.int .i32 (G0 pv))).setCell ⟨blk, off + pv, none⟩ (.int .i32 (G0 a))).drew = w0 at HS1 ⊢
  clear hcw hfw v0 hy0
  obtain ⟨i, hi0⟩ : ∃ i, i = a + 1 := ⟨_, rfl⟩
  obtain ⟨j, hj0⟩ : ∃ j, j = b - 1 := ⟨_, rfl⟩
  obtain ⟨dk, hdk⟩ : ∃ dk, dk = swp d a pv := ⟨_, rfl⟩
  have hai : a < i := by omega
  have hij : i ≤ j + 1 := by omega
  have hjb : j < b := by omega
  have HD : Hid (dk.size = n) := Lib.hid (by rw [hdk, size_swp]; exact HN.out)
  have HS0 : Hid (SW w blk off dk w0) := Lib.hid (by rw [hdk]; exact HS1.out)
  have HI0 := Lib.hid hi0
  have HJ0 := Lib.hid hj0
  have HDK := Lib.hid hdk
  have EI := Lib.hid (show (a : Int) + 1 = (i : Int) by omega)
  have EJ := Lib.hid (show (b : Int) - 1 = (j : Int) by omega)
  clear HS1 hi0 hj0 hdk
  obtain ⟨G, hG⟩ : ∃ G : Nat → Int, ∀ t, G t = dk[t]! := ⟨fun t => dk[t]!, fun _ => rfl⟩
  have HG := Lib.hid hG
  clear hG
  go_wp2
  rw [EI.out, EJ.out]
  go_loopw [10] (fun vi w1 => ∃ i' : Nat, vi = .int .i64 i' ∧ i ≤ i' ∧ i' ≤ j + 1 ∧ Hid (SW w blk off dk w1 ∧ scanUp (fun x => ltInt x dk[a]!) dk j i' = scanUp (fun x => ltInt x dk[a]!) dk j i)) (fun vi _ => j + 1 - (RowKit.intOf vi).toNat)
  case atStart => exact ⟨i, by go_num, Nat.le_refl _, hij, Lib.hid ⟨HS0.out, rfl⟩⟩
  case round =>
    obtain ⟨i', rfl, hii, hij', hs1⟩ := hrel
    have hcw := hs1.out.1.cells HG.out HD.out
    clear HS0
    by_cases hle : i' ≤ j
    · go_wp2_with fail
      go_big_quiet (first | (go_at_call 118; refine Calls.quiet_of_same (oLess _ _ _)))
      go_wp2_with fail
      · have ht : ltInt (G i') (G a) = true := by assumption
        go_wp2
        go_roundw
        case rel => exact ⟨i' + 1, by go_num, by omega, by omega, Lib.hid ⟨hs1.out.1.drewN nq, (scanUp_go (fun x => ltInt x dk[a]!) dk j i' hle (by show ltInt dk[i']! dk[a]! = true; rw [← HG.out, ← HG.out]; exact ht)).symm.trans hs1.out.2⟩⟩
        case measure => simp [RowKit.intOf]; omega
      · have ht : ltInt (G i') (G a) = false := by assumption
        have hi2 : Hid (i' = scanUp (fun x => ltInt x dk[a]!) dk j i) := Lib.hid ((scanUp_end (fun x => ltInt x dk[a]!) dk j i' (.inr (by show ltInt dk[i']! dk[a]! = false; rw [← HG.out, ← HG.out]; exact ht))).symm.trans hs1.out.2)
        have HT := Lib.hid ht
        have HS := Lib.hid (hs1.out.1.drewN nq)
        clear ht hcw hs1
        generalize wr.drewN nq = w3 at HS ⊢
        clear nq
        go_loopw [11] (fun vj w2 => ∃ j' : Nat, vj = .int .i64 j' ∧ j' ≤ j ∧ i' ≤ j' + 1 ∧ Hid (SW w blk off dk w2 ∧ scanDown (fun x => !ltInt x dk[a]!) dk i' j' = scanDown (fun x => !ltInt x dk[a]!) dk i' j)) (fun vj _ => (RowKit.intOf vj).toNat)
        case atStart => exact ⟨j, by go_num, Nat.le_refl _, hij', Lib.hid ⟨HS.out, rfl⟩⟩
        case round =>
          obtain ⟨j', rfl, hjj, hij2, hs2⟩ := hrel
          have hcw := hs2.out.1.cells HG.out HD.out
          clear HS
          by_cases hle2 : i' ≤ j'
          · go_wp2_with fail
            go_big_quiet (first | (go_at_call 118; refine Calls.quiet_of_same (oLess _ _ _)))
            go_wp2_with fail
            · have ht : (!ltInt (G j') (G a)) = true := by assumption
              go_wp2
              go_roundw
              case rel => exact ⟨j' - 1, by go_num, by omega, by omega, Lib.hid ⟨hs2.out.1.drewN nq, (scanDown_go (fun x => !ltInt x dk[a]!) dk i' j' hle2 (by omega) (by show (!ltInt dk[j']! dk[a]!) = true; rw [← HG.out, ← HG.out]; exact ht)).symm.trans hs2.out.2⟩⟩
              case measure => simp [RowKit.intOf]; omega
            · have ht : (!ltInt (G j') (G a)) = false := by assumption
              have hj2 : Hid (j' = scanDown (fun x => !ltInt x dk[a]!) dk i' j) := Lib.hid ((scanDown_end (fun x => !ltInt x dk[a]!) dk i' j' (.inr (by show (!ltInt dk[j']! dk[a]!) = false; rw [← HG.out, ← HG.out]; exact ht))).symm.trans hs2.out.2)
              have hlt3 : i' < j' := by
                rcases Nat.lt_or_ge i' j' with h | h
                · exact h
                · have e : i' = j' := by omega
                  have := HT.out
                  rw [e] at this
                  cases hq : ltInt (G a) (G j') <;> cases hp : ltInt (G j') (G a) <;> simp [hp] at this ht
              have HS := Lib.hid (hs2.out.1.drewN nq)
              clear ht hcw hs2 HT
              generalize wr.drewN nq = w4 at HS ⊢
              clear nq
              have hcw := HS.out.cells HG.out HD.out
              have hfw := HS.out.thaw HD.out
              obtain ⟨v3, hy3⟩ := cell?_setCell_some (w := w4) (p := ⟨blk, off + i', none⟩) (x := .int .i32 (G j')) (q := ⟨blk, off + j', none⟩) (hcw j' (by omega))
              have EP := Lib.hid (prt_more d a b pv HI0.out HJ0.out HDK.out hi2.out hj2.out (by omega))
              have HS5 := Lib.hid (HS.out.swapq HG.out (i := i') (j := j') (by have := HD.out; omega) (by have := HD.out; omega) 0 1)
              go_wp2
              go_region
              go_wp2
              replace HS5 : Hid (SW w blk off (swp dk i' j') ((w4.setCell ⟨blk, off + i', none⟩ (.int .i32 (G j'))).setCell ⟨blk, off + j', none⟩ (.int .i32 (G i'))).drew) := HS5
              generalize ((w4.setCell ⟨blk, off + i', none⟩ (.int .i32 (G j'))).setCell ⟨blk, off + j', none⟩ (.int .i32 (G i'))).drew = w5 at HS5 ⊢
              obtain ⟨i3, hi3⟩ : ∃ i3, i3 = i' + 1 := ⟨_, rfl⟩
              obtain ⟨j3, hj3⟩ : ∃ j3, j3 = j' - 1 := ⟨_, rfl⟩
              obtain ⟨dk3, hdk3⟩ : ∃ dk3, dk3 = swp dk i' j' := ⟨_, rfl⟩
              rw [← hi3, ← hj3, ← hdk3] at EP
              have HB := Lib.hid (show a < i3 ∧ i3 ≤ j3 + 1 ∧ j3 < b by omega)
              have HD3 : Hid (dk3.size = n) := Lib.hid (by rw [hdk3, size_swp]; exact HD.out)
              rw [← hdk3] at HS5
              have HI3 := Lib.hid (show (i' : Int) + 1 = (i3 : Int) by omega)
              have HJ3 := Lib.hid (show (j' : Int) - 1 = (j3 : Int) by omega)
              clear hcw hfw hy3 HS hi2 hj2 hlt3 hle2 hij2 hjj hle hii hij' hi3 hj3 hdk3 HG HD HI0 HJ0 HDK
              go_loopw [10, 11] (fun vi vj wr => ∃ (i j : Nat) (dk : Array Int), vi = .int .i64 i ∧ vj = .int .i64 j ∧ a < i ∧ i ≤ j + 1 ∧ j < b ∧ Hid (dk.size = n ∧ SW w blk off dk wr ∧ partLoop ltInt a i j dk = partLoop ltInt a i3 j3 dk3)) (fun vi vj _ => (RowKit.intOf vj).toNat + 1 - (RowKit.intOf vi).toNat)
              case atStart => exact ⟨i3, j3, dk3, by rw [← HI3.out], by rw [← HJ3.out], HB.out.1, HB.out.2.1, HB.out.2.2, Lib.hid ⟨HD3.out, HS5.out, rfl⟩⟩
              case round =>
                clear hai hij hjb
                obtain ⟨i, j, dk, rfl, rfl, hai, hij, hjb, hh⟩ := hrel
                clear HS5
                obtain ⟨G, hG⟩ : ∃ G : Nat → Int, ∀ t, G t = dk[t]! := ⟨fun t => dk[t]!, fun _ => rfl⟩
                have HG := Lib.hid hG
                have HD := Lib.hid hh.out.1
                have HS0 := Lib.hid hh.out.2.1
                have HE := Lib.hid hh.out.2.2
                clear hG hh
                go_wp2
                go_loopw [10] (fun vi w1 => ∃ i' : Nat, vi = .int .i64 i' ∧ i ≤ i' ∧ i' ≤ j + 1 ∧ Hid (SW w blk off dk w1 ∧ scanUp (fun x => ltInt x dk[a]!) dk j i' = scanUp (fun x => ltInt x dk[a]!) dk j i)) (fun vi _ => j + 1 - (RowKit.intOf vi).toNat)
                case atStart => exact ⟨i, by go_num, Nat.le_refl _, hij, Lib.hid ⟨HS0.out, rfl⟩⟩
                case round =>
                  obtain ⟨i', rfl, hii, hij', hs1⟩ := hrel
                  have hcw := hs1.out.1.cells HG.out HD.out
                  clear HS0
                  by_cases hle : i' ≤ j
                  · go_wp2_with fail
                    go_big_quiet (first | (go_at_call 118; refine Calls.quiet_of_same (oLess _ _ _)))
                    go_wp2_with fail
                    · have ht : ltInt (G i') (G a) = true := by assumption
                      go_wp2
                      go_roundw
                      case rel => exact ⟨i' + 1, by go_num, by omega, by omega, Lib.hid ⟨hs1.out.1.drewN nq, (scanUp_go (fun x => ltInt x dk[a]!) dk j i' hle (by show ltInt dk[i']! dk[a]! = true; rw [← HG.out, ← HG.out]; exact ht)).symm.trans hs1.out.2⟩⟩
                      case measure => simp [RowKit.intOf]; omega
                    · have ht : ltInt (G i') (G a) = false := by assumption
                      have hi2 : Hid (i' = scanUp (fun x => ltInt x dk[a]!) dk j i) := Lib.hid ((scanUp_end (fun x => ltInt x dk[a]!) dk j i' (.inr (by show ltInt dk[i']! dk[a]! = false; rw [← HG.out, ← HG.out]; exact ht))).symm.trans hs1.out.2)
                      have HT := Lib.hid ht
                      have HS := Lib.hid (hs1.out.1.drewN nq)
                      clear ht hcw hs1
                      generalize wr.drewN nq = w3 at HS ⊢
                      clear nq
                      go_loopw [11] (fun vj w2 => ∃ j' : Nat, vj = .int .i64 j' ∧ j' ≤ j ∧ i' ≤ j' + 1 ∧ Hid (SW w blk off dk w2 ∧ scanDown (fun x => !ltInt x dk[a]!) dk i' j' = scanDown (fun x => !ltInt x dk[a]!) dk i' j)) (fun vj _ => (RowKit.intOf vj).toNat)
                      case atStart => exact ⟨j, by go_num, Nat.le_refl _, hij', Lib.hid ⟨HS.out, rfl⟩⟩
                      case round =>
                        obtain ⟨j', rfl, hjj, hij2, hs2⟩ := hrel
                        have hcw := hs2.out.1.cells HG.out HD.out
                        clear HS
                        by_cases hle2 : i' ≤ j'
                        · go_wp2_with fail
                          go_big_quiet (first | (go_at_call 118; refine Calls.quiet_of_same (oLess _ _ _)))
                          go_wp2_with fail
                          · have ht : (!ltInt (G j') (G a)) = true := by assumption
                            go_wp2
                            go_roundw
                            case rel => exact ⟨j' - 1, by go_num, by omega, by omega, Lib.hid ⟨hs2.out.1.drewN nq, (scanDown_go (fun x => !ltInt x dk[a]!) dk i' j' hle2 (by omega) (by show (!ltInt dk[j']! dk[a]!) = true; rw [← HG.out, ← HG.out]; exact ht)).symm.trans hs2.out.2⟩⟩
                            case measure => simp [RowKit.intOf]; omega
                          · have ht : (!ltInt (G j') (G a)) = false := by assumption
                            have hj2 : Hid (j' = scanDown (fun x => !ltInt x dk[a]!) dk i' j) := Lib.hid ((scanDown_end (fun x => !ltInt x dk[a]!) dk i' j' (.inr (by show (!ltInt dk[j']! dk[a]!) = false; rw [← HG.out, ← HG.out]; exact ht))).symm.trans hs2.out.2)
                            have hlt3 : i' < j' := by
                              rcases Nat.lt_or_ge i' j' with h | h
                              · exact h
                              · have e : i' = j' := by omega
                                have := HT.out
                                rw [e] at this
                                cases hq : ltInt (G a) (G j') <;> cases hp : ltInt (G j') (G a) <;> simp [hp] at this ht
                            have HS := Lib.hid (hs2.out.1.drewN nq)
                            clear ht hcw hs2 HT
                            generalize wr.drewN nq = w4 at HS ⊢
                            clear nq
                            have hcw := HS.out.cells HG.out HD.out
                            have hfw := HS.out.thaw HD.out
                            obtain ⟨v3, hy3⟩ := cell?_setCell_some (w := w4) (p := ⟨blk, off + i', none⟩) (x := .int .i32 (G j')) (q := ⟨blk, off + j', none⟩) (hcw j' (by omega))
                            go_wp2
                            go_region
                            all_goals go_wp2
                            all_goals go_roundw
                            case rel => exact ⟨i' + 1, j' - 1, swp dk i' j', by go_num, by go_num, by omega, by omega, by omega, Lib.hid ⟨by rw [size_swp]; exact HD.out, HS.out.swapq HG.out (by have := HD.out; omega) (by have := HD.out; omega) 0 1, by rw [← HE.out]; exact (prt_go a i j dk hi2.out hj2.out (by omega)).symm⟩⟩
                            case measure => simp [RowKit.intOf]; omega
                        · go_wp2_with fail
                          go_big_quiet (first | (go_at_call 118; refine Calls.quiet_of_same (oLess _ _ _)))
                          go_wp2_with fail
                          have hj2 : Hid (j' = scanDown (fun x => !ltInt x dk[a]!) dk i' j) := Lib.hid ((scanDown_end (fun x => !ltInt x dk[a]!) dk i' j' (.inl hle2)).symm.trans hs2.out.2)
                          have HS := Lib.hid (hs2.out.1.drewN nq)
                          clear hcw hs2
                          generalize wr.drewN nq = w4 at HS ⊢
                          clear nq
                          have hcw := HS.out.cells HG.out HD.out
                          have hfw := HS.out.thaw HD.out
                          obtain ⟨v3, hy3⟩ := cell?_setCell_some (w := w4) (p := ⟨blk, off + j', none⟩) (x := .int .i32 (G a)) (q := ⟨blk, off + a, none⟩) (hcw a (by omega))
                          go_wp2
                          go_region
                          all_goals go_wp2
                          all_goals go_ret2
                          have e := (prt_stop a i j dk hi2.out hj2.out (by omega)).symm.trans HE.out
                          rw [EP.out, ← e]
                          exact ⟨rfl, HS.out.swapq HG.out (by have := HD.out; omega) (by have := HD.out; omega) 0 1⟩
                  · go_wp2_with fail
                    go_big_quiet (first | (go_at_call 118; refine Calls.quiet_of_same (oLess _ _ _)))
                    go_wp2_with fail
                    have hi2 : Hid (i' = scanUp (fun x => ltInt x dk[a]!) dk j i) := Lib.hid ((scanUp_end (fun x => ltInt x dk[a]!) dk j i' (.inl hle)).symm.trans hs1.out.2)
                    have HS := Lib.hid (hs1.out.1.drewN nq)
                    clear hcw hs1
                    generalize wr.drewN nq = w3 at HS ⊢
                    clear nq
                    go_loopw [11] (fun vj w2 => ∃ j' : Nat, vj = .int .i64 j' ∧ j' ≤ j ∧ i' ≤ j' + 1 ∧ Hid (SW w blk off dk w2 ∧ scanDown (fun x => !ltInt x dk[a]!) dk i' j' = scanDown (fun x => !ltInt x dk[a]!) dk i' j)) (fun vj _ => (RowKit.intOf vj).toNat)
                    case atStart => exact ⟨j, by go_num, Nat.le_refl _, hij', Lib.hid ⟨HS.out, rfl⟩⟩
                    case round =>
                      obtain ⟨j', rfl, hjj, hij2, hs2⟩ := hrel
                      have hcw := hs2.out.1.cells HG.out HD.out
                      clear HS
                      by_cases hle2 : i' ≤ j'
                      · exfalso; omega
                      · go_wp2_with fail
                        go_big_quiet (first | (go_at_call 118; refine Calls.quiet_of_same (oLess _ _ _)))
                        go_wp2_with fail
                        have hj2 : Hid (j' = scanDown (fun x => !ltInt x dk[a]!) dk i' j) := Lib.hid ((scanDown_end (fun x => !ltInt x dk[a]!) dk i' j' (.inl hle2)).symm.trans hs2.out.2)
                        have HS := Lib.hid (hs2.out.1.drewN nq)
                        clear hcw hs2
                        generalize wr.drewN nq = w4 at HS ⊢
                        clear nq
                        have hcw := HS.out.cells HG.out HD.out
                        have hfw := HS.out.thaw HD.out
                        obtain ⟨v3, hy3⟩ := cell?_setCell_some (w := w4) (p := ⟨blk, off + j', none⟩) (x := .int .i32 (G a)) (q := ⟨blk, off + a, none⟩) (hcw a (by omega))
                        go_wp2
                        go_region
                        all_goals go_wp2
                        all_goals go_ret2
                        have e := (prt_stop a i j dk hi2.out hj2.out (by omega)).symm.trans HE.out
                        rw [EP.out, ← e]
                        exact ⟨rfl, HS.out.swapq HG.out (by have := HD.out; omega) (by have := HD.out; omega) 0 1⟩
          · go_wp2_with fail
            go_big_quiet (first | (go_at_call 118; refine Calls.quiet_of_same (oLess _ _ _)))
            go_wp2_with fail
            have hj2 : Hid (j' = scanDown (fun x => !ltInt x dk[a]!) dk i' j) := Lib.hid ((scanDown_end (fun x => !ltInt x dk[a]!) dk i' j' (.inl hle2)).symm.trans hs2.out.2)
            have HS := Lib.hid (hs2.out.1.drewN nq)
            clear hcw hs2
            generalize wr.drewN nq = w4 at HS ⊢
            clear nq
            have hcw := HS.out.cells HG.out HD.out
            have hfw := HS.out.thaw HD.out
            obtain ⟨v3, hy3⟩ := cell?_setCell_some (w := w4) (p := ⟨blk, off + j', none⟩) (x := .int .i32 (G a)) (q := ⟨blk, off + a, none⟩) (hcw a (by omega))
            go_wp2
            go_region
            all_goals go_wp2
            all_goals go_ret2
            rw [prt_first d a b pv HI0.out HJ0.out HDK.out hi2.out hj2.out (by omega)]
            exact ⟨rfl, HS.out.swapq HG.out (by have := HD.out; omega) (by have := HD.out; omega) 0 1⟩
    · go_wp2_with fail
      go_big_quiet (first | (go_at_call 118; refine Calls.quiet_of_same (oLess _ _ _)))
      go_wp2_with fail
      have hi2 : Hid (i' = scanUp (fun x => ltInt x dk[a]!) dk j i) := Lib.hid ((scanUp_end (fun x => ltInt x dk[a]!) dk j i' (.inl hle)).symm.trans hs1.out.2)
      have HS := Lib.hid (hs1.out.1.drewN nq)
      clear hcw hs1
      generalize wr.drewN nq = w3 at HS ⊢
      clear nq
      go_loopw [11] (fun vj w2 => ∃ j' : Nat, vj = .int .i64 j' ∧ j' ≤ j ∧ i' ≤ j' + 1 ∧ Hid (SW w blk off dk w2 ∧ scanDown (fun x => !ltInt x dk[a]!) dk i' j' = scanDown (fun x => !ltInt x dk[a]!) dk i' j)) (fun vj _ => (RowKit.intOf vj).toNat)
      case atStart => exact ⟨j, by go_num, Nat.le_refl _, hij', Lib.hid ⟨HS.out, rfl⟩⟩
      case round =>
        obtain ⟨j', rfl, hjj, hij2, hs2⟩ := hrel
        have hcw := hs2.out.1.cells HG.out HD.out
        clear HS
        by_cases hle2 : i' ≤ j'
        · exfalso; omega
        · go_wp2_with fail
          go_big_quiet (first | (go_at_call 118; refine Calls.quiet_of_same (oLess _ _ _)))
          go_wp2_with fail
          have hj2 : Hid (j' = scanDown (fun x => !ltInt x dk[a]!) dk i' j) := Lib.hid ((scanDown_end (fun x => !ltInt x dk[a]!) dk i' j' (.inl hle2)).symm.trans hs2.out.2)
          have HS := Lib.hid (hs2.out.1.drewN nq)
          clear hcw hs2
          generalize wr.drewN nq = w4 at HS ⊢
          clear nq
          have hcw := HS.out.cells HG.out HD.out
          have hfw := HS.out.thaw HD.out
          obtain ⟨v3, hy3⟩ := cell?_setCell_some (w := w4) (p := ⟨blk, off + j', none⟩) (x := .int .i32 (G a)) (q := ⟨blk, off + a, none⟩) (hcw a (by omega))
          go_wp2
          go_region
          all_goals go_wp2
          all_goals go_ret2
          rw [prt_first d a b pv HI0.out HJ0.out HDK.out hi2.out hj2.out (by omega)]
          exact ⟨rfl, HS.out.swapq HG.out (by have := HD.out; omega) (by have := HD.out; omega) 0 1⟩
end Go.Proofs.YthhepebkfokddaaGreatDoor
/- slices.Sort on numbers of 32 bits: a row that is nearly in order. -/
namespace Go.Proofs.YthhepebkfokddaaGreatDoor
open Go Go.RowKit Go.Kt Go.Kt.Os Go.Sort

set_option maxRecDepth 100000 in
set_option maxHeartbeats 2000000 in
theorem oPins (blk off cap a b n : Nat) (d : Array Int) (w : World) (hn : d.size = n) (hH : Holds E32 w blk off d) (hab : a < b) (hb : b ≤ n) (hsz : n < 4611686018427387904) :
    Calls Tryz.prog 143 #[.slice (some ⟨blk, off, none⟩) n cap, .int .i64 a, .int .i64 b] w fun e w' =>
      e = .returned (.bool (partialInsertionSort ltInt d a b).2) ∧ SW w blk off (partialInsertionSort ltInt d a b).1 w' := by
  have HS1 := Lib.hid (SW.refl hH)
  have HN := Lib.hid hn
  clear hH hn
  have EP := Lib.hid (show partialInsertionSort ltInt d a b = partialIns ltInt a b (5 - 0) (a + 1) d from rfl)
  go_enter Tryz.func143, Tryz.ntmps143
  go_wp2
  go_loopw [7, 8] (fun vi vs wr => ∃ (i s : Nat) (dk : Array Int), vi = .int .i64 i ∧ vs = .int .i64 s ∧ a < i ∧ i ≤ b ∧ s ≤ 5 ∧ Hid (dk.size = n ∧ SW w blk off dk wr ∧ partialIns ltInt a b (5 - s) i dk = partialIns ltInt a b (5 - 0) (a + 1) d)) (fun vi vs _ => 5 - (RowKit.intOf vs).toNat)
  case atStart => exact ⟨a + 1, 0, d, by go_num, rfl, by omega, by omega, by omega, Lib.hid ⟨HN.out, HS1.out, rfl⟩⟩
  case round =>
    obtain ⟨i, s, dk, rfl, rfl, hai, hib, hs5, hh⟩ := hrel
    clear HS1
    obtain ⟨G, hG⟩ : ∃ G : Nat → Int, ∀ t, G t = dk[t]! := ⟨fun t => dk[t]!, fun _ => rfl⟩
    have HG := Lib.hid hG
    have HD := Lib.hid hh.out.1
    have HS0 := Lib.hid hh.out.2.1
    have HE := Lib.hid hh.out.2.2
    clear hG hh
    by_cases hs : s < 5
    · have hsz : (s : Int) < 5 := by omega
      go_wp2_with fail
      go_loopw [7] (fun vi w1 => ∃ i' : Nat, vi = .int .i64 i' ∧ i ≤ i' ∧ i' ≤ b ∧ Hid (SW w blk off dk w1 ∧ scanSorted ltInt dk b i' = scanSorted ltInt dk b i)) (fun vi _ => b - (RowKit.intOf vi).toNat)
      case atStart => exact ⟨i, rfl, Nat.le_refl _, hib, Lib.hid ⟨HS0.out, rfl⟩⟩
      case round =>
        obtain ⟨i', rfl, hii, hib', hs1⟩ := hrel
        have hcw := hs1.out.1.cells HG.out HD.out
        clear HS0
        by_cases hle : i' < b
        · have hne : ((i' : Int) == (b : Int)) = false := beq_eq_false_iff_ne.2 (by omega)
          have hnf := Lib.hid hne
          by_cases h50 : b - a < 50
          · have h50z : (b : Int) - (a : Int) < 50 := by omega
            go_wp2_with fail
            go_big_quiet (first | (go_at_call 118; refine Calls.quiet_of_same (oLess _ _ _)))
            go_wp2_with fail
            · have ht : (!ltInt (G i') (G (i' - 1))) = true := by assumption
              (try go_wp2)
              go_roundw
              case rel => exact ⟨i' + 1, by go_num, by omega, by omega, Lib.hid ⟨hs1.out.1.drewN nq, (ss_go ltInt dk b i' hle (by rw [← HG.out, ← HG.out]; simpa using ht)).symm.trans hs1.out.2⟩⟩
              case measure => simp [RowKit.intOf]; omega
            · have ht : (!ltInt (G i') (G (i' - 1))) = false := by assumption
              have hK : Hid (scanSorted ltInt dk b i = i') := Lib.hid (hs1.out.2.symm.trans (ss_stop ltInt dk b i' (.inr (by rw [← HG.out, ← HG.out]; simpa using ht))))
              (try go_wp2)
              go_ret
              rw [EP.out, ← HE.out, pi_short ltInt a b s i i' dk hs hK.out (by omega) h50]
              exact ⟨rfl, hs1.out.1.drewN nq⟩
          · by_cases c1 : i' - a ≥ 2
            · by_cases c2 : b - i' ≥ 2
              · have h50z : (50 : Int) ≤ (b : Int) - (a : Int) := by omega
                have c1z : (2 : Int) ≤ (i' : Int) - (a : Int) := by omega
                have c2z : (2 : Int) ≤ (b : Int) - (i' : Int) := by omega
                go_wp2_with fail
                go_big_quiet (first | (go_at_call 118; refine Calls.quiet_of_same (oLess _ _ _)))
                go_wp2_with fail
                · have ht : (!ltInt (G i') (G (i' - 1))) = true := by assumption
                  (try go_wp2)
                  go_roundw
                  case rel => exact ⟨i' + 1, by go_num, by omega, by omega, Lib.hid ⟨hs1.out.1.drewN nq, (ss_go ltInt dk b i' hle (by rw [← HG.out, ← HG.out]; simpa using ht)).symm.trans hs1.out.2⟩⟩
                  case measure => simp [RowKit.intOf]; omega
                · have ht : (!ltInt (G i') (G (i' - 1))) = false := by assumption
                  have hK : Hid (scanSorted ltInt dk b i = i') := Lib.hid (hs1.out.2.symm.trans (ss_stop ltInt dk b i' (.inr (by rw [← HG.out, ← HG.out]; simpa using ht))))
                  have HS := Lib.hid (hs1.out.1.drewN nq)
                  clear ht hcw hs1
                  generalize wr.drewN nq = w3 at HS ⊢
                  clear nq
                  have hcw := HS.out.cells HG.out HD.out
                  have hfw := HS.out.thaw HD.out
                  have HS5 := Lib.hid (HS.out.swapq HG.out (i := i') (j := i' - 1) (by have := HD.out; omega) (by have := HD.out; omega) 0 1)
                  go_region
                  go_wp2_with fail
                  replace HS5 : Hid (SW w blk off (swp dk i' (i' - 1)) ((w3.setCell ⟨blk, off + i', none⟩ (.int .i32 (G (i' - 1)))).setCell ⟨blk, off + (i' - 1), none⟩ (.int .i32 (G i'))).drew) := HS5
                  generalize ((w3.setCell ⟨blk, off + i', none⟩ (.int .i32 (G (i' - 1)))).setCell ⟨blk, off + (i' - 1), none⟩ (.int .i32 (G i'))).drew = w5 at HS5 ⊢
                  obtain ⟨d1, hd1⟩ : ∃ d1, d1 = swp dk i' (i' - 1) := ⟨_, rfl⟩
                  rw [← hd1] at HS5
                  have HD1 : Hid (d1.size = n) := Lib.hid (by rw [hd1, size_swp]; exact HD.out)
                  have PG := Lib.hid (fun (d2 d3 : Array Int) (h2 : d2 = if i' - a ≥ 2 then shiftDown ltInt (i' - 1) d1 else d1) (h3 : d3 = if b - i' ≥ 2 then shiftUp ltInt b (i' + 1) d2 else d2) => (pi_go ltInt a b s i i' dk hs hK.out (by omega) h50 hd1 h2 h3).symm.trans HE.out)
                  clear hcw hfw HS hK hd1 HD HE
                  go_loopw [9] (fun vj wr => ∃ (j : Nat) (dj : Array Int), vj = .int .i64 j ∧ j + 1 ≤ i' ∧ Hid (dj.size = n ∧ SW w blk off dj wr ∧ shiftDown ltInt j dj = shiftDown ltInt (i' - 1) d1)) (fun vj _ => (RowKit.intOf vj).toNat)
                  case atStart => exact ⟨i' - 1, d1, by go_num, by omega, Lib.hid ⟨HD1.out, HS5.out, rfl⟩⟩
                  case round =>
                    clear HS5 HD1
                    obtain ⟨j, dj, rfl, hj, hg⟩ := hrel
                    obtain ⟨G3, hG⟩ : ∃ G : Nat → Int, ∀ t, G t = dj[t]! := ⟨fun t => dj[t]!, fun _ => rfl⟩
                    have HG3 := Lib.hid hG
                    clear hG
                    by_cases hj1 : 1 ≤ j
                    · have hj1z : (1 : Int) ≤ (j : Int) := by omega
                      have hcw := hg.out.2.1.cells HG3.out hg.out.1
                      go_wp2_with fail
                      go_big_quiet (first | (go_at_call 118; refine Calls.quiet_of_same (oLess _ _ _)))
                      go_wp2_with fail
                      · have ht : (!ltInt (G3 j) (G3 (j - 1))) = true := by assumption
                        have PG3 := Lib.hid (fun d3 h3 => PG.out dj d3 ((if_pos c1).trans (hg.out.2.2.symm.trans (sdn_stop ltInt j dj (.inr (by rw [← HG3.out, ← HG3.out]; simpa using ht))))).symm h3)
                        have HD2 := Lib.hid hg.out.1
                        have HS6 := Lib.hid (hg.out.2.1.drewN nq)
                        clear hcw hg ht
                        generalize wr.drewN nq = w6 at HS6 ⊢
                        clear nq
                        go_wp2_with fail
                        go_loopw [10] (fun vj wr => ∃ (j : Nat) (dl : Array Int), vj = .int .i64 j ∧ i' + 1 ≤ j ∧ j ≤ b ∧ Hid (dl.size = n ∧ SW w blk off dl wr ∧ shiftUp ltInt b j dl = shiftUp ltInt b (i' + 1) dj)) (fun vj _ => b - (RowKit.intOf vj).toNat)
                        case atStart => exact ⟨i' + 1, dj, by go_num, by omega, by omega, Lib.hid ⟨HD2.out, HS6.out, rfl⟩⟩
                        case round =>
                          clear HS6 HD2
                          obtain ⟨j4, dl, rfl, hj4, hj4b, hg⟩ := hrel
                          obtain ⟨G4, hG⟩ : ∃ G : Nat → Int, ∀ t, G t = dl[t]! := ⟨fun t => dl[t]!, fun _ => rfl⟩
                          have HG4 := Lib.hid hG
                          clear hG
                          by_cases hj1 : j4 < b
                          · have hj1z : (j4 : Int) < (b : Int) := by omega
                            have hcw := hg.out.2.1.cells HG4.out hg.out.1
                            go_wp2_with fail
                            go_big_quiet (first | (go_at_call 118; refine Calls.quiet_of_same (oLess _ _ _)))
                            go_wp2_with fail
                            · have ht : (!ltInt (G4 j4) (G4 (j4 - 1))) = true := by assumption
                              have HQ : Hid (shiftUp ltInt b (i' + 1) dj = dl) := Lib.hid (hg.out.2.2.symm.trans (sup_stop ltInt b j4 dl (.inr (by rw [← HG4.out, ← HG4.out]; simpa using ht))))
                              (try go_wp2)
                              go_roundw
                              case rel => exact ⟨i', s + 1, dl, rfl, by go_num, by omega, by omega, by omega, Lib.hid ⟨hg.out.1, hg.out.2.1.drewN nq, PG3.out dl ((if_pos c2).trans HQ.out).symm⟩⟩
                              case measure => simp [RowKit.intOf]; omega
                            · have ht : (!ltInt (G4 j4) (G4 (j4 - 1))) = false := by assumption
                              have HS7 := Lib.hid (hg.out.2.1.drewN nq)
                              clear hcw
                              generalize wr.drewN nq = w7 at HS7 ⊢
                              clear nq
                              have hcw := HS7.out.cells HG4.out hg.out.1
                              have hfw := HS7.out.thaw hg.out.1
                              go_region
                              all_goals go_wp2
                              go_roundw
                              case rel => exact ⟨j4 + 1, swp dl j4 (j4 - 1), by go_num, by omega, by omega, Lib.hid ⟨by rw [size_swp]; exact hg.out.1, HS7.out.swapq HG4.out (by have := hg.out.1; omega) (by have := hg.out.1; omega) 0 1, (sup_go ltInt b j4 dl hj1 (by rw [← HG4.out, ← HG4.out]; simpa using ht)).symm.trans hg.out.2.2⟩⟩
                              case measure => simp [RowKit.intOf]; omega
                          · have hj1z : (b : Int) ≤ (j4 : Int) := by omega
                            have HQ : Hid (shiftUp ltInt b (i' + 1) dj = dl) := Lib.hid (hg.out.2.2.symm.trans (sup_stop ltInt b j4 dl (.inl hj1)))
                            go_wp2
                            go_roundw
                            case rel => exact ⟨i', s + 1, dl, rfl, by go_num, by omega, by omega, by omega, Lib.hid ⟨hg.out.1, hg.out.2.1, PG3.out dl ((if_pos c2).trans HQ.out).symm⟩⟩
                            case measure => simp [RowKit.intOf]; omega
                      · have ht : (!ltInt (G3 j) (G3 (j - 1))) = false := by assumption
                        have HS6 := Lib.hid (hg.out.2.1.drewN nq)
                        clear hcw
                        generalize wr.drewN nq = w6 at HS6 ⊢
                        clear nq
                        have hcw := HS6.out.cells HG3.out hg.out.1
                        have hfw := HS6.out.thaw hg.out.1
                        go_region
                        all_goals go_wp2
                        go_roundw
                        case rel => exact ⟨j - 1, swp dj j (j - 1), by go_num, by omega, Lib.hid ⟨by rw [size_swp]; exact hg.out.1, HS6.out.swapq HG3.out (by have := hg.out.1; omega) (by have := hg.out.1; omega) 0 1, (sdn_go ltInt j dj hj1 (by rw [← HG3.out, ← HG3.out]; simpa using ht)).symm.trans hg.out.2.2⟩⟩
                        case measure => simp [RowKit.intOf]; omega
                    · have hj1z : (j : Int) < 1 := by omega
                      have PG3 := Lib.hid (fun d3 h3 => PG.out dj d3 ((if_pos c1).trans (hg.out.2.2.symm.trans (sdn_stop ltInt j dj (.inl hj1)))).symm h3)
                      have HD2 := Lib.hid hg.out.1
                      have HS6 := Lib.hid hg.out.2.1
                      clear hg
                      go_wp2_with fail
                      go_loopw [10] (fun vj wr => ∃ (j : Nat) (dl : Array Int), vj = .int .i64 j ∧ i' + 1 ≤ j ∧ j ≤ b ∧ Hid (dl.size = n ∧ SW w blk off dl wr ∧ shiftUp ltInt b j dl = shiftUp ltInt b (i' + 1) dj)) (fun vj _ => b - (RowKit.intOf vj).toNat)
                      case atStart => exact ⟨i' + 1, dj, by go_num, by omega, by omega, Lib.hid ⟨HD2.out, HS6.out, rfl⟩⟩
                      case round =>
                        clear HS6 HD2
                        obtain ⟨j4, dl, rfl, hj4, hj4b, hg⟩ := hrel
                        obtain ⟨G4, hG⟩ : ∃ G : Nat → Int, ∀ t, G t = dl[t]! := ⟨fun t => dl[t]!, fun _ => rfl⟩
                        have HG4 := Lib.hid hG
                        clear hG
                        by_cases hj1 : j4 < b
                        · have hj1z : (j4 : Int) < (b : Int) := by omega
                          have hcw := hg.out.2.1.cells HG4.out hg.out.1
                          go_wp2_with fail
                          go_big_quiet (first | (go_at_call 118; refine Calls.quiet_of_same (oLess _ _ _)))
                          go_wp2_with fail
                          · have ht : (!ltInt (G4 j4) (G4 (j4 - 1))) = true := by assumption
                            have HQ : Hid (shiftUp ltInt b (i' + 1) dj = dl) := Lib.hid (hg.out.2.2.symm.trans (sup_stop ltInt b j4 dl (.inr (by rw [← HG4.out, ← HG4.out]; simpa using ht))))
                            (try go_wp2)
                            go_roundw
                            case rel => exact ⟨i', s + 1, dl, rfl, by go_num, by omega, by omega, by omega, Lib.hid ⟨hg.out.1, hg.out.2.1.drewN nq, PG3.out dl ((if_pos c2).trans HQ.out).symm⟩⟩
                            case measure => simp [RowKit.intOf]; omega
                          · have ht : (!ltInt (G4 j4) (G4 (j4 - 1))) = false := by assumption
                            have HS7 := Lib.hid (hg.out.2.1.drewN nq)
                            clear hcw
                            generalize wr.drewN nq = w7 at HS7 ⊢
                            clear nq
                            have hcw := HS7.out.cells HG4.out hg.out.1
                            have hfw := HS7.out.thaw hg.out.1
                            go_region
                            all_goals go_wp2
                            go_roundw
                            case rel => exact ⟨j4 + 1, swp dl j4 (j4 - 1), by go_num, by omega, by omega, Lib.hid ⟨by rw [size_swp]; exact hg.out.1, HS7.out.swapq HG4.out (by have := hg.out.1; omega) (by have := hg.out.1; omega) 0 1, (sup_go ltInt b j4 dl hj1 (by rw [← HG4.out, ← HG4.out]; simpa using ht)).symm.trans hg.out.2.2⟩⟩
                            case measure => simp [RowKit.intOf]; omega
                        · have hj1z : (b : Int) ≤ (j4 : Int) := by omega
                          have HQ : Hid (shiftUp ltInt b (i' + 1) dj = dl) := Lib.hid (hg.out.2.2.symm.trans (sup_stop ltInt b j4 dl (.inl hj1)))
                          go_wp2
                          go_roundw
                          case rel => exact ⟨i', s + 1, dl, rfl, by go_num, by omega, by omega, by omega, Lib.hid ⟨hg.out.1, hg.out.2.1, PG3.out dl ((if_pos c2).trans HQ.out).symm⟩⟩
                          case measure => simp [RowKit.intOf]; omega
              · have h50z : (50 : Int) ≤ (b : Int) - (a : Int) := by omega
                have c1z : (2 : Int) ≤ (i' : Int) - (a : Int) := by omega
                have c2z : (b : Int) - (i' : Int) < 2 := by omega
                go_wp2_with fail
                go_big_quiet (first | (go_at_call 118; refine Calls.quiet_of_same (oLess _ _ _)))
                go_wp2_with fail
                · have ht : (!ltInt (G i') (G (i' - 1))) = true := by assumption
                  (try go_wp2)
                  go_roundw
                  case rel => exact ⟨i' + 1, by go_num, by omega, by omega, Lib.hid ⟨hs1.out.1.drewN nq, (ss_go ltInt dk b i' hle (by rw [← HG.out, ← HG.out]; simpa using ht)).symm.trans hs1.out.2⟩⟩
                  case measure => simp [RowKit.intOf]; omega
                · have ht : (!ltInt (G i') (G (i' - 1))) = false := by assumption
                  have hK : Hid (scanSorted ltInt dk b i = i') := Lib.hid (hs1.out.2.symm.trans (ss_stop ltInt dk b i' (.inr (by rw [← HG.out, ← HG.out]; simpa using ht))))
                  have HS := Lib.hid (hs1.out.1.drewN nq)
                  clear ht hcw hs1
                  generalize wr.drewN nq = w3 at HS ⊢
                  clear nq
                  have hcw := HS.out.cells HG.out HD.out
                  have hfw := HS.out.thaw HD.out
                  have HS5 := Lib.hid (HS.out.swapq HG.out (i := i') (j := i' - 1) (by have := HD.out; omega) (by have := HD.out; omega) 0 1)
                  go_region
                  go_wp2_with fail
                  replace HS5 : Hid (SW w blk off (swp dk i' (i' - 1)) ((w3.setCell ⟨blk, off + i', none⟩ (.int .i32 (G (i' - 1)))).setCell ⟨blk, off + (i' - 1), none⟩ (.int .i32 (G i'))).drew) := HS5
                  generalize ((w3.setCell ⟨blk, off + i', none⟩ (.int .i32 (G (i' - 1)))).setCell ⟨blk, off + (i' - 1), none⟩ (.int .i32 (G i'))).drew = w5 at HS5 ⊢
                  obtain ⟨d1, hd1⟩ : ∃ d1, d1 = swp dk i' (i' - 1) := ⟨_, rfl⟩
                  rw [← hd1] at HS5
                  have HD1 : Hid (d1.size = n) := Lib.hid (by rw [hd1, size_swp]; exact HD.out)
                  have PG := Lib.hid (fun (d2 d3 : Array Int) (h2 : d2 = if i' - a ≥ 2 then shiftDown ltInt (i' - 1) d1 else d1) (h3 : d3 = if b - i' ≥ 2 then shiftUp ltInt b (i' + 1) d2 else d2) => (pi_go ltInt a b s i i' dk hs hK.out (by omega) h50 hd1 h2 h3).symm.trans HE.out)
                  clear hcw hfw HS hK hd1 HD HE
                  go_loopw [9] (fun vj wr => ∃ (j : Nat) (dj : Array Int), vj = .int .i64 j ∧ j + 1 ≤ i' ∧ Hid (dj.size = n ∧ SW w blk off dj wr ∧ shiftDown ltInt j dj = shiftDown ltInt (i' - 1) d1)) (fun vj _ => (RowKit.intOf vj).toNat)
                  case atStart => exact ⟨i' - 1, d1, by go_num, by omega, Lib.hid ⟨HD1.out, HS5.out, rfl⟩⟩
                  case round =>
                    clear HS5 HD1
                    obtain ⟨j, dj, rfl, hj, hg⟩ := hrel
                    obtain ⟨G3, hG⟩ : ∃ G : Nat → Int, ∀ t, G t = dj[t]! := ⟨fun t => dj[t]!, fun _ => rfl⟩
                    have HG3 := Lib.hid hG
                    clear hG
                    by_cases hj1 : 1 ≤ j
                    · have hj1z : (1 : Int) ≤ (j : Int) := by omega
                      have hcw := hg.out.2.1.cells HG3.out hg.out.1
                      go_wp2_with fail
                      go_big_quiet (first | (go_at_call 118; refine Calls.quiet_of_same (oLess _ _ _)))
                      go_wp2_with fail
                      · have ht : (!ltInt (G3 j) (G3 (j - 1))) = true := by assumption
                        have PG3 := Lib.hid (fun d3 h3 => PG.out dj d3 ((if_pos c1).trans (hg.out.2.2.symm.trans (sdn_stop ltInt j dj (.inr (by rw [← HG3.out, ← HG3.out]; simpa using ht))))).symm h3)
                        have HD2 := Lib.hid hg.out.1
                        have HS6 := Lib.hid (hg.out.2.1.drewN nq)
                        clear hcw hg ht
                        generalize wr.drewN nq = w6 at HS6 ⊢
                        clear nq
                        (try go_wp2)
                        go_roundw
                        case rel => exact ⟨i', s + 1, dj, rfl, by go_num, by omega, by omega, by omega, Lib.hid ⟨HD2.out, HS6.out, PG3.out dj (if_neg c2).symm⟩⟩
                        case measure => simp [RowKit.intOf]; omega
                      · have ht : (!ltInt (G3 j) (G3 (j - 1))) = false := by assumption
                        have HS6 := Lib.hid (hg.out.2.1.drewN nq)
                        clear hcw
                        generalize wr.drewN nq = w6 at HS6 ⊢
                        clear nq
                        have hcw := HS6.out.cells HG3.out hg.out.1
                        have hfw := HS6.out.thaw hg.out.1
                        go_region
                        all_goals go_wp2
                        go_roundw
                        case rel => exact ⟨j - 1, swp dj j (j - 1), by go_num, by omega, Lib.hid ⟨by rw [size_swp]; exact hg.out.1, HS6.out.swapq HG3.out (by have := hg.out.1; omega) (by have := hg.out.1; omega) 0 1, (sdn_go ltInt j dj hj1 (by rw [← HG3.out, ← HG3.out]; simpa using ht)).symm.trans hg.out.2.2⟩⟩
                        case measure => simp [RowKit.intOf]; omega
                    · have hj1z : (j : Int) < 1 := by omega
                      have PG3 := Lib.hid (fun d3 h3 => PG.out dj d3 ((if_pos c1).trans (hg.out.2.2.symm.trans (sdn_stop ltInt j dj (.inl hj1)))).symm h3)
                      have HD2 := Lib.hid hg.out.1
                      have HS6 := Lib.hid hg.out.2.1
                      clear hg
                      (try go_wp2)
                      go_roundw
                      case rel => exact ⟨i', s + 1, dj, rfl, by go_num, by omega, by omega, by omega, Lib.hid ⟨HD2.out, HS6.out, PG3.out dj (if_neg c2).symm⟩⟩
                      case measure => simp [RowKit.intOf]; omega
            · by_cases c2 : b - i' ≥ 2
              · have h50z : (50 : Int) ≤ (b : Int) - (a : Int) := by omega
                have c1z : (i' : Int) - (a : Int) < 2 := by omega
                have c2z : (2 : Int) ≤ (b : Int) - (i' : Int) := by omega
                go_wp2_with fail
                go_big_quiet (first | (go_at_call 118; refine Calls.quiet_of_same (oLess _ _ _)))
                go_wp2_with fail
                · have ht : (!ltInt (G i') (G (i' - 1))) = true := by assumption
                  (try go_wp2)
                  go_roundw
                  case rel => exact ⟨i' + 1, by go_num, by omega, by omega, Lib.hid ⟨hs1.out.1.drewN nq, (ss_go ltInt dk b i' hle (by rw [← HG.out, ← HG.out]; simpa using ht)).symm.trans hs1.out.2⟩⟩
                  case measure => simp [RowKit.intOf]; omega
                · have ht : (!ltInt (G i') (G (i' - 1))) = false := by assumption
                  have hK : Hid (scanSorted ltInt dk b i = i') := Lib.hid (hs1.out.2.symm.trans (ss_stop ltInt dk b i' (.inr (by rw [← HG.out, ← HG.out]; simpa using ht))))
                  have HS := Lib.hid (hs1.out.1.drewN nq)
                  clear ht hcw hs1
                  generalize wr.drewN nq = w3 at HS ⊢
                  clear nq
                  have hcw := HS.out.cells HG.out HD.out
                  have hfw := HS.out.thaw HD.out
                  have HS5 := Lib.hid (HS.out.swapq HG.out (i := i') (j := i' - 1) (by have := HD.out; omega) (by have := HD.out; omega) 0 1)
                  go_region
                  go_wp2_with fail
                  replace HS5 : Hid (SW w blk off (swp dk i' (i' - 1)) ((w3.setCell ⟨blk, off + i', none⟩ (.int .i32 (G (i' - 1)))).setCell ⟨blk, off + (i' - 1), none⟩ (.int .i32 (G i'))).drew) := HS5
                  generalize ((w3.setCell ⟨blk, off + i', none⟩ (.int .i32 (G (i' - 1)))).setCell ⟨blk, off + (i' - 1), none⟩ (.int .i32 (G i'))).drew = w5 at HS5 ⊢
                  obtain ⟨d1, hd1⟩ : ∃ d1, d1 = swp dk i' (i' - 1) := ⟨_, rfl⟩
                  rw [← hd1] at HS5
                  have HD1 : Hid (d1.size = n) := Lib.hid (by rw [hd1, size_swp]; exact HD.out)
                  have PG := Lib.hid (fun (d2 d3 : Array Int) (h2 : d2 = if i' - a ≥ 2 then shiftDown ltInt (i' - 1) d1 else d1) (h3 : d3 = if b - i' ≥ 2 then shiftUp ltInt b (i' + 1) d2 else d2) => (pi_go ltInt a b s i i' dk hs hK.out (by omega) h50 hd1 h2 h3).symm.trans HE.out)
                  clear hcw hfw HS hK hd1 HD HE
                  have PG3 := Lib.hid (fun d3 h3 => PG.out d1 d3 (if_neg c1).symm h3)
                  have HD2 := HD1
                  have HS6 := HS5
                  obtain ⟨dj, hdj⟩ : ∃ dj, dj = d1 := ⟨_, rfl⟩
                  rw [← hdj] at HD2 HS6 PG3
                  clear PG HD1 HS5 hdj
                  go_wp2_with fail
                  go_loopw [10] (fun vj wr => ∃ (j : Nat) (dl : Array Int), vj = .int .i64 j ∧ i' + 1 ≤ j ∧ j ≤ b ∧ Hid (dl.size = n ∧ SW w blk off dl wr ∧ shiftUp ltInt b j dl = shiftUp ltInt b (i' + 1) dj)) (fun vj _ => b - (RowKit.intOf vj).toNat)
                  case atStart => exact ⟨i' + 1, dj, by go_num, by omega, by omega, Lib.hid ⟨HD2.out, HS6.out, rfl⟩⟩
                  case round =>
                    clear HS6 HD2
                    obtain ⟨j4, dl, rfl, hj4, hj4b, hg⟩ := hrel
                    obtain ⟨G4, hG⟩ : ∃ G : Nat → Int, ∀ t, G t = dl[t]! := ⟨fun t => dl[t]!, fun _ => rfl⟩
                    have HG4 := Lib.hid hG
                    clear hG
                    by_cases hj1 : j4 < b
                    · have hj1z : (j4 : Int) < (b : Int) := by omega
                      have hcw := hg.out.2.1.cells HG4.out hg.out.1
                      go_wp2_with fail
                      go_big_quiet (first | (go_at_call 118; refine Calls.quiet_of_same (oLess _ _ _)))
                      go_wp2_with fail
                      · have ht : (!ltInt (G4 j4) (G4 (j4 - 1))) = true := by assumption
                        have HQ : Hid (shiftUp ltInt b (i' + 1) dj = dl) := Lib.hid (hg.out.2.2.symm.trans (sup_stop ltInt b j4 dl (.inr (by rw [← HG4.out, ← HG4.out]; simpa using ht))))
                        (try go_wp2)
                        go_roundw
                        case rel => exact ⟨i', s + 1, dl, rfl, by go_num, by omega, by omega, by omega, Lib.hid ⟨hg.out.1, hg.out.2.1.drewN nq, PG3.out dl ((if_pos c2).trans HQ.out).symm⟩⟩
                        case measure => simp [RowKit.intOf]; omega
                      · have ht : (!ltInt (G4 j4) (G4 (j4 - 1))) = false := by assumption
                        have HS7 := Lib.hid (hg.out.2.1.drewN nq)
                        clear hcw
                        generalize wr.drewN nq = w7 at HS7 ⊢
                        clear nq
                        have hcw := HS7.out.cells HG4.out hg.out.1
                        have hfw := HS7.out.thaw hg.out.1
                        go_region
                        all_goals go_wp2
                        go_roundw
                        case rel => exact ⟨j4 + 1, swp dl j4 (j4 - 1), by go_num, by omega, by omega, Lib.hid ⟨by rw [size_swp]; exact hg.out.1, HS7.out.swapq HG4.out (by have := hg.out.1; omega) (by have := hg.out.1; omega) 0 1, (sup_go ltInt b j4 dl hj1 (by rw [← HG4.out, ← HG4.out]; simpa using ht)).symm.trans hg.out.2.2⟩⟩
                        case measure => simp [RowKit.intOf]; omega
                    · have hj1z : (b : Int) ≤ (j4 : Int) := by omega
                      have HQ : Hid (shiftUp ltInt b (i' + 1) dj = dl) := Lib.hid (hg.out.2.2.symm.trans (sup_stop ltInt b j4 dl (.inl hj1)))
                      go_wp2
                      go_roundw
                      case rel => exact ⟨i', s + 1, dl, rfl, by go_num, by omega, by omega, by omega, Lib.hid ⟨hg.out.1, hg.out.2.1, PG3.out dl ((if_pos c2).trans HQ.out).symm⟩⟩
                      case measure => simp [RowKit.intOf]; omega
              · exfalso; omega
        · have hne : ((i' : Int) == (b : Int)) = true := beq_iff_eq.2 (by omega)
          go_wp2_with fail
          go_big_quiet (first | (go_at_call 118; refine Calls.quiet_of_same (oLess _ _ _)))
          go_wp2_with fail
          have hK : Hid (scanSorted ltInt dk b i = b) := Lib.hid (hs1.out.2.symm.trans ((ss_stop ltInt dk b i' (.inl hle)).trans (by omega)))
          have HS := Lib.hid (hs1.out.1.drewN nq)
          clear hcw hs1
          generalize wr.drewN nq = w3 at HS ⊢
          clear nq
          (try go_wp2)
          go_ret
          rw [EP.out, ← HE.out, pi_true ltInt a b s i dk hs hK.out]
          exact ⟨rfl, HS.out⟩
    · have hsz : ¬ (s : Int) < 5 := by omega
      have e5 : s = 5 := by omega
      subst e5
      go_wp2
      go_ret
      rw [EP.out, ← HE.out]
      exact ⟨rfl, HS0.out⟩
end Go.Proofs.YthhepebkfokddaaGreatDoor
