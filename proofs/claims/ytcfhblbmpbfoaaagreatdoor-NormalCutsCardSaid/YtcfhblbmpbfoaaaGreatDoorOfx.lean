/- slices.Sort on numbers of 32 bits: a row is parted. -/
import Derived.Test.YtcfhblbmpbfoaaaGreatDoorGv4
namespace Go.Proofs.YtcfhblbmpbfoaaaGreatDoor
open Go Go.RowKit Go.Kt Go.Kt.Os Go.Sort
theorem prt_stop (a i j : Nat) (dk : Array Int) {i2 j2 : Nat} (hi : i2 = scanUp (fun x => ltInt x dk[a]!) dk j i) (hj : j2 = scanDown (fun x => !ltInt x dk[a]!) dk i2 j) (h : j2 < i2) : partLoop ltInt a i j dk = (j2, dk) := by
  rw [partLoop_eq, ← hi, ← hj, if_pos h]
theorem prt_go (a i j : Nat) (dk : Array Int) {i2 j2 : Nat} (hi : i2 = scanUp (fun x => ltInt x dk[a]!) dk j i) (hj : j2 = scanDown (fun x => !ltInt x dk[a]!) dk i2 j) (h : ¬ j2 < i2) :
    partLoop ltInt a i j dk = partLoop ltInt a (i2 + 1) (j2 - 1) (swp dk i2 j2) := by
  rw [partLoop_eq, ← hi, ← hj, if_neg h]
theorem prt_first (d : Array Int) (a b pv : Nat) {i j i2 j2 : Nat} {dk : Array Int} (hi0 : i = a + 1) (hj0 : j = b - 1) (hdk : dk = swp d a pv) (hi : i2 = scanUp (fun x => ltInt x dk[a]!) dk j i) (hj : j2 = scanDown (fun x => !ltInt x dk[a]!) dk i2 j) (h : j2 < i2) :
    partition ltInt d a b pv = (j2, true, swp dk j2 a) := by
  subst hi0 hj0 hdk
  unfold partition
  simp only [← hi, ← hj]
  rw [if_pos h]
theorem prt_more (d : Array Int) (a b pv : Nat) {i j i2 j2 : Nat} {dk : Array Int} (hi0 : i = a + 1) (hj0 : j = b - 1) (hdk : dk = swp d a pv) (hi : i2 = scanUp (fun x => ltInt x dk[a]!) dk j i) (hj : j2 = scanDown (fun x => !ltInt x dk[a]!) dk i2 j) (h : ¬ j2 < i2) :
    partition ltInt d a b pv = ((partLoop ltInt a (i2 + 1) (j2 - 1) (swp dk i2 j2)).1, false, swp (partLoop ltInt a (i2 + 1) (j2 - 1) (swp dk i2 j2)).2 (partLoop ltInt a (i2 + 1) (j2 - 1) (swp dk i2 j2)).1 a) := by
  subst hi0 hj0 hdk
  unfold partition
  simp only [← hi, ← hj]
  rw [if_neg h]
set_option maxRecDepth 100000 in
set_option maxHeartbeats 2000000 in
theorem oPart (blk off cap a b pv n : Nat) (d : Array Int) (w : World) (hn : d.size = n) (hH : Holds E32 w blk off d) (hap : a ≤ pv) (hpb : pv < b) (hb : b ≤ n) (hsz : n < 4611686018427387904) :
    Calls Tryz.prog 201 #[.slice (some ⟨blk, off, none⟩) n cap, .int .i64 a, .int .i64 b, .int .i64 pv] w fun e w' =>
      e = .returned (.tuple #[.int .i64 (partition ltInt d a b pv).1, .bool (partition ltInt d a b pv).2.1]) ∧ SW w blk off (partition ltInt d a b pv).2.2 w' := by
  obtain ⟨G0, hG⟩ : ∃ G : Nat → Int, ∀ t, G t = d[t]! := ⟨fun t => d[t]!, fun _ => rfl⟩
  have hcw := (SW.refl hH).cells hG hn
  have hfw := (SW.refl hH).thaw hn
  have HS1 := Lib.hid ((SW.refl hH).swapq hG (i := a) (j := pv) (by omega) (by omega) 0 1)
  obtain ⟨v0, hy0⟩ := cell?_setCell_some (w := w) (p := ⟨blk, off + a, none⟩) (x := .int .i32 (G0 pv)) (q := ⟨blk, off + pv, none⟩) (hcw pv (by omega))
  have HN := Lib.hid hn
  clear hG hH hn
  go_enter Tryz.func201, Tryz.ntmps201
  go_wp2
  go_region
  go_wp2_with fail
  replace HS1 : Hid (SW w blk off (swp d a pv) ((w.setCell ⟨blk, off + a, none⟩ (.int .i32 (G0 pv))).setCell ⟨blk, off + pv, none⟩ (.int .i32 (G0 a))).drew) := HS1
  generalize ((w.setCell ⟨blk, off + a, none⟩ (.int .i32 (G0 pv))).setCell ⟨blk, off + pv, none⟩ (.int .i32 (G0 a))).drew = w0 at HS1 ⊢
  clear hcw hfw v0 hy0
  obtain ⟨i, hi0⟩ : ∃ i, i = a + 1 := ⟨_, rfl⟩
  obtain ⟨j, hj0⟩ : ∃ j, j = b - 1 := ⟨_, rfl⟩
  obtain ⟨dk, hdk⟩ : ∃ dk, dk = swp d a pv := ⟨_, rfl⟩
  have hai : a < i := by omega
  have hij : i ≤ j + 1 := by omega
  have hjb : j < b := by omega
  have HD : Hid (dk.size = n) := Lib.hid (by rw [hdk, size_swp]; exact HN.out)
  have HS0 : Hid (SW w blk off dk w0) := Lib.hid (by rw [hdk]; exact HS1.out)
  have HI0 := Lib.hid hi0
  have HJ0 := Lib.hid hj0
  have HDK := Lib.hid hdk
  have EI := Lib.hid (show (a : Int) + 1 = (i : Int) by omega)
  have EJ := Lib.hid (show (b : Int) - 1 = (j : Int) by omega)
  clear HS1 hi0 hj0 hdk
  obtain ⟨G, hG⟩ : ∃ G : Nat → Int, ∀ t, G t = dk[t]! := ⟨fun t => dk[t]!, fun _ => rfl⟩
  have HG := Lib.hid hG
  clear hG
  go_wp2
  rw [EI.out, EJ.out]
  go_loopw [10] (fun vi w1 => ∃ i' : Nat, vi = .int .i64 i' ∧ i ≤ i' ∧ i' ≤ j + 1 ∧ Hid (SW w blk off dk w1 ∧ scanUp (fun x => ltInt x dk[a]!) dk j i' = scanUp (fun x => ltInt x dk[a]!) dk j i)) (fun vi _ => j + 1 - (RowKit.intOf vi).toNat)
  case atStart => exact ⟨i, by go_num, Nat.le_refl _, hij, Lib.hid ⟨HS0.out, rfl⟩⟩
  case round =>
    obtain ⟨i', rfl, hii, hij', hs1⟩ := hrel
    have hcw := hs1.out.1.cells HG.out HD.out
    clear HS0
    by_cases hle : i' ≤ j
    · go_wp2_with fail
      go_big_quiet (first | (go_at_call 175; refine Calls.quiet_of_same (oLess _ _ _)))
      go_wp2_with fail
      · have ht : ltInt (G i') (G a) = true := by assumption
        go_wp2
        go_roundw
        case rel => exact ⟨i' + 1, by go_num, by omega, by omega, Lib.hid ⟨hs1.out.1.drewN nq, (scanUp_go (fun x => ltInt x dk[a]!) dk j i' hle (by show ltInt dk[i']! dk[a]! = true; rw [← HG.out, ← HG.out]; exact ht)).symm.trans hs1.out.2⟩⟩
        case measure => simp [RowKit.intOf]; omega
      · have ht : ltInt (G i') (G a) = false := by assumption
        have hi2 : Hid (i' = scanUp (fun x => ltInt x dk[a]!) dk j i) := Lib.hid ((scanUp_end (fun x => ltInt x dk[a]!) dk j i' (.inr (by show ltInt dk[i']! dk[a]! = false; rw [← HG.out, ← HG.out]; exact ht))).symm.trans hs1.out.2)
        have HT := Lib.hid ht
        have HS := Lib.hid (hs1.out.1.drewN nq)
        clear ht hcw hs1
        generalize wr.drewN nq = w3 at HS ⊢
        clear nq
        go_loopw [11] (fun vj w2 => ∃ j' : Nat, vj = .int .i64 j' ∧ j' ≤ j ∧ i' ≤ j' + 1 ∧ Hid (SW w blk off dk w2 ∧ scanDown (fun x => !ltInt x dk[a]!) dk i' j' = scanDown (fun x => !ltInt x dk[a]!) dk i' j)) (fun vj _ => (RowKit.intOf vj).toNat)
        case atStart => exact ⟨j, by go_num, Nat.le_refl _, hij', Lib.hid ⟨HS.out, rfl⟩⟩
        case round =>
          obtain ⟨j', rfl, hjj, hij2, hs2⟩ := hrel
          have hcw := hs2.out.1.cells HG.out HD.out
          clear HS
          by_cases hle2 : i' ≤ j'
          · go_wp2_with fail
            go_big_quiet (first | (go_at_call 175; refine Calls.quiet_of_same (oLess _ _ _)))
            go_wp2_with fail
            · have ht : (!ltInt (G j') (G a)) = true := by assumption
              go_wp2
              go_roundw
              case rel => exact ⟨j' - 1, by go_num, by omega, by omega, Lib.hid ⟨hs2.out.1.drewN nq, (scanDown_go (fun x => !ltInt x dk[a]!) dk i' j' hle2 (by omega) (by show (!ltInt dk[j']! dk[a]!) = true; rw [← HG.out, ← HG.out]; exact ht)).symm.trans hs2.out.2⟩⟩
              case measure => simp [RowKit.intOf]; omega
            · have ht : (!ltInt (G j') (G a)) = false := by assumption
              have hj2 : Hid (j' = scanDown (fun x => !ltInt x dk[a]!) dk i' j) := Lib.hid ((scanDown_end (fun x => !ltInt x dk[a]!) dk i' j' (.inr (by show (!ltInt dk[j']! dk[a]!) = false; rw [← HG.out, ← HG.out]; exact ht))).symm.trans hs2.out.2)
              have hlt3 : i' < j' := by
                rcases Nat.lt_or_ge i' j' with h | h
                · exact h
                · have e : i' = j' := by omega
                  have := HT.out
                  rw [e] at this
                  cases hq : ltInt (G a) (G j') <;> cases hp : ltInt (G j') (G a) <;> simp [hp] at this ht
              have HS := Lib.hid (hs2.out.1.drewN nq)
              clear ht hcw hs2 HT
              generalize wr.drewN nq = w4 at HS ⊢
              clear nq
              have hcw := HS.out.cells HG.out HD.out
              have hfw := HS.out.thaw HD.out
              obtain ⟨v3, hy3⟩ := cell?_setCell_some (w := w4) (p := ⟨blk, off + i', none⟩) (x := .int .i32 (G j')) (q := ⟨blk, off + j', none⟩) (hcw j' (by omega))
              have EP := Lib.hid (prt_more d a b pv HI0.out HJ0.out HDK.out hi2.out hj2.out (by omega))
              have HS5 := Lib.hid (HS.out.swapq HG.out (i := i') (j := j') (by have := HD.out; omega) (by have := HD.out; omega) 0 1)
              go_wp2
              go_region
              go_wp2
              replace HS5 : Hid (SW w blk off (swp dk i' j') ((w4.setCell ⟨blk, off + i', none⟩ (.int .i32 (G j'))).setCell ⟨blk, off + j', none⟩ (.int .i32 (G i'))).drew) := HS5
              generalize ((w4.setCell ⟨blk, off + i', none⟩ (.int .i32 (G j'))).setCell ⟨blk, off + j', none⟩ (.int .i32 (G i'))).drew = w5 at HS5 ⊢
              obtain ⟨i3, hi3⟩ : ∃ i3, i3 = i' + 1 := ⟨_, rfl⟩
              obtain ⟨j3, hj3⟩ : ∃ j3, j3 = j' - 1 := ⟨_, rfl⟩
              obtain ⟨dk3, hdk3⟩ : ∃ dk3, dk3 = swp dk i' j' := ⟨_, rfl⟩
              rw [← hi3, ← hj3, ← hdk3] at EP
              have HB := Lib.hid (show a < i3 ∧ i3 ≤ j3 + 1 ∧ j3 < b by omega)
              have HD3 : Hid (dk3.size = n) := Lib.hid (by rw [hdk3, size_swp]; exact HD.out)
              rw [← hdk3] at HS5
              have HI3 := Lib.hid (show (i' : Int) + 1 = (i3 : Int) by omega)
              have HJ3 := Lib.hid (show (j' : Int) - 1 = (j3 : Int) by omega)
              clear hcw hfw hy3 HS hi2 hj2 hlt3 hle2 hij2 hjj hle hii hij' hi3 hj3 hdk3 HG HD HI0 HJ0 HDK
              go_loopw [10, 11] (fun vi vj wr => ∃ (i j : Nat) (dk : Array Int), vi = .int .i64 i ∧ vj = .int .i64 j ∧ a < i ∧ i ≤ j + 1 ∧ j < b ∧ Hid (dk.size = n ∧ SW w blk off dk wr ∧ partLoop ltInt a i j dk = partLoop ltInt a i3 j3 dk3)) (fun vi vj _ => (RowKit.intOf vj).toNat + 1 - (RowKit.intOf vi).toNat)
              case atStart => exact ⟨i3, j3, dk3, by rw [← HI3.out], by rw [← HJ3.out], HB.out.1, HB.out.2.1, HB.out.2.2, Lib.hid ⟨HD3.out, HS5.out, rfl⟩⟩
              case round =>
                clear hai hij hjb
                obtain ⟨i, j, dk, rfl, rfl, hai, hij, hjb, hh⟩ := hrel
                clear HS5
                obtain ⟨G, hG⟩ : ∃ G : Nat → Int, ∀ t, G t = dk[t]! := ⟨fun t => dk[t]!, fun _ => rfl⟩
                have HG := Lib.hid hG
                have HD := Lib.hid hh.out.1
                have HS0 := Lib.hid hh.out.2.1
                have HE := Lib.hid hh.out.2.2
                clear hG hh
                go_wp2
                go_loopw [10] (fun vi w1 => ∃ i' : Nat, vi = .int .i64 i' ∧ i ≤ i' ∧ i' ≤ j + 1 ∧ Hid (SW w blk off dk w1 ∧ scanUp (fun x => ltInt x dk[a]!) dk j i' = scanUp (fun x => ltInt x dk[a]!) dk j i)) (fun vi _ => j + 1 - (RowKit.intOf vi).toNat)
                case atStart => exact ⟨i, by go_num, Nat.le_refl _, hij, Lib.hid ⟨HS0.out, rfl⟩⟩
                case round =>
                  obtain ⟨i', rfl, hii, hij', hs1⟩ := hrel
                  have hcw := hs1.out.1.cells HG.out HD.out
                  clear HS0
                  by_cases hle : i' ≤ j
                  · go_wp2_with fail
                    go_big_quiet (first | (go_at_call 175; refine Calls.quiet_of_same (oLess _ _ _)))
                    go_wp2_with fail
                    · have ht : ltInt (G i') (G a) = true := by assumption
                      go_wp2
                      go_roundw
                      case rel => exact ⟨i' + 1, by go_num, by omega, by omega, Lib.hid ⟨hs1.out.1.drewN nq, (scanUp_go (fun x => ltInt x dk[a]!) dk j i' hle (by show ltInt dk[i']! dk[a]! = true; rw [← HG.out, ← HG.out]; exact ht)).symm.trans hs1.out.2⟩⟩
                      case measure => simp [RowKit.intOf]; omega
                    · have ht : ltInt (G i') (G a) = false := by assumption
                      have hi2 : Hid (i' = scanUp (fun x => ltInt x dk[a]!) dk j i) := Lib.hid ((scanUp_end (fun x => ltInt x dk[a]!) dk j i' (.inr (by show ltInt dk[i']! dk[a]! = false; rw [← HG.out, ← HG.out]; exact ht))).symm.trans hs1.out.2)
                      have HT := Lib.hid ht
                      have HS := Lib.hid (hs1.out.1.drewN nq)
                      clear ht hcw hs1
                      generalize wr.drewN nq = w3 at HS ⊢
                      clear nq
                      go_loopw [11] (fun vj w2 => ∃ j' : Nat, vj = .int .i64 j' ∧ j' ≤ j ∧ i' ≤ j' + 1 ∧ Hid (SW w blk off dk w2 ∧ scanDown (fun x => !ltInt x dk[a]!) dk i' j' = scanDown (fun x => !ltInt x dk[a]!) dk i' j)) (fun vj _ => (RowKit.intOf vj).toNat)
                      case atStart => exact ⟨j, by go_num, Nat.le_refl _, hij', Lib.hid ⟨HS.out, rfl⟩⟩
                      case round =>
                        obtain ⟨j', rfl, hjj, hij2, hs2⟩ := hrel
                        have hcw := hs2.out.1.cells HG.out HD.out
                        clear HS
                        by_cases hle2 : i' ≤ j'
                        · go_wp2_with fail
                          go_big_quiet (first | (go_at_call 175; refine Calls.quiet_of_same (oLess _ _ _)))
                          go_wp2_with fail
                          · have ht : (!ltInt (G j') (G a)) = true := by assumption
                            go_wp2
                            go_roundw
                            case rel => exact ⟨j' - 1, by go_num, by omega, by omega, Lib.hid ⟨hs2.out.1.drewN nq, (scanDown_go (fun x => !ltInt x dk[a]!) dk i' j' hle2 (by omega) (by show (!ltInt dk[j']! dk[a]!) = true; rw [← HG.out, ← HG.out]; exact ht)).symm.trans hs2.out.2⟩⟩
                            case measure => simp [RowKit.intOf]; omega
                          · have ht : (!ltInt (G j') (G a)) = false := by assumption
                            have hj2 : Hid (j' = scanDown (fun x => !ltInt x dk[a]!) dk i' j) := Lib.hid ((scanDown_end (fun x => !ltInt x dk[a]!) dk i' j' (.inr (by show (!ltInt dk[j']! dk[a]!) = false; rw [← HG.out, ← HG.out]; exact ht))).symm.trans hs2.out.2)
                            have hlt3 : i' < j' := by
                              rcases Nat.lt_or_ge i' j' with h | h
                              · exact h
                              · have e : i' = j' := by omega
                                have := HT.out
                                rw [e] at this
                                cases hq : ltInt (G a) (G j') <;> cases hp : ltInt (G j') (G a) <;> simp [hp] at this ht
                            have HS := Lib.hid (hs2.out.1.drewN nq)
                            clear ht hcw hs2 HT
                            generalize wr.drewN nq = w4 at HS ⊢
                            clear nq
                            have hcw := HS.out.cells HG.out HD.out
                            have hfw := HS.out.thaw HD.out
                            obtain ⟨v3, hy3⟩ := cell?_setCell_some (w := w4) (p := ⟨blk, off + i', none⟩) (x := .int .i32 (G j')) (q := ⟨blk, off + j', none⟩) (hcw j' (by omega))
                            go_wp2
                            go_region
                            all_goals go_wp2
                            all_goals go_roundw
                            case rel => exact ⟨i' + 1, j' - 1, swp dk i' j', by go_num, by go_num, by omega, by omega, by omega, Lib.hid ⟨by rw [size_swp]; exact HD.out, HS.out.swapq HG.out (by have := HD.out; omega) (by have := HD.out; omega) 0 1, by rw [← HE.out]; exact (prt_go a i j dk hi2.out hj2.out (by omega)).symm⟩⟩
                            case measure => simp [RowKit.intOf]; omega
                        · go_wp2_with fail
                          go_big_quiet (first | (go_at_call 175; refine Calls.quiet_of_same (oLess _ _ _)))
                          go_wp2_with fail
                          have hj2 : Hid (j' = scanDown (fun x => !ltInt x dk[a]!) dk i' j) := Lib.hid ((scanDown_end (fun x => !ltInt x dk[a]!) dk i' j' (.inl hle2)).symm.trans hs2.out.2)
                          have HS := Lib.hid (hs2.out.1.drewN nq)
                          clear hcw hs2
                          generalize wr.drewN nq = w4 at HS ⊢
                          clear nq
                          have hcw := HS.out.cells HG.out HD.out
                          have hfw := HS.out.thaw HD.out
                          obtain ⟨v3, hy3⟩ := cell?_setCell_some (w := w4) (p := ⟨blk, off + j', none⟩) (x := .int .i32 (G a)) (q := ⟨blk, off + a, none⟩) (hcw a (by omega))
                          go_wp2
                          go_region
                          all_goals go_wp2
                          all_goals go_ret2
                          have e := (prt_stop a i j dk hi2.out hj2.out (by omega)).symm.trans HE.out
                          rw [EP.out, ← e]
                          exact ⟨rfl, HS.out.swapq HG.out (by have := HD.out; omega) (by have := HD.out; omega) 0 1⟩
                  · go_wp2_with fail
                    go_big_quiet (first | (go_at_call 175; refine Calls.quiet_of_same (oLess _ _ _)))
                    go_wp2_with fail
                    have hi2 : Hid (i' = scanUp (fun x => ltInt x dk[a]!) dk j i) := Lib.hid ((scanUp_end (fun x => ltInt x dk[a]!) dk j i' (.inl hle)).symm.trans hs1.out.2)
                    have HS := Lib.hid (hs1.out.1.drewN nq)
                    clear hcw hs1
                    generalize wr.drewN nq = w3 at HS ⊢
                    clear nq
                    go_loopw [11] (fun vj w2 => ∃ j' : Nat, vj = .int .i64 j' ∧ j' ≤ j ∧ i' ≤ j' + 1 ∧ Hid (SW w blk off dk w2 ∧ scanDown (fun x => !ltInt x dk[a]!) dk i' j' = scanDown (fun x => !ltInt x dk[a]!) dk i' j)) (fun vj _ => (RowKit.intOf vj).toNat)
                    case atStart => exact ⟨j, by go_num, Nat.le_refl _, hij', Lib.hid ⟨HS.out, rfl⟩⟩
                    case round =>
                      obtain ⟨j', rfl, hjj, hij2, hs2⟩ := hrel
                      have hcw := hs2.out.1.cells HG.out HD.out
                      clear HS
                      by_cases hle2 : i' ≤ j'
                      · exfalso; omega
                      · go_wp2_with fail
                        go_big_quiet (first | (go_at_call 175; refine Calls.quiet_of_same (oLess _ _ _)))
                        go_wp2_with fail
                        have hj2 : Hid (j' = scanDown (fun x => !ltInt x dk[a]!) dk i' j) := Lib.hid ((scanDown_end (fun x => !ltInt x dk[a]!) dk i' j' (.inl hle2)).symm.trans hs2.out.2)
                        have HS := Lib.hid (hs2.out.1.drewN nq)
                        clear hcw hs2
                        generalize wr.drewN nq = w4 at HS ⊢
                        clear nq
                        have hcw := HS.out.cells HG.out HD.out
                        have hfw := HS.out.thaw HD.out
                        obtain ⟨v3, hy3⟩ := cell?_setCell_some (w := w4) (p := ⟨blk, off + j', none⟩) (x := .int .i32 (G a)) (q := ⟨blk, off + a, none⟩) (hcw a (by omega))
                        go_wp2
                        go_region
                        all_goals go_wp2
                        all_goals go_ret2
                        have e := (prt_stop a i j dk hi2.out hj2.out (by omega)).symm.trans HE.out
                        rw [EP.out, ← e]
                        exact ⟨rfl, HS.out.swapq HG.out (by have := HD.out; omega) (by have := HD.out; omega) 0 1⟩
          · go_wp2_with fail
            go_big_quiet (first | (go_at_call 175; refine Calls.quiet_of_same (oLess _ _ _)))
            go_wp2_with fail
            have hj2 : Hid (j' = scanDown (fun x => !ltInt x dk[a]!) dk i' j) := Lib.hid ((scanDown_end (fun x => !ltInt x dk[a]!) dk i' j' (.inl hle2)).symm.trans hs2.out.2)
            have HS := Lib.hid (hs2.out.1.drewN nq)
            clear hcw hs2
            generalize wr.drewN nq = w4 at HS ⊢
            clear nq
            have hcw := HS.out.cells HG.out HD.out
            have hfw := HS.out.thaw HD.out
            obtain ⟨v3, hy3⟩ := cell?_setCell_some (w := w4) (p := ⟨blk, off + j', none⟩) (x := .int .i32 (G a)) (q := ⟨blk, off + a, none⟩) (hcw a (by omega))
            go_wp2
            go_region
            all_goals go_wp2
            all_goals go_ret2
            rw [prt_first d a b pv HI0.out HJ0.out HDK.out hi2.out hj2.out (by omega)]
            exact ⟨rfl, HS.out.swapq HG.out (by have := HD.out; omega) (by have := HD.out; omega) 0 1⟩
    · go_wp2_with fail
      go_big_quiet (first | (go_at_call 175; refine Calls.quiet_of_same (oLess _ _ _)))
      go_wp2_with fail
      have hi2 : Hid (i' = scanUp (fun x => ltInt x dk[a]!) dk j i) := Lib.hid ((scanUp_end (fun x => ltInt x dk[a]!) dk j i' (.inl hle)).symm.trans hs1.out.2)
      have HS := Lib.hid (hs1.out.1.drewN nq)
      clear hcw hs1
      generalize wr.drewN nq = w3 at HS ⊢
      clear nq
      go_loopw [11] (fun vj w2 => ∃ j' : Nat, vj = .int .i64 j' ∧ j' ≤ j ∧ i' ≤ j' + 1 ∧ Hid (SW w blk off dk w2 ∧ scanDown (fun x => !ltInt x dk[a]!) dk i' j' = scanDown (fun x => !ltInt x dk[a]!) dk i' j)) (fun vj _ => (RowKit.intOf vj).toNat)
      case atStart => exact ⟨j, by go_num, Nat.le_refl _, hij', Lib.hid ⟨HS.out, rfl⟩⟩
      case round =>
        obtain ⟨j', rfl, hjj, hij2, hs2⟩ := hrel
        have hcw := hs2.out.1.cells HG.out HD.out
        clear HS
        by_cases hle2 : i' ≤ j'
        · exfalso; omega
        · go_wp2_with fail
          go_big_quiet (first | (go_at_call 175; refine Calls.quiet_of_same (oLess _ _ _)))
          go_wp2_with fail
          have hj2 : Hid (j' = scanDown (fun x => !ltInt x dk[a]!) dk i' j) := Lib.hid ((scanDown_end (fun x => !ltInt x dk[a]!) dk i' j' (.inl hle2)).symm.trans hs2.out.2)
          have HS := Lib.hid (hs2.out.1.drewN nq)
          clear hcw hs2
          generalize wr.drewN nq = w4 at HS ⊢
          clear nq
          have hcw := HS.out.cells HG.out HD.out
          have hfw := HS.out.thaw HD.out
          obtain ⟨v3, hy3⟩ := cell?_setCell_some (w := w4) (p := ⟨blk, off + j', none⟩) (x := .int .i32 (G a)) (q := ⟨blk, off + a, none⟩) (hcw a (by omega))
          go_wp2
          go_region
          all_goals go_wp2
          all_goals go_ret2
          rw [prt_first d a b pv HI0.out HJ0.out HDK.out hi2.out hj2.out (by omega)]
          exact ⟨rfl, HS.out.swapq HG.out (by have := HD.out; omega) (by have := HD.out; omega) 0 1⟩
end Go.Proofs.YtcfhblbmpbfoaaaGreatDoor
