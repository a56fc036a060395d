/- slices.Sort on numbers of 32 bits: the sort that parts a row. -/
import Derived.Test.YtcfhblbmpbfoaaaGreatDoorGv6
import Derived.Test.YtcfhblbmpbfoaaaGreatDoorGv10
import Derived.Test.YtcfhblbmpbfoaaaGreatDoorOfx
import Derived.Test.YtcfhblbmpbfoaaaGreatDoorOgx
import Derived.Deep.CutRange
import Derived.Deep.CutBlock
import Derived.Deep.DeepCutAuto
namespace Go.Proofs.YtcfhblbmpbfoaaaGreatDoor
open Go Go.RowKit Go.Kt Go.Kt.Os Go.Sort

set_option maxRecDepth 100000 in
set_option maxHeartbeats 4000000 in
theorem oPdq (blk off cap n : Nat) (hsz : n < 4611686018427387904) : ∀ (N a b lim : Nat) (d : Array Int) (w : World), b - a < N → d.size = n → Holds E32 w blk off d → blk < w.heap.size → a ≤ b → b ≤ n → lim < 4611686018427387904 → Sort.Below ltInt a b d →
    Calls Tryz.prog 171 #[.slice (some ⟨blk, off, none⟩) n cap, .int .i64 a, .int .i64 b, .int .i64 lim] w fun e w' => e = .returned (.tuple #[]) ∧ ∃ d', (PermIn a b d d' ∧ SortedIn ltInt a b d') ∧ SW w blk off d' w' := by
  intro N
  induction N with
  | zero => intro _ _ _ _ _ h; exact absurd h (Nat.not_lt_zero _)
  | succ N ih =>
    intro a b lim d w hN hn hH hblk hab hb hlim hBel
    have H0 : Hid (d.size = n ∧ SW w blk off d w ∧ PWay a b d a b d) := Lib.hid ⟨hn, SW.refl hH, PWay.start hab (by omega) hBel⟩
    have IH := Lib.hid ih
    clear ih hn hH hBel
    go_enter Tryz.func171, Tryz.ntmps171
    go_wp2
    go_loopw [1, 2, 3, 8, 9] (fun s1 s2 s3 s8 s9 wr => ∃ (a' b' l' : Nat) (wb wp : Bool) (dk : Array Int), s1 = .int .i64 a' ∧ s2 = .int .i64 b' ∧ s3 = .int .i64 l' ∧ s8 = .bool wb ∧ s9 = .bool wp ∧ l' ≤ lim ∧ a' ≤ b' ∧ b' ≤ b ∧ a ≤ a' ∧ Hid (dk.size = n ∧ SW w blk off dk wr ∧ PWay a b d a' b' dk))
      (fun s1 s2 _ _ _ _ => (RowKit.intOf s2).toNat - (RowKit.intOf s1).toNat)
    case atStart => exact ⟨a, b, lim, true, true, d, rfl, rfl, rfl, rfl, rfl, Nat.le_refl _, hab, Nat.le_refl _, Nat.le_refl _, H0⟩
    case round =>
      obtain ⟨a', b', l', wb, wp, dk, rfl, rfl, rfl, rfl, rfl, hl', hab', hbb, haa, HY⟩ := hrel
      clear H0
      have hblk' : blk < wr.heap.size := Nat.lt_of_lt_of_le hblk HY.out.2.1.keep.size
      by_cases h12 : b' - a' ≤ 12
      · have h12z : (b' : Int) - (a' : Int) ≤ 12 := by omega
        have C0 := oIns blk off cap a' b' dk wr HY.out.2.1.holds hab' (by have := HY.out.1; omega) (by have := HY.out.1; omega)
        rw [HY.out.1] at C0
        have C := Lib.hid C0
        clear C0
        go_wp2_with (go_at_call 194; refine C.out.mono ?_; rintro e w1 ⟨rfl, hw1⟩)
        (try simp only [Exit.inBlock, Exit.then]); refine bodyPost_ret (results_none rfl _ _ _) rfl ?_
        obtain ⟨i1, i2⟩ := insertionSort_holds swo_ltInt dk a' b' hab' (by have := HY.out.1; omega)
        exact ⟨rfl, _, HY.out.2.2.done i1 i2, HY.out.2.1.trans hw1⟩
      · have h12z : 12 < (b' : Int) - (a' : Int) := by omega
        by_cases hl0 : l' = 0
        · subst hl0
          have C := Lib.hid (oHeap blk off cap a' b' n dk wr HY.out.1 HY.out.2.1.holds hab' (by omega) hsz)
          go_wp2_with (go_at_call 195; refine C.out.mono ?_; rintro e w1 ⟨rfl, hw1⟩)
          (try simp only [Exit.inBlock, Exit.then]); refine bodyPost_ret (results_none rfl _ _ _) rfl ?_
          obtain ⟨i1, i2⟩ := heapSort_holds swo_ltInt dk a' b' hab' (by have := HY.out.1; omega)
          exact ⟨rfl, _, HY.out.2.2.done i1 i2, HY.out.2.1.trans hw1⟩
        · have hl0z : ¬ ((l' : Int) = 0) := by omega
          have hl0b : ((l' : Int) == 0) = false := beq_eq_false_iff_ne.2 hl0z
          have EB := Lib.hid (show (a' : Int) + ((b' - a' : Nat) : Int) = (b' : Int) by omega)
          have EN := Lib.hid (show a' + (b' - a') = b' by omega)
          go_upto_if 35 with fail
          go_cut [3] from 19 to 133 (fun s3 wc => ∃ (l1 : Nat) (d1 : Array Int), s3 = .int .i64 l1 ∧ l1 ≤ lim ∧ Hid (d1.size = n ∧ SW w blk off d1 wc ∧ PWay a b d a' b' d1))
          case first =>
            cases wb
            · have C0 := oBreak blk off cap a' (b' - a') n dk wr HY.out.1 HY.out.2.1.holds hblk' (by omega) (by omega) hsz
              rw [EB.out, EN.out] at C0
              have C := Lib.hid C0
              clear C0
              go_wp2_with (go_at_call 196; refine C.out.mono ?_; rintro e w1 ⟨rfl, d1, hp1, hw1⟩)
              go_meet
              case rel => exact ⟨l' - 1, d1, by go_num, by omega, Lib.hid ⟨hp1.1.trans HY.out.1, HY.out.2.1.trans hw1, HY.out.2.2.turn hp1⟩⟩
            · go_wp2_with fail
              go_meet
              case rel => exact ⟨l', dk, rfl, hl', HY⟩
          case rest =>
            obtain ⟨l1, d1, rfl, hl1, H1⟩ := hcut
            clear HY
            have C0 := oPivot blk off cap a' (b' - a') n d1 wc H1.out.1 H1.out.2.1.holds (Nat.lt_of_lt_of_le hblk H1.out.2.1.keep.size) (by omega) (by omega) hsz
            rw [EB.out, EN.out] at C0
            have C := Lib.hid C0
            clear C0
            go_upto_if 50 with (go_at_call 197; refine C.out.mono ?_; rintro e w2 ⟨x, h, rfl, hx1, hx2, hw2⟩)
            have H2 : Hid (d1.size = n ∧ SW w blk off d1 w2 ∧ PWay a b d a' b' d1) := Lib.hid ⟨H1.out.1, H1.out.2.1.trans hw2, H1.out.2.2⟩
            clear C H1 hw2
            go_cut [11, 12] from 19 to 133 (fun s11 s12 wc => ∃ (p : Nat) (h : Int) (d2 : Array Int), s11 = .int .i64 p ∧ s12 = .int .i64 h ∧ a' ≤ p ∧ p < b' ∧ Hid (d2.size = n ∧ SW w blk off d2 wc ∧ PWay a b d a' b' d2))
            case first =>
              by_cases hh : h = 2
              · subst hh
                have C0 := oRev blk off cap a' b' d1 w2 H2.out.2.1.holds (by omega) (by have := H2.out.1; omega) (by have := H2.out.1; omega)
                rw [H2.out.1] at C0
                have C := Lib.hid C0
                clear C0
                go_wp2_with (go_at_call 198; refine C.out.mono ?_; rintro e w3 ⟨rfl, d2, hp2, hw3⟩)
                go_meet
                case rel => exact ⟨(b' - 1) - (x - a'), 1, d2, by go_num, rfl, by omega, by omega, Lib.hid ⟨hp2.1.trans H2.out.1, H2.out.2.1.trans hw3, H2.out.2.2.turn hp2⟩⟩
              · have hhb : (h == 2) = false := beq_eq_false_iff_ne.2 hh
                go_wp2_with fail
                go_meet
                case rel => exact ⟨x, h, d1, rfl, rfl, hx1, hx2, H2⟩
            case rest =>
              obtain ⟨p, h3, d2, rfl, rfl, hp1, hp2, H3⟩ := hcut
              clear H2 hx1 hx2
              go_upto_region 15 with fail
              go_cut [12, 68] from 19 to 133 (fun s12 s68 wx => s12 = .int .i64 h3 ∧ ∃ t : Bool, s68 = .bool t ∧ wx = wc)
              case first =>
                cases wb <;> cases wp <;>
                  (go_wp2_with fail
                   go_meet
                   exact ⟨rfl, _, rfl, rfl⟩)
              case rest =>
                obtain ⟨rfl, t, rfl, rfl⟩ := hcut
                go_upto_if 68 with fail
                go_cut [] from 19 to 133 (fun wx => ∃ d3 : Array Int, Hid (d3.size = n ∧ SW w blk off d3 wx ∧ PWay a b d a' b' d3))
                case first =>
                  cases t
                  · go_wp2_with fail
                    go_meet
                    case rel => exact ⟨d2, H3⟩
                  · have C0 := oPins blk off cap a' b' n d2 wc H3.out.1 H3.out.2.1.holds (by omega) (by omega) hsz
                    obtain ⟨i1, i2⟩ := partialInsertionSort_holds swo_ltInt d2 a' b' (by omega) (by have := H3.out.1; omega) H3.out.2.2.under
                    obtain ⟨⟨d3, r⟩, hr⟩ : ∃ z, partialInsertionSort ltInt d2 a' b' = z := ⟨_, rfl⟩
                    rw [hr] at C0 i1 i2
                    simp only at C0 i1 i2
                    have HI := Lib.hid (And.intro i1 i2)
                    have C := Lib.hid C0
                    clear C0 hr i1 i2
                    cases r
                    · go_wp2_with (go_at_call 199; refine C.out.mono ?_; rintro e w4 ⟨rfl, hw4⟩)
                      go_meet
                      case rel => exact ⟨d3, Lib.hid ⟨HI.out.1.1.trans H3.out.1, H3.out.2.1.trans hw4, H3.out.2.2.turn HI.out.1⟩⟩
                    · go_wp2_with (go_at_call 199; refine C.out.mono ?_; rintro e w4 ⟨rfl, hw4⟩)
                      (try simp only [Exit.inBlock, Exit.then]); refine bodyPost_ret (results_none rfl _ _ _) rfl ?_
                      exact ⟨rfl, d3, H3.out.2.2.done HI.out.1 (HI.out.2 trivial), H3.out.2.1.trans hw4⟩
                case rest =>
                  obtain ⟨d3, H4⟩ := hcut
                  clear H3
                  go_upto_region 17 with fail
                  go_cut [87] from 19 to 133 (fun s87 wx => ∃ t : Bool, s87 = .bool t ∧ Hid (SW w blk off d3 wx) ∧ Hid (t = true → 0 < a' ∧ ltInt d3[a' - 1]! d3[p]! = false))
                  case first =>
                    obtain ⟨G, hG⟩ : ∃ G : Nat → Int, ∀ t, G t = d3[t]! := ⟨fun t => d3[t]!, fun _ => rfl⟩
                    have hcw := H4.out.2.1.cells hG H4.out.1
                    have HG := Lib.hid hG
                    clear hG
                    by_cases ha0 : 0 < a'
                    · have ha0z : (0 : Int) < (a' : Int) := by omega
                      go_big_quiet (first | (go_at_call 175; refine Calls.quiet_of_same (oLess _ _ _)))
                      go_wp2_with fail
                      go_meet
                      case rel => exact ⟨_, rfl, Lib.hid (H4.out.2.1.drewN _), Lib.hid (fun e => ⟨ha0, by rw [← HG.out, ← HG.out]; simpa using e⟩)⟩
                    · have ha0z : ¬ (0 : Int) < (a' : Int) := by omega
                      go_big_quiet (first | (go_at_call 175; refine Calls.quiet_of_same (oLess _ _ _)))
                      go_wp2_with fail
                      go_meet
                      case rel => exact ⟨_, rfl, Lib.hid (H4.out.2.1.drewN _), Lib.hid (fun e => by cases e)⟩
                  case rest =>
                    obtain ⟨t, rfl, hS5, hT⟩ := hcut
                    have hb3 : b' ≤ d3.size := by have := H4.out.1; omega
                    cases t
                    · have C0 := oPart blk off cap a' b' p n d3 wc H4.out.1 hS5.out.holds hp1 hp2 (by omega) hsz
                      obtain ⟨i1, i2, i3, i4, i5⟩ := partition_holds ltInt swo_ltInt d3 a' b' p hp1 hp2 hb3
                      obtain ⟨⟨m, al, d5⟩, hr⟩ : ∃ z, partition ltInt d3 a' b' p = z := ⟨_, rfl⟩
                      rw [hr] at C0 i1 i2 i3 i4 i5
                      simp only at C0 i1 i2 i3 i4 i5
                      have HPt : Hid (Parted a' b' m d5) := Lib.hid ⟨i1, i2, i4, i5⟩
                      have HW : Hid (PWay a b d a' b' d5) := Lib.hid (H4.out.2.2.turn i3)
                      have HD5 : Hid (d5.size = n) := Lib.hid (i3.1.trans H4.out.1)
                      have C := Lib.hid C0
                      clear C0 hr i3 i4 i5 hT
                      by_cases hlr : m - a' < b' - m
                      · have hlrz : (m : Int) - (a' : Int) < (b' : Int) - (m : Int) := by omega
                        go_wp2_with (first | (go_at_call 201; refine C.out.mono ?_; rintro e w5 ⟨rfl, hw5⟩) | (go_at_call 171; refine (IH.out a' m l1 d5 w5 (by omega) HD5.out hw5.holds (Nat.lt_of_lt_of_le hblk (hS5.out.trans hw5).keep.size) i1 (by omega) (by omega) (HW.out.belowL HPt.out)).mono ?_; rintro e w6 ⟨rfl, d6, hd6, hw6⟩))
                        go_roundw
                        case rel => exact ⟨m + 1, b', l1, _, al, d6, by go_num, rfl, rfl, rfl, rfl, hl1, by omega, hbb, by omega, Lib.hid ⟨hd6.1.1.trans HD5.out, (hS5.out.trans hw5).trans hw6, HW.out.left HPt.out hd6.1 hd6.2⟩⟩
                        case measure => simp [RowKit.intOf]; omega
                      · have hlrz : (b' : Int) - (m : Int) ≤ (m : Int) - (a' : Int) := by omega
                        have EM := Lib.hid (show ((m + 1 : Nat) : Int) = (m : Int) + 1 by omega)
                        have CR0 : ∀ (W : World), Holds E32 W blk off d5 → blk < W.heap.size → Calls Tryz.prog 171 #[.slice (some ⟨blk, off, none⟩) n cap, .int .i64 ((m : Int) + 1), .int .i64 b', .int .i64 l1] W fun e w' => e = .returned (.tuple #[]) ∧ ∃ d', (PermIn (m + 1) b' d5 d' ∧ SortedIn ltInt (m + 1) b' d') ∧ SW W blk off d' w' := fun W h1 h2 => by
                          have := IH.out (m + 1) b' l1 d5 W (by omega) HD5.out h1 h2 (by omega) (by omega) (by omega) (PWay.belowR HPt.out)
                          rw [EM.out] at this
                          exact this
                        have CR := Lib.hid CR0
                        clear CR0
                        go_wp2_with (first | (go_at_call 201; refine C.out.mono ?_; rintro e w5 ⟨rfl, hw5⟩) | (go_at_call 171; refine (CR.out w5 hw5.holds (Nat.lt_of_lt_of_le hblk (hS5.out.trans hw5).keep.size)).mono ?_; rintro e w6 ⟨rfl, d6, hd6, hw6⟩))
                        go_roundw
                        case rel => exact ⟨a', m, l1, _, al, d6, rfl, rfl, rfl, rfl, rfl, hl1, i1, by omega, haa, Lib.hid ⟨hd6.1.1.trans HD5.out, (hS5.out.trans hw5).trans hw6, HW.out.right HPt.out hd6.1 hd6.2⟩⟩
                        case measure => simp [RowKit.intOf]; omega
                    · obtain ⟨ha0, hlt⟩ := hT.out rfl
                      have hmin : ∀ i, a' ≤ i → i < b' → ltInt d3[i]! d3[p]! = false := fun i h1 h2 => by
                        rcases H4.out.2.2.under with e | e
                        · omega
                        · have e1 := ltI_f.1 (e i h1 h2)
                          have e2 := ltI_f.1 hlt
                          exact ltI_f.2 (by omega)
                      have C0 := oPeq blk off cap a' b' p n d3 wc H4.out.1 hS5.out.holds hp1 hp2 (by omega) hsz
                      obtain ⟨i1, i2, i3, i4, i5⟩ := partitionEqual_holds ltInt swo_ltInt d3 a' b' p hp1 hp2 hb3 hmin
                      obtain ⟨⟨m, d5⟩, hr⟩ : ∃ z, partitionEqual ltInt d3 a' b' p = z := ⟨_, rfl⟩
                      rw [hr] at C0 i1 i2 i3 i4 i5
                      simp only at C0 i1 i2 i3 i4 i5
                      have HW : Hid (PWay a b d m b' d5) := Lib.hid (H4.out.2.2.equal d3[p]! hmin i3 i1 i2 i4 i5)
                      have HD5 : Hid (d5.size = n) := Lib.hid (i3.1.trans H4.out.1)
                      have C := Lib.hid C0
                      clear C0 hr i3 i4 i5 hT hmin hlt
                      go_wp2_with (go_at_call 200; refine C.out.mono ?_; rintro e w5 ⟨rfl, hw5⟩)
                      go_roundw
                      case rel => exact ⟨m, b', l1, wb, wp, d5, rfl, rfl, rfl, rfl, rfl, hl1, i2, hbb, by omega, Lib.hid ⟨HD5.out, hS5.out.trans hw5, HW.out⟩⟩
                      case measure => simp [RowKit.intOf]; omega
end Go.Proofs.YtcfhblbmpbfoaaaGreatDoor
