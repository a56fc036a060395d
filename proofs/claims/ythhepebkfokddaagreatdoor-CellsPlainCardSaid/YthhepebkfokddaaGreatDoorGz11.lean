/- Parts of the proof of what the last text says. -/
import Derived.Test.YthhepebkfokddaaGreatDoorGz9
import Derived.Test.YthhepebkfokddaaGreatDoorGz10
import Derived.Deep.CutRange
import Derived.Deep.CutBlock
import Derived.Deep.DeepCutAuto
import Derived.Test.YthhepebkfokddaaGreatDoorGz8
import Derived.Test.YthhepebkfokddaaGreatDoorGz6
import Derived.Laws.IdiomCopy
import Derived.Lib.SliceRun
import Derived.Test.YthhepebkfokddaaGreatDoorGz7
import Derived.OwnWalk
import Derived.Deep.AppendLies
/- slices.Sort on numbers of 32 bits: the sort that parts a row. -/
namespace Go.Proofs.YthhepebkfokddaaGreatDoor
open Go Go.RowKit Go.Kt Go.Kt.Os Go.Sort

set_option maxRecDepth 100000 in
set_option maxHeartbeats 4000000 in
theorem oPdq (blk off cap n : Nat) (hsz : n < 4611686018427387904) : ∀ (N a b lim : Nat) (d : Array Int) (w : World), b - a < N → d.size = n → Holds E32 w blk off d → blk < w.heap.size → a ≤ b → b ≤ n → lim < 4611686018427387904 → Sort.Below ltInt a b d →
    Calls Tryz.prog 114 #[.slice (some ⟨blk, off, none⟩) n cap, .int .i64 a, .int .i64 b, .int .i64 lim] w fun e w' => e = .returned (.tuple #[]) ∧ ∃ d', (PermIn a b d d' ∧ SortedIn ltInt a b d') ∧ SW w blk off d' w' := by
  intro N
  induction N with
  | zero => intro _ _ _ _ _ h; exact absurd h (Nat.not_lt_zero _)
  | succ N ih =>
    intro a b lim d w hN hn hH hblk hab hb hlim hBel
    have H0 : Hid (d.size = n ∧ SW w blk off d w ∧ PWay a b d a b d) := Lib.hid ⟨hn, SW.refl hH, PWay.start hab (by omega) hBel⟩
    have IH := Lib.hid ih
    clear ih hn hH hBel
    go_enter Tryz.func114, Tryz.ntmps114
    go_wp2
    go_loopw [1, 2, 3, 8, 9] (fun s1 s2 s3 s8 s9 wr => ∃ (a' b' l' : Nat) (wb wp : Bool) (dk : Array Int), s1 = .int .i64 a' ∧ s2 = .int .i64 b' ∧ s3 = .int .i64 l' ∧ s8 = .bool wb ∧ s9 = .bool wp ∧ l' ≤ lim ∧ a' ≤ b' ∧ b' ≤ b ∧ a ≤ a' ∧ Hid (dk.size = n ∧ SW w blk off dk wr ∧ PWay a b d a' b' dk))
      (fun s1 s2 _ _ _ _ => (RowKit.intOf s2).toNat - (RowKit.intOf s1).toNat)
    case atStart => exact ⟨a, b, lim, true, true, d, rfl, rfl, rfl, rfl, rfl, Nat.le_refl _, hab, Nat.le_refl _, Nat.le_refl _, H0⟩
    case round =>
      obtain ⟨a', b', l', wb, wp, dk, rfl, rfl, rfl, rfl, rfl, hl', hab', hbb, haa, HY⟩ := hrel
      clear H0
      have hblk' : blk < wr.heap.size := Nat.lt_of_lt_of_le hblk HY.out.2.1.keep.size
      by_cases h12 : b' - a' ≤ 12
      · have h12z : (b' : Int) - (a' : Int) ≤ 12 := by omega
        have C0 := oIns blk off cap a' b' dk wr HY.out.2.1.holds hab' (by have := HY.out.1; omega) (by have := HY.out.1; omega)
        rw [HY.out.1] at C0
        have C := Lib.hid C0
        clear C0
        go_wp2_with (go_at_call 138; refine C.out.mono ?_; rintro e w1 ⟨rfl, hw1⟩)
        (try simp only [Exit.inBlock, Exit.then]); refine bodyPost_ret (results_none rfl _ _ _) rfl ?_
        obtain ⟨i1, i2⟩ := insertionSort_holds swo_ltInt dk a' b' hab' (by have := HY.out.1; omega)
        exact ⟨rfl, _, HY.out.2.2.done i1 i2, HY.out.2.1.trans hw1⟩
      · have h12z : 12 < (b' : Int) - (a' : Int) := by omega
        by_cases hl0 : l' = 0
        · subst hl0
          have C := Lib.hid (oHeap blk off cap a' b' n dk wr HY.out.1 HY.out.2.1.holds hab' (by omega) hsz)
          go_wp2_with (go_at_call 139; refine C.out.mono ?_; rintro e w1 ⟨rfl, hw1⟩)
          (try simp only [Exit.inBlock, Exit.then]); refine bodyPost_ret (results_none rfl _ _ _) rfl ?_
          obtain ⟨i1, i2⟩ := heapSort_holds swo_ltInt dk a' b' hab' (by have := HY.out.1; omega)
          exact ⟨rfl, _, HY.out.2.2.done i1 i2, HY.out.2.1.trans hw1⟩
        · have hl0z : ¬ ((l' : Int) = 0) := by omega
          have hl0b : ((l' : Int) == 0) = false := beq_eq_false_iff_ne.2 hl0z
          have EB := Lib.hid (show (a' : Int) + ((b' - a' : Nat) : Int) = (b' : Int) by omega)
          have EN := Lib.hid (show a' + (b' - a') = b' by omega)
          go_upto_if 35 with fail
          go_cut [3] from 19 to 133 (fun s3 wc => ∃ (l1 : Nat) (d1 : Array Int), s3 = .int .i64 l1 ∧ l1 ≤ lim ∧ Hid (d1.size = n ∧ SW w blk off d1 wc ∧ PWay a b d a' b' d1))
          case first =>
            cases wb
            · have C0 := oBreak blk off cap a' (b' - a') n dk wr HY.out.1 HY.out.2.1.holds hblk' (by omega) (by omega) hsz
              rw [EB.out, EN.out] at C0
              have C := Lib.hid C0
              clear C0
              go_wp2_with (go_at_call 140; refine C.out.mono ?_; rintro e w1 ⟨rfl, d1, hp1, hw1⟩)
              go_meet
              case rel => exact ⟨l' - 1, d1, by go_num, by omega, Lib.hid ⟨hp1.1.trans HY.out.1, HY.out.2.1.trans hw1, HY.out.2.2.turn hp1⟩⟩
            · go_wp2_with fail
              go_meet
              case rel => exact ⟨l', dk, rfl, hl', HY⟩
          case rest =>
            obtain ⟨l1, d1, rfl, hl1, H1⟩ := hcut
            clear HY
            have C0 := oPivot blk off cap a' (b' - a') n d1 wc H1.out.1 H1.out.2.1.holds (Nat.lt_of_lt_of_le hblk H1.out.2.1.keep.size) (by omega) (by omega) hsz
            rw [EB.out, EN.out] at C0
            have C := Lib.hid C0
            clear C0
            go_upto_if 50 with (go_at_call 141; refine C.out.mono ?_; rintro e w2 ⟨x, h, rfl, hx1, hx2, hw2⟩)
            have H2 : Hid (d1.size = n ∧ SW w blk off d1 w2 ∧ PWay a b d a' b' d1) := Lib.hid ⟨H1.out.1, H1.out.2.1.trans hw2, H1.out.2.2⟩
            clear C H1 hw2
            go_cut [11, 12] from 19 to 133 (fun s11 s12 wc => ∃ (p : Nat) (h : Int) (d2 : Array Int), s11 = .int .i64 p ∧ s12 = .int .i64 h ∧ a' ≤ p ∧ p < b' ∧ Hid (d2.size = n ∧ SW w blk off d2 wc ∧ PWay a b d a' b' d2))
            case first =>
              by_cases hh : h = 2
              · subst hh
                have C0 := oRev blk off cap a' b' d1 w2 H2.out.2.1.holds (by omega) (by have := H2.out.1; omega) (by have := H2.out.1; omega)
                rw [H2.out.1] at C0
                have C := Lib.hid C0
                clear C0
                go_wp2_with (go_at_call 142; refine C.out.mono ?_; rintro e w3 ⟨rfl, d2, hp2, hw3⟩)
                go_meet
                case rel => exact ⟨(b' - 1) - (x - a'), 1, d2, by go_num, rfl, by omega, by omega, Lib.hid ⟨hp2.1.trans H2.out.1, H2.out.2.1.trans hw3, H2.out.2.2.turn hp2⟩⟩
              · have hhb : (h == 2) = false := beq_eq_false_iff_ne.2 hh
                go_wp2_with fail
                go_meet
                case rel => exact ⟨x, h, d1, rfl, rfl, hx1, hx2, H2⟩
            case rest =>
              obtain ⟨p, h3, d2, rfl, rfl, hp1, hp2, H3⟩ := hcut
              clear H2 hx1 hx2
              go_upto_region 15 with fail
              go_cut [12, 68] from 19 to 133 (fun s12 s68 wx => s12 = .int .i64 h3 ∧ ∃ t : Bool, s68 = .bool t ∧ wx = wc)
              case first =>
                cases wb <;> cases wp <;>
                  (go_wp2_with fail
                   go_meet
                   exact ⟨rfl, _, rfl, rfl⟩)
              case rest =>
                obtain ⟨rfl, t, rfl, rfl⟩ := hcut
                go_upto_if 68 with fail
                go_cut [] from 19 to 133 (fun wx => ∃ d3 : Array Int, Hid (d3.size = n ∧ SW w blk off d3 wx ∧ PWay a b d a' b' d3))
                case first =>
                  cases t
                  · go_wp2_with fail
                    go_meet
                    case rel => exact ⟨d2, H3⟩
                  · have C0 := oPins blk off cap a' b' n d2 wc H3.out.1 H3.out.2.1.holds (by omega) (by omega) hsz
                    obtain ⟨i1, i2⟩ := partialInsertionSort_holds swo_ltInt d2 a' b' (by omega) (by have := H3.out.1; omega) H3.out.2.2.under
                    obtain ⟨⟨d3, r⟩, hr⟩ : ∃ z, partialInsertionSort ltInt d2 a' b' = z := ⟨_, rfl⟩
                    rw [hr] at C0 i1 i2
                    simp only at C0 i1 i2
                    have HI := Lib.hid (And.intro i1 i2)
                    have C := Lib.hid C0
                    clear C0 hr i1 i2
                    cases r
                    · go_wp2_with (go_at_call 143; refine C.out.mono ?_; rintro e w4 ⟨rfl, hw4⟩)
                      go_meet
                      case rel => exact ⟨d3, Lib.hid ⟨HI.out.1.1.trans H3.out.1, H3.out.2.1.trans hw4, H3.out.2.2.turn HI.out.1⟩⟩
                    · go_wp2_with (go_at_call 143; refine C.out.mono ?_; rintro e w4 ⟨rfl, hw4⟩)
                      (try simp only [Exit.inBlock, Exit.then]); refine bodyPost_ret (results_none rfl _ _ _) rfl ?_
                      exact ⟨rfl, d3, H3.out.2.2.done HI.out.1 (HI.out.2 trivial), H3.out.2.1.trans hw4⟩
                case rest =>
                  obtain ⟨d3, H4⟩ := hcut
                  clear H3
                  go_upto_region 17 with fail
                  go_cut [87] from 19 to 133 (fun s87 wx => ∃ t : Bool, s87 = .bool t ∧ Hid (SW w blk off d3 wx) ∧ Hid (t = true → 0 < a' ∧ ltInt d3[a' - 1]! d3[p]! = false))
                  case first =>
                    obtain ⟨G, hG⟩ : ∃ G : Nat → Int, ∀ t, G t = d3[t]! := ⟨fun t => d3[t]!, fun _ => rfl⟩
                    have hcw := H4.out.2.1.cells hG H4.out.1
                    have HG := Lib.hid hG
                    clear hG
                    by_cases ha0 : 0 < a'
                    · have ha0z : (0 : Int) < (a' : Int) := by omega
                      go_big_quiet (first | (go_at_call 118; refine Calls.quiet_of_same (oLess _ _ _)))
                      go_wp2_with fail
                      go_meet
                      case rel => exact ⟨_, rfl, Lib.hid (H4.out.2.1.drewN _), Lib.hid (fun e => ⟨ha0, by rw [← HG.out, ← HG.out]; simpa using e⟩)⟩
                    · have ha0z : ¬ (0 : Int) < (a' : Int) := by omega
                      go_big_quiet (first | (go_at_call 118; refine Calls.quiet_of_same (oLess _ _ _)))
                      go_wp2_with fail
                      go_meet
                      case rel => exact ⟨_, rfl, Lib.hid (H4.out.2.1.drewN _), Lib.hid (fun e => by cases e)⟩
                  case rest =>
                    obtain ⟨t, rfl, hS5, hT⟩ := hcut
                    have hb3 : b' ≤ d3.size := by have := H4.out.1; omega
                    cases t
                    · have C0 := oPart blk off cap a' b' p n d3 wc H4.out.1 hS5.out.holds hp1 hp2 (by omega) hsz
                      obtain ⟨i1, i2, i3, i4, i5⟩ := partition_holds ltInt swo_ltInt d3 a' b' p hp1 hp2 hb3
                      obtain ⟨⟨m, al, d5⟩, hr⟩ : ∃ z, partition ltInt d3 a' b' p = z := ⟨_, rfl⟩
                      rw [hr] at C0 i1 i2 i3 i4 i5
                      simp only at C0 i1 i2 i3 i4 i5
                      have HPt : Hid (Parted a' b' m d5) := Lib.hid ⟨i1, i2, i4, i5⟩
                      have HW : Hid (PWay a b d a' b' d5) := Lib.hid (H4.out.2.2.turn i3)
                      have HD5 : Hid (d5.size = n) := Lib.hid (i3.1.trans H4.out.1)
                      have C := Lib.hid C0
                      clear C0 hr i3 i4 i5 hT
                      by_cases hlr : m - a' < b' - m
                      · have hlrz : (m : Int) - (a' : Int) < (b' : Int) - (m : Int) := by omega
                        go_wp2_with (first | (go_at_call 145; refine C.out.mono ?_; rintro e w5 ⟨rfl, hw5⟩) | (go_at_call 114; refine (IH.out a' m l1 d5 w5 (by omega) HD5.out hw5.holds (Nat.lt_of_lt_of_le hblk (hS5.out.trans hw5).keep.size) i1 (by omega) (by omega) (HW.out.belowL HPt.out)).mono ?_; rintro e w6 ⟨rfl, d6, hd6, hw6⟩))
                        go_roundw
                        case rel => exact ⟨m + 1, b', l1, _, al, d6, by go_num, rfl, rfl, rfl, rfl, hl1, by omega, hbb, by omega, Lib.hid ⟨hd6.1.1.trans HD5.out, (hS5.out.trans hw5).trans hw6, HW.out.left HPt.out hd6.1 hd6.2⟩⟩
                        case measure => simp [RowKit.intOf]; omega
                      · have hlrz : (b' : Int) - (m : Int) ≤ (m : Int) - (a' : Int) := by omega
                        have EM := Lib.hid (show ((m + 1 : Nat) : Int) = (m : Int) + 1 by omega)
                        have CR0 : ∀ (W : World), Holds E32 W blk off d5 → blk < W.heap.size → Calls Tryz.prog 114 #[.slice (some ⟨blk, off, none⟩) n cap, .int .i64 ((m : Int) + 1), .int .i64 b', .int .i64 l1] W fun e w' => e = .returned (.tuple #[]) ∧ ∃ d', (PermIn (m + 1) b' d5 d' ∧ SortedIn ltInt (m + 1) b' d') ∧ SW W blk off d' w' := fun W h1 h2 => by
                          have := IH.out (m + 1) b' l1 d5 W (by omega) HD5.out h1 h2 (by omega) (by omega) (by omega) (PWay.belowR HPt.out)
                          rw [EM.out] at this
                          exact this
                        have CR := Lib.hid CR0
                        clear CR0
                        go_wp2_with (first | (go_at_call 145; refine C.out.mono ?_; rintro e w5 ⟨rfl, hw5⟩) | (go_at_call 114; refine (CR.out w5 hw5.holds (Nat.lt_of_lt_of_le hblk (hS5.out.trans hw5).keep.size)).mono ?_; rintro e w6 ⟨rfl, d6, hd6, hw6⟩))
                        go_roundw
                        case rel => exact ⟨a', m, l1, _, al, d6, rfl, rfl, rfl, rfl, rfl, hl1, i1, by omega, haa, Lib.hid ⟨hd6.1.1.trans HD5.out, (hS5.out.trans hw5).trans hw6, HW.out.right HPt.out hd6.1 hd6.2⟩⟩
                        case measure => simp [RowKit.intOf]; omega
                    · obtain ⟨ha0, hlt⟩ := hT.out rfl
                      have hmin : ∀ i, a' ≤ i → i < b' → ltInt d3[i]! d3[p]! = false := fun i h1 h2 => by
                        rcases H4.out.2.2.under with e | e
                        · omega
                        · have e1 := ltI_f.1 (e i h1 h2)
                          have e2 := ltI_f.1 hlt
                          exact ltI_f.2 (by omega)
                      have C0 := oPeq blk off cap a' b' p n d3 wc H4.out.1 hS5.out.holds hp1 hp2 (by omega) hsz
                      obtain ⟨i1, i2, i3, i4, i5⟩ := partitionEqual_holds ltInt swo_ltInt d3 a' b' p hp1 hp2 hb3 hmin
                      obtain ⟨⟨m, d5⟩, hr⟩ : ∃ z, partitionEqual ltInt d3 a' b' p = z := ⟨_, rfl⟩
                      rw [hr] at C0 i1 i2 i3 i4 i5
                      simp only at C0 i1 i2 i3 i4 i5
                      have HW : Hid (PWay a b d m b' d5) := Lib.hid (H4.out.2.2.equal d3[p]! hmin i3 i1 i2 i4 i5)
                      have HD5 : Hid (d5.size = n) := Lib.hid (i3.1.trans H4.out.1)
                      have C := Lib.hid C0
                      clear C0 hr i3 i4 i5 hT hmin hlt
                      go_wp2_with (go_at_call 144; refine C.out.mono ?_; rintro e w5 ⟨rfl, hw5⟩)
                      go_roundw
                      case rel => exact ⟨m, b', l1, wb, wp, d5, rfl, rfl, rfl, rfl, rfl, hl1, i2, hbb, by omega, Lib.hid ⟨HD5.out, hS5.out.trans hw5, HW.out⟩⟩
                      case measure => simp [RowKit.intOf]; omega
end Go.Proofs.YthhepebkfokddaaGreatDoor
/- slices.Sort on numbers of 32 bits, whole; and of no number. -/
namespace Go.Proofs.YthhepebkfokddaaGreatDoor
open Go Go.RowKit Go.Kt Go.Kt.Os Go.Sort

set_option maxRecDepth 100000 in
set_option maxHeartbeats 1000000 in
theorem oSort (blk off cap n : Nat) (d : Array Int) (w : World) (hn : d.size = n) (hH : Holds E32 w blk off d) (hblk : blk < w.heap.size) (hsz : n < 4611686018427387904) :
    Calls Tryz.prog 82 #[.slice (some ⟨blk, off, none⟩) n cap] w fun e w' => e = .returned (.tuple #[]) ∧ ∃ d', (PermIn 0 n d d' ∧ SortedIn ltInt 0 n d') ∧ SW w blk off d' w' := by
  have C0 := Tryz.bits_Len (n : Int) w (by omega) (by omega)
  rw [Int.toNat_natCast] at C0
  have hl : Lib.bitLen n < 4611686018427387904 := by have := bl_le 64 n; show Lib.bitLenAux 64 n < _; omega
  obtain ⟨k, hk⟩ : ∃ k, Lib.bitLen n = k := ⟨_, rfl⟩
  rw [hk] at C0 hl
  have D0 := oPdq blk off cap n hsz (n + 1) 0 n k d w (by omega) hn hH hblk (by omega) (Nat.le_refl _) hl (.inl rfl)
  rw [show ((0 : Nat) : Int) = 0 from rfl] at D0
  have C := Lib.hid C0
  have D := Lib.hid D0
  clear C0 D0 hk hH hn
  go_enter Tryz.func82, Tryz.ntmps82
  go_wp2_with (first | (go_at_call 115; refine C.out.mono ?_; rintro e w1 ⟨rfl, rfl⟩) | (go_at_call 114; refine D.out.mono ?_; rintro e w2 ⟨rfl, hd⟩))
  go_end0
  exact ⟨rfl, hd⟩

set_option maxRecDepth 100000 in
set_option maxHeartbeats 1000000 in
theorem oIns_nil (w : World) : Calls Tryz.prog 138 #[.slice none 0 0, .int .i64 0, .int .i64 0] w fun e w' => e = .returned (.tuple #[]) ∧ w' = w := by
  go_enter Tryz.func138, Tryz.ntmps138
  go_wp2
  go_loopw [6] (fun vi wr => vi = .int .i64 1 ∧ wr = w) (fun _ _ => 0)
  case atStart => exact ⟨rfl, rfl⟩
  case round =>
    obtain ⟨rfl, rfl⟩ := hrel
    go_wp2
    go_end0
    exact ⟨rfl, rfl⟩
set_option maxRecDepth 100000 in
set_option maxHeartbeats 1000000 in
theorem oPdq_nil (w : World) : Calls Tryz.prog 114 #[.slice none 0 0, .int .i64 0, .int .i64 0, .int .i64 0] w fun e w' => e = .returned (.tuple #[]) ∧ w' = w := by
  go_enter Tryz.func114, Tryz.ntmps114
  go_wp2
  go_loopw [1, 2, 3, 8, 9] (fun s1 s2 s3 s8 s9 wr => s1 = .int .i64 0 ∧ s2 = .int .i64 0 ∧ s3 = .int .i64 0 ∧ s8 = .bool true ∧ s9 = .bool true ∧ wr = w) (fun _ _ _ _ _ _ => 0)
  case atStart => exact ⟨rfl, rfl, rfl, rfl, rfl, rfl⟩
  case round =>
    obtain ⟨rfl, rfl, rfl, rfl, rfl, rfl⟩ := hrel
    go_wp2_with (go_at_call 138; refine (oIns_nil _).mono ?_; rintro e w1 ⟨rfl, rfl⟩)
    (try simp only [Exit.inBlock, Exit.then]); refine bodyPost_ret (results_none rfl _ _ _) rfl ?_
    exact ⟨rfl, rfl⟩
set_option maxRecDepth 100000 in
set_option maxHeartbeats 1000000 in
theorem oSort_nil (w : World) : Calls Tryz.prog 82 #[.slice none 0 0] w fun e w' => e = .returned (.tuple #[]) ∧ w' = w := by
  have C0 := Tryz.bits_Len 0 w (by omega) (by omega)
  rw [show Lib.bitLen (0 : Int).toNat = 0 from rfl] at C0
  have C := Lib.hid C0
  clear C0
  go_enter Tryz.func82, Tryz.ntmps82
  go_wp2_with (first | (go_at_call 115; refine C.out.mono ?_; rintro e w1 ⟨rfl, rfl⟩) | (go_at_call 114; refine (oPdq_nil _).mono ?_; rintro e w2 ⟨rfl, rfl⟩))
  go_end0
  exact ⟨rfl, rfl⟩
end Go.Proofs.YthhepebkfokddaaGreatDoor
/- props: the points whose decompositions lines tell, rising. -/
namespace Go.Proofs.YthhepebkfokddaaGreatDoor
open Go Go.RowKit Go.Kt Go.Kt.Rg Go.Maps Go.Kt.Os Go.Sort

/-- A list of points that is read: in a block of before or of later than B. -/
def RsV (B : Nat) (v : Value) (L : List Nat) (w : World) : Prop :=
  (L = [] ∧ v = .slice none 0 0) ∨ ∃ g cp, v = .slice (some ⟨g, 0, none⟩) L.length cp ∧ L.length ≤ cp ∧ B ≤ g ∧ g < w.heap.size ∧ ∀ (i : Nat) (x : Nat), L[i]? = some x → w.cell? ⟨g, i, none⟩ = some (.int .i32 (x : Nat))

theorem pcollect (vs : Nat → Option Value) (gf : Nat) (lb : Array Value) (Nd : Nat → Prop) (w w0 : World) (eg : ∀ args w, (callFunc gf args).run Tryz.prog w = .ok (.enter gf args) w)
    (hit : Iter5 Tryz.prog gf lb encK (OkK vs) (FinK vs) (fun _ => False) Nd w0) (hNd : ∀ b, Nd b → b < w.heap.size) (hNdw : ∀ b, Nd b → w.heap[b]? = w0.heap[b]?) (hw0 : w0.heap.size ≤ w.heap.size) (hbd : ∀ x, (vs x).isSome = true → x < 1114112) :
    Calls Tryz.prog 81 #[.func (.func gf) #[] lb] w fun e w' => ∃ L ao cp, FinK vs L ∧ e = .returned (.slice ao L.length cp) ∧ OwnS (fun b => w.heap.size ≤ b) 21 1 (.slice ao L.length cp) L.length (encN L) w' ∧ Below w.heap.size w w' := by
  have C := Lib.hid (pappend_any vs gf lb Nd w w0 eg hit hNd hNdw hw0 hbd)
  clear eg hit hNd hNdw hw0 hbd
  go_enter Tryz.func81, Tryz.ntmps81
  go_wp2_with fail
  refine C.out.mono ?_
  rintro e w1 ⟨L, ao, cp, h1, rfl, h2, h3⟩
  have H := Lib.hid (And.intro h1 (And.intro h2 h3))
  clear h1 h2 h3
  go_wp2
  go_ret
  exact ⟨L, ao, cp, H.out.1, rfl, H.out.2.1, H.out.2.2⟩

/-- Sorted numbers without doubles rise. -/
theorem rise_of {L : List Nat} {d' : Array Int} {n : Nat} (hn : L.length = n) (hnd : L.Nodup) (hp : PermIn 0 n (L.map (fun x : Nat => (x : Int))).toArray d') (hs : SortedIn ltInt 0 n d') :
    ∃ Ls : List Nat, Ls.length = n ∧ d' = (Ls.map (fun x : Nat => (x : Int))).toArray ∧ Ls.Perm L ∧ Ls.Pairwise (· < ·) := by
  obtain ⟨h1, _, h3⟩ := hp
  have hz : d'.size = n := by rw [h1]; simp [hn]
  have e1 : d'.extract 0 n = d' := by rw [← hz]; simp
  have e2 : ((L.map (fun x : Nat => (x : Int))).toArray).extract 0 n = (L.map (fun x : Nat => (x : Int))).toArray := by
    have : ((L.map (fun x : Nat => (x : Int))).toArray).size = n := by simp [hn]
    rw [← this]; simp
    exact List.take_of_length_le (by simp)
  rw [e1, e2] at h3
  have h3 : d'.toList.Perm (L.map (fun x : Nat => (x : Int))) := h3
  have hnn : ∀ y ∈ d'.toList, 0 ≤ y := fun y hy => by
    obtain ⟨x, _, rfl⟩ := List.mem_map.1 (h3.mem_iff.1 hy)
    omega
  have hb : (d'.toList.map Int.toNat).map (fun x : Nat => (x : Int)) = d'.toList := by
    rw [List.map_map]
    conv => rhs; rw [← List.map_id d'.toList]
    refine List.map_congr_left fun y hy => ?_
    have := hnn y hy
    simp only [Function.comp, id]
    omega
  have hperm : (d'.toList.map Int.toNat).Perm L := by
    have := h3.map Int.toNat
    rw [List.map_map] at this
    have e : (Int.toNat ∘ fun x : Nat => (x : Int)) = id := by funext x; simp
    rw [e, List.map_id] at this
    exact this
  have hlen : (d'.toList.map Int.toNat).length = n := by rw [List.length_map]; exact hz
  refine ⟨d'.toList.map Int.toNat, hlen, ?_, hperm, ?_⟩
  · rw [hb]
  · have hnd2 := hperm.nodup_iff.2 hnd
    rw [List.pairwise_iff_getElem]
    intro i j hi hj hij
    have h4 := hs i j (Nat.zero_le _) hij (by omega)
    have h5 : i < d'.size := by omega
    have h6 : j < d'.size := by omega
    rw [getElem!_pos d' i h5, getElem!_pos d' j h6] at h4
    have h7 : ¬ d'[j] < d'[i] := by simpa [ltInt] using h4
    have h8 := (List.pairwise_iff_getElem.1 hnd2) i j hi hj hij
    have h9 : (d'.toList.map Int.toNat)[i] = (d'[i]).toNat := by simp
    have h10 : (d'.toList.map Int.toNat)[j] = (d'[j]).toNat := by simp
    rw [h9, h10] at h8 ⊢
    omega

set_option maxRecDepth 100000 in
set_option maxHeartbeats 2000000 in
theorem psorted (vs : Nat → Option Value) (gf : Nat) (lb : Array Value) (Nd : Nat → Prop) (w w0 : World) (eg : ∀ args w, (callFunc gf args).run Tryz.prog w = .ok (.enter gf args) w)
    (hit : Iter5 Tryz.prog gf lb encK (OkK vs) (FinK vs) (fun _ => False) Nd w0) (hNd : ∀ b, Nd b → b < w.heap.size) (hNdw : ∀ b, Nd b → w.heap[b]? = w0.heap[b]?) (hw0 : w0.heap.size ≤ w.heap.size) (hbd : ∀ x, (vs x).isSome = true → x < 1114112) :
    Calls Tryz.prog 46 #[.func (.func gf) #[] lb] w fun e w' => ∃ L v, L.Pairwise (· < ·) ∧ (∀ x, x ∈ L ↔ (vs x).isSome = true) ∧ e = .returned v ∧ RsV w.heap.size v L w' ∧ Below w.heap.size w w' := by
  have C := Lib.hid (pcollect vs gf lb Nd w w0 eg hit hNd hNdw hw0 hbd)
  have HBD := Lib.hid hbd
  clear eg hit hNd hNdw hw0 hbd
  go_enter Tryz.func46, Tryz.ntmps46
  go_wp2_with fail
  refine C.out.mono ?_
  rintro e w1 ⟨L, ao, cp, h1, rfl, h2, h3⟩
  rcases h2.shape with ⟨hv, h0⟩ | ⟨g, cap, hv, hg, hgl⟩
  · have hL : L = [] := List.eq_nil_of_length_eq_zero h0
    subst hL
    cases hv
    have H := Lib.hid (And.intro h1 h3)
    have C2 := Lib.hid (oSort_nil w1)
    clear h1 h2 h3
    simp only [List.length_nil]
    go_wp2_with fail
    refine C2.out.mono ?_
    rintro e w2 ⟨rfl, rfl⟩
    go_wp2
    go_ret
    exact ⟨[], _, List.Pairwise.nil, H.out.1.2, rfl, .inl ⟨rfl, rfl⟩, H.out.2⟩
  · cases hv
    obtain ⟨n, hn⟩ : ∃ n, L.length = n := ⟨_, rfl⟩
    have hln : n ≤ 1114112 := by rw [← hn]; exact nodup_le 1114112 L h1.1 (fun x hx => HBD.out x ((h1.2 x).1 hx))
    obtain ⟨d, hd⟩ : ∃ d : Array Int, (L.map (fun x : Nat => (x : Int))).toArray = d := ⟨_, rfl⟩
    have hds : d.size = n := by rw [← hd]; simp [hn]
    have hH : Holds E32 w1 g 0 d := fun j hj => by
      have hjl : j < L.length := by omega
      refine ⟨?_, by rw [Nat.zero_add]; exact h2.frozen j⟩
      rw [Nat.zero_add]
      refine h2.at0 (i := j) ?_
      have e1 : d[j]! = (L[j] : Int) := by rw [getElem!_pos d j hj]; simp [← hd]
      rw [e1]
      simp [encN, List.getElem?_map, List.getElem?_eq_getElem hjl]
    rw [hn]
    have C2 := Lib.hid (oSort g 0 cp n d w1 hds hH hgl (by omega))
    have hcp : Hid (n ≤ cp) := Lib.hid (by
      rcases h2.1.2 with ⟨hv, _⟩ | ⟨g', cap', cur, hv, _, hgg, hnc, _⟩
      · cases hv
      · cases hv; rw [hn] at hnc; exact hnc)
    have H := Lib.hid (And.intro h1 (And.intro h3 (And.intro hn (And.intro hg (And.intro hgl (And.intro hd hds))))))
    clear h1 h2 h3 hH hn hds hg hgl hd hln
    go_wp2_with fail
    refine C2.out.mono ?_
    rintro e w2 ⟨rfl, d', hps, hsw⟩
    have H2 := Lib.hid (And.intro hps hsw)
    clear hps hsw
    go_wp2
    go_ret
    obtain ⟨h1, h3, hn, hg, hgl, hd, hds⟩ := H.out
    obtain ⟨hps, hsw⟩ := H2.out
    rw [← hd] at hps
    obtain ⟨Ls, hl, hd', hpm, hpw⟩ := rise_of hn h1.1 hps.1 hps.2
    have hgw : w.heap.size ≤ g := hg
    refine ⟨Ls, _, hpw, fun x => by rw [hpm.mem_iff]; exact h1.2 x, rfl, .inr ⟨g, cp, by rw [hl]; rfl, by rw [hl]; exact hcp.out, hgw, Nat.lt_of_lt_of_le hgl hsw.keep.size, fun i x hx => ?_⟩, h3.trans (hsw.keep.below h3.size (fun b hb => by omega))⟩
    have hil := (List.getElem?_eq_some_iff.1 hx).1
    have hsz : d'.size = Ls.length := by rw [hd']; simp
    have := (hsw.holds i (by omega)).1
    rw [Nat.zero_add, getElem!_pos d' i (by omega)] at this
    rw [this]
    have e1 : d'[i] = (x : Int) := by
      simp only [hd', List.getElem_toArray, List.getElem_map]
      rw [(List.getElem?_eq_some_iff.1 hx).2]
    rw [e1]

theorem pdecomposed {B0 : Nat} {ρ : Nat → Nat} {R : RdB} {line n m : Nat} {S : RdS} {cv kv : Value} (w : World) (hR : RdW B0 ρ R line n m S cv kv w) (hbd : ∀ x, (S.ds x).isSome = true → x < 1114112) :
    Calls Tryz.prog 22 #[.pointer (some ⟨R.g, 0, none⟩)] w fun e w' => ∃ L v, L.Pairwise (· < ·) ∧ (∀ x, x ∈ L ↔ (S.ds x).isSome = true) ∧ e = .returned v ∧ RsV w.heap.size v L w' ∧ Below w.heap.size w w' := by
  have c4 : w.cell? ⟨R.g, 4, none⟩ = some (.map (some R.bd)) := by rw [Lib.cell_of_heap hR.cell]; rfl
  obtain ⟨hB, vs, hM, hs, _⟩ := hR.d
  obtain ⟨w1, hw1⟩ : ∃ w1, w.alloc (.cells #[.map (some R.bd)] 54) = w1 := ⟨_, rfl⟩
  have hb1 : Below w.heap.size w w1 := by rw [← hw1]; exact (Below.refl _ _).alloc (Nat.le_refl _) _
  have hz1 : w1.heap.size = w.heap.size + 1 := by rw [← hw1]; exact Array.size_push _
  have hbs : w1.cell? ⟨w.heap.size, 0, none⟩ = some (.map (some R.bd)) := by rw [← hw1, Lib.cell_of_heap (heap_alloc_new _ _)]; rfl
  have hM1 : MapG Tryz.prog 21 R.bd n (ptF vs) w1 := hM.below hb1 hM.lt
  have hit := pkeys_iter R.bd n vs w.heap.size w1 hbs hM1
  have hml := hM.lt
  have CS := Lib.hid (psorted vs _ _ _ w1 w1 enters_keys hit (fun b hb => by rcases hb with rfl | rfl <;> omega) (fun _ _ => rfl) (Nat.le_refl _) (fun x hx => hbd x (by rw [← hs x]; exact hx)))
  have CK := Lib.hid (pkeys_call R.bd w)
  have HS := Lib.hid hs
  have HB := Lib.hid (And.intro hb1 (And.intro hz1 hw1))
  clear hR hB hM hs hb1 hz1 hbs hM1 hit hml hbd hw1
  go_enter Tryz.func22, Tryz.ntmps22
  go_wp2_with fail
  refine CK.out.mono ?_
  rintro e w2 ⟨rfl, hw2⟩
  have e2 : w2 = w1 := hw2.symm.trans HB.out.2.2
  subst e2
  clear hw2
  go_wp2_with fail
  refine CS.out.mono ?_
  rintro e w3 ⟨L, v, h1, h2, rfl, h4, h5⟩
  have H := Lib.hid (And.intro h1 (And.intro h2 (And.intro h4 h5)))
  clear h1 h2 h4 h5
  go_wp2
  go_ret
  obtain ⟨h1, h2, h4, h5⟩ := H.out
  refine ⟨L, v, h1, fun x => by rw [h2 x, HS.out x], rfl, ?_, HB.out.1.trans (h5.mono (by have := HB.out.2.1; omega))⟩
  rcases h4 with h4 | ⟨g, cp, h6, h7, h8, h9, h10⟩
  · exact .inl h4
  · exact .inr ⟨g, cp, h6, h7, by have := HB.out.2.1; omega, h9, h10⟩
end Go.Proofs.YthhepebkfokddaaGreatDoor
/- slices.BinarySearch and slices.Compact on rising numbers of 32 bits. -/
namespace Go.Proofs.YthhepebkfokddaaGreatDoor
open Go Go.RowKit Go.Kt Go.Kt.Os Go.Sort

theorem oNaN2 (x : Int) (w : World) : Calls Tryz.prog 119 #[.int .i32 x] w fun e w' => e = .returned (.bool false) ∧ w' = w := by
  go_enter Tryz.func119, Tryz.ntmps119
  go_wp2
  go_ret
  exact ⟨by simp, rfl⟩

set_option maxRecDepth 100000 in
set_option maxHeartbeats 2000000 in
theorem oSearch (blk off cap n : Nat) (G : Nat → Int) (x : Int) (w : World) (hc : ∀ t, t < n → w.cell? ⟨blk, off + t, none⟩ = some (.int .i32 (G t))) (hs : ∀ i j, i ≤ j → j < n → G i ≤ G j) (hsz : n < 4611686018427387904) :
    Calls Tryz.prog 89 #[.slice (some ⟨blk, off, none⟩) n cap, .int .i32 x] w fun e w' =>
      ∃ (p : Nat) (f : Value), e = .returned (.tuple #[.int .i64 p, f]) ∧ p ≤ n ∧ (∀ t, t < p → G t < x) ∧ (∀ t, p ≤ t → t < n → x ≤ G t) ∧ Below w.heap.size w w' := by
  have HS := Lib.hid hs
  clear hs
  go_enter Tryz.func89, Tryz.ntmps89
  go_wp2
  go_loopw [7, 8] (fun vi vj wr => ∃ (i j q : Nat), vi = .int .i64 i ∧ vj = .int .i64 j ∧ i ≤ j ∧ j ≤ n ∧ Hid ((∀ t, t < i → G t < x) ∧ (∀ t, j ≤ t → t < n → x ≤ G t)) ∧ wr = w.drewN q) (fun vi vj _ => (RowKit.intOf vj).toNat - (RowKit.intOf vi).toNat)
  case atStart => exact ⟨0, n, 0, rfl, rfl, by omega, Nat.le_refl _, Lib.hid ⟨fun t h => absurd h (by omega), fun t h1 h2 => absurd h2 (by omega)⟩, rfl⟩
  case round =>
    obtain ⟨i, j, q, rfl, rfl, hij, hjn, hh, hw⟩ := hrel
    have hcw : ∀ t, t < n → wr.cell? ⟨blk, off + t, none⟩ = some (.int .i32 (G t)) := fun t ht => by rw [hw]; exact hc t ht
    have HW := Lib.hid hw
    clear hw
    by_cases hlt : i < j
    · have hltz : (i : Int) < (j : Int) := by omega
      obtain ⟨h, hh2⟩ : ∃ h, h = (i + j) / 2 := ⟨_, rfl⟩
      have hhz : ((i : Int) + (j : Int)) / 2 = (h : Int) := by omega
      have hm1 : i ≤ h := by omega
      have hm2 : h < j := by omega
      have HZ := Lib.hid hhz
      have HH := Lib.hid hh2
      clear hh2 hhz
      go_wp2_with fail
      rw [HZ.out, ← HH.out]
      refine (oLess _ _ _).mono ?_
      rintro e w2 ⟨rfl, rfl⟩
      cases hl : ltInt (G h) x
      · go_wp2
        go_roundw
        case rel => exact ⟨i, h, q, rfl, rfl, hm1, by omega, Lib.hid ⟨hh.out.1, fun t h1 h2 => by
          have e1 := HS.out h t h1 h2
          have e2 : x ≤ G h := by simpa [ltInt] using hl
          omega⟩, HW.out⟩
        case measure => simp [RowKit.intOf]; omega
      · go_wp2
        go_roundw
        case rel => exact ⟨h + 1, j, q, by go_num, rfl, by omega, hjn, Lib.hid ⟨fun t h1 => by
          have e1 := HS.out t h (by omega) (by omega)
          have e2 : G h < x := by simpa [ltInt] using hl
          omega, hh.out.2⟩, HW.out⟩
        case measure => simp [RowKit.intOf]; omega
    · have e : i = j := by omega
      subst e
      have hltz : ¬ (i : Int) < (i : Int) := by omega
      by_cases hin : i < n
      · have hinz : (i : Int) < (n : Int) := by omega
        cases hq : (G i == x)
        · go_wp2_with (go_at_call 119; refine (oNaN2 _ _).mono ?_; rintro e w2 ⟨rfl, rfl⟩)
          go_ret2
          first | exact ⟨i, ⟨_, rfl⟩, hjn, hh.out.1, hh.out.2, by rw [HW.out]; exact below_drewN (Below.refl _ _) _⟩ | exact ⟨i, rfl, hjn, hh.out.1, hh.out.2, by rw [HW.out]; exact below_drewN (Below.refl _ _) _⟩ | exact ⟨i, _, rfl, hjn, hh.out.1, hh.out.2, by rw [HW.out]; exact below_drewN (Below.refl _ _) _⟩
        · go_wp2_with (go_at_call 119; refine (oNaN2 _ _).mono ?_; rintro e w2 ⟨rfl, rfl⟩)
          go_ret2
          first | exact ⟨i, ⟨_, rfl⟩, hjn, hh.out.1, hh.out.2, by rw [HW.out]; exact below_drewN (Below.refl _ _) _⟩ | exact ⟨i, rfl, hjn, hh.out.1, hh.out.2, by rw [HW.out]; exact below_drewN (Below.refl _ _) _⟩ | exact ⟨i, _, rfl, hjn, hh.out.1, hh.out.2, by rw [HW.out]; exact below_drewN (Below.refl _ _) _⟩
      · have hinz : (n : Int) ≤ (i : Int) := by omega
        go_wp2
        go_ret2
        first | exact ⟨i, ⟨_, rfl⟩, hjn, hh.out.1, hh.out.2, by rw [HW.out]; exact below_drewN (Below.refl _ _) _⟩ | exact ⟨i, rfl, hjn, hh.out.1, hh.out.2, by rw [HW.out]; exact below_drewN (Below.refl _ _) _⟩ | exact ⟨i, _, rfl, hjn, hh.out.1, hh.out.2, by rw [HW.out]; exact below_drewN (Below.refl _ _) _⟩
end Go.Proofs.YthhepebkfokddaaGreatDoor
/- slices.Compact on rising numbers of 32 bits. -/
namespace Go.Proofs.YthhepebkfokddaaGreatDoor
open Go Go.RowKit Go.Kt Go.Kt.Os Go.Sort

/-- What stands in the first i places of H are the numbers of the first p of G, each once; behind p - 1 nothing has turned. -/
structure Cpt (n : Nat) (G : Nat → Int) (i p : Nat) (H : Nat → Int) : Prop where
  i1 : 1 ≤ i
  ip : i + 1 ≤ p
  pn : p ≤ n
  rise : ∀ j k, j < k → k < i → H j < H k
  last : H (i - 1) = G (p - 1)
  same : ∀ t, p ≤ t + 1 → t < n → H t = G t
  mem : ∀ x, (∃ t, t < i ∧ H t = x) ↔ ∃ t, t < p ∧ G t = x

theorem Cpt.start {n : Nat} {G : Nat → Int} {i : Nat} (h1 : 1 ≤ i) (hn : i < n) (hr : ∀ j k, j < k → k < i → G j < G k) (he : G i = G (i - 1)) : Cpt n G i (i + 1) G where
  i1 := h1
  ip := Nat.le_refl _
  pn := hn
  rise := hr
  last := he.symm
  same := fun _ _ _ => rfl
  mem := fun x => ⟨fun ⟨t, ht, e⟩ => ⟨t, by omega, e⟩, fun ⟨t, ht, e⟩ => by
    rcases Nat.lt_or_ge t i with h | h
    · exact ⟨t, h, e⟩
    · exact ⟨i - 1, by omega, by rw [← he, ← e]; congr 1; omega⟩⟩
theorem Cpt.skip {n : Nat} {G H : Nat → Int} {i p : Nat} (h : Cpt n G i p H) (hp : p < n) (he : G p = G (p - 1)) : Cpt n G i (p + 1) H where
  i1 := h.i1
  ip := by have := h.ip; omega
  pn := hp
  rise := h.rise
  last := h.last.trans he.symm
  same := fun t h1 h2 => h.same t (by omega) h2
  mem := fun x => (h.mem x).trans ⟨fun ⟨t, ht, e⟩ => ⟨t, by omega, e⟩, fun ⟨t, ht, e⟩ => by
    have := h.ip
    rcases Nat.lt_or_ge t p with k | k
    · exact ⟨t, k, e⟩
    · exact ⟨p - 1, by omega, by rw [← he, ← e]; congr 1; omega⟩⟩
theorem Cpt.take {n : Nat} {G H : Nat → Int} {i p : Nat} (h : Cpt n G i p H) (hs : ∀ i j, i ≤ j → j < n → G i ≤ G j) (hp : p < n) (hne : G p ≠ G (p - 1)) : Cpt n G (i + 1) (p + 1) (fun t => if t = i then G p else H t) where
  i1 := by omega
  ip := by have := h.ip; omega
  pn := hp
  rise := fun j k hjk hk => by
    have hlt : ∀ j, j < i → H j < G p := fun j hj => by
      have e1 : H j ≤ H (i - 1) := by
        rcases Nat.lt_or_ge j (i - 1) with k | k
        · exact Int.le_of_lt (h.rise j (i - 1) k (by have := h.i1; omega))
        · have : j = i - 1 := by omega
          subst this; exact Int.le_refl _
      have e2 := hs (p - 1) p (by omega) hp
      have e3 := h.last
      omega
    have hj : j ≠ i := by omega
    simp only [if_neg hj]
    by_cases hki : k = i
    · simp only [if_pos hki]
      exact hlt j (by omega)
    · simp only [if_neg hki]
      exact h.rise j k hjk (by omega)
  last := by simp
  same := fun t h1 h2 => by
    have := h.ip
    simp only [if_neg (show t ≠ i by omega)]
    exact h.same t (by omega) h2
  mem := fun x => by
    constructor
    · rintro ⟨t, ht, e⟩
      by_cases hti : t = i
      · simp only [if_pos hti] at e
        exact ⟨p, by omega, e⟩
      · simp only [if_neg hti] at e
        obtain ⟨u, hu, e2⟩ := (h.mem x).1 ⟨t, by omega, e⟩
        exact ⟨u, by omega, e2⟩
    · rintro ⟨t, ht, e⟩
      rcases Nat.lt_or_ge t p with k | k
      · obtain ⟨u, hu, e2⟩ := (h.mem x).2 ⟨t, k, e⟩
        exact ⟨u, by omega, by simp only [if_neg (show u ≠ i by omega)]; exact e2⟩
      · exact ⟨i, by omega, by simp only [if_true]; rw [← e]; congr 1; omega⟩

/-- A row of numbers, that may be written. -/
def RW (blk off n : Nat) (G : Nat → Int) (W : World) : Prop := ∀ t, t < n → W.cell? ⟨blk, off + t, none⟩ = some (.int .i32 (G t)) ∧ W.frozen? ⟨blk, off + t, none⟩ = false
theorem RW.set {blk off n : Nat} {G : Nat → Int} {W : World} (h : RW blk off n G W) {i : Nat} (hi : i < n) (x : Int) : RW blk off n (fun t => if t = i then x else G t) (W.setCell ⟨blk, off + i, none⟩ (.int .i32 x)) := fun t ht => by
  refine ⟨?_, (World.frozen?_setCell _ _ _ _).trans (h t ht).2⟩
  by_cases e : t = i
  · subst e
    simp only [if_true]
    exact World.cell?_setCell_same _ _ _ (h t ht).1
  · simp only [if_neg e]
    exact (World.cell?_setCell_other _ _ _ _ (fun k => by injection k with _ k; omega)).trans (h t ht).1
theorem keep_drewN {X : Nat → Prop} {A B : World} (h : Keep X A B) (q : Nat) : Keep X A (B.drewN q) := h.trans ⟨rfl, rfl, rfl, Nat.le_refl _, fun _ _ _ => rfl⟩
theorem keep_setCells {X : Nat → Prop} {A : World} (b : Nat) (hb : X b) : ∀ (vs : List Value) (o : Nat) (B : World), Keep X A B → Keep X A (B.setCells b o vs)
  | [], _, _, h => h
  | v :: r, o, _, h => keep_setCells b hb r (o + 1) _ (h.setCell (p := ⟨b, o, none⟩) hb v)

/-- What Compact answers. -/
def CptOut (blk off cap n : Nat) (G : Nat → Int) (w : World) (e : Ending) (w' : World) : Prop :=
  ∃ (m : Nat) (H : Nat → Int), e = .returned (.slice (some ⟨blk, off, none⟩) m cap) ∧ 1 ≤ m ∧ m ≤ n ∧ (∀ j k, j < k → k < m → H j < H k) ∧ (∀ x, (∃ t, t < m ∧ H t = x) ↔ ∃ t, t < n ∧ G t = x) ∧ (∀ t, t < m → w'.cell? ⟨blk, off + t, none⟩ = some (.int .i32 (H t))) ∧ Keep (fun b => b = blk) w w'

set_option maxRecDepth 100000 in
set_option maxHeartbeats 2000000 in
theorem oCompact (blk off cap n : Nat) (G : Nat → Int) (w : World) (hR : RW blk off n G w) (hs : ∀ i j, i ≤ j → j < n → G i ≤ G j) (hn : 1 ≤ n) (hcap : n ≤ cap) (hsz : cap < 9223372036854775808) :
    Calls Tryz.prog 116 #[.slice (some ⟨blk, off, none⟩) n cap] w fun e w' => CptOut blk off cap n G w e w' := by
  have HR := Lib.hid hR
  have HS := Lib.hid hs
  clear hR hs
  by_cases h2 : n < 2
  · have h2z : (n : Int) < 2 := by omega
    go_enter Tryz.func116, Tryz.ntmps116
    go_wp2
    go_ret
    exact (show CptOut _ _ _ _ _ _ _ _ from ⟨n, G, rfl, hn, Nat.le_refl _, fun j k h1 h3 => absurd h3 (by omega), fun x => Iff.rfl, fun t ht => (HR.out t ht).1, Keep.refl _ _⟩)
  · have h2z : (2 : Int) ≤ (n : Int) := by omega
    go_enter Tryz.func116, Tryz.ntmps116
    go_wp2
    go_loopw [3] (fun vi wr => ∃ (i q : Nat), vi = .int .i64 i ∧ 1 ≤ i ∧ i ≤ n ∧ Hid ((∀ j k, j < k → k < i → G j < G k)) ∧ wr = w.drewN q) (fun vi _ => n - (RowKit.intOf vi).toNat)
    case atStart => exact ⟨1, 0, rfl, Nat.le_refl _, hn, Lib.hid (fun j k h1 h3 => absurd h3 (by omega)), rfl⟩
    case round =>
      obtain ⟨i, q, rfl, hi1, hin, hh, hw⟩ := hrel
      have hcw : ∀ t, t < n → wr.cell? ⟨blk, off + t, none⟩ = some (.int .i32 (G t)) := fun t ht => by rw [hw]; exact (HR.out t ht).1
      have HW := Lib.hid hw
      clear hw
      by_cases hlt : i < n
      · have hltz : (i : Int) < (n : Int) := by omega
        by_cases he : G i = G (i - 1)
        · have heb : (G i == G (i - 1)) = true := beq_iff_eq.2 he
          have HC := Lib.hid (Cpt.start hi1 hlt hh.out he)
          have HRW : Hid (RW blk off n G wr) := Lib.hid (fun t ht => by rw [HW.out]; exact HR.out t ht)
          have HK : Hid (Keep (fun b => b = blk) w wr) := Lib.hid (by rw [HW.out]; exact ⟨rfl, rfl, rfl, Nat.le_refl _, fun _ _ _ => rfl⟩)
          clear HW he
          go_wp2_with fail
          go_big_quiet (fail)
          replace HRW : Hid (RW blk off n G (wr.drewN nq)) := HRW
          replace HK : Hid (Keep (fun b => b = blk) w (wr.drewN nq)) := Lib.hid (HK.out.trans ⟨rfl, rfl, rfl, Nat.le_refl _, fun _ _ _ => rfl⟩)
          clear hcw heb
          generalize wr.drewN nq = w1 at HRW HK ⊢
          clear nq
          have hiz : ¬ (n : Int) < (i : Int) := by omega
          go_wp2_with fail
          go_loopw [3, 5] (fun vi vp wr => ∃ (k s : Nat) (H : Nat → Int), vi = .int .i64 k ∧ vp = .int .i64 s ∧ k ≤ n ∧ 1 ≤ s ∧ s + i ≤ n ∧ k + 1 ≤ i + s ∧ Hid (Cpt n G k (i + s) H ∧ RW blk off n H wr ∧ Keep (fun b => b = blk) w wr)) (fun _ vp _ => n - (RowKit.intOf vp).toNat)
          case atStart => exact ⟨i, 1, G, rfl, rfl, by omega, by omega, by omega, by omega, Lib.hid ⟨HC.out, HRW.out, HK.out⟩⟩
          case round =>
            clear HC HRW HK
            obtain ⟨k, s, H, rfl, rfl, hk, hs1, hs2, hk2, hg⟩ := hrel
            by_cases hsn : s < n - i
            · have hsnz : (s : Int) < ((n - i : Nat) : Int) := by omega
              have hcw : ∀ t, t < n - i → wr.cell? ⟨blk, off + i + t, none⟩ = some (.int .i32 (H (i + t))) := fun t ht => by
                have := (hg.out.2.1 (i + t) (by omega)).1
                rwa [show off + (i + t) = off + i + t by omega] at this
              have hc0 := (hg.out.2.1 k (by omega)).1
              have hf0 := (hg.out.2.1 k (by omega)).2
              have eP : H (i + s) = G (i + s) := hg.out.1.same _ (by omega) (by omega)
              have eQ : H (i + (s - 1)) = G (i + s - 1) := (hg.out.1.same _ (by omega) (by omega)).trans (by congr 1; omega)
              by_cases hne : H (i + s) = H (i + (s - 1))
              · have hneb : (H (i + s) != H (i + (s - 1))) = false := by simp [hne]
                have HC2 := Lib.hid (hg.out.1.skip (by omega) (by rw [← eP, ← eQ]; exact hne))
                clear eP eQ hne
                go_wp2_with fail
                go_big_quiet (fail)
                go_wp2
                go_roundw
                case rel => exact ⟨k, s + 1, H, rfl, by go_num, by omega, by omega, by omega, by omega, Lib.hid ⟨HC2.out, hg.out.2.1, hg.out.2.2.trans ⟨rfl, rfl, rfl, Nat.le_refl _, fun _ _ _ => rfl⟩⟩⟩
                case measure => simp [RowKit.intOf]; omega
              · have hneb : (H (i + s) != H (i + (s - 1))) = true := by simp [hne]
                have HC2 := Lib.hid (hg.out.1.take HS.out (by omega) (by rw [← eP, ← eQ]; exact hne))
                have HR2 := Lib.hid (RW.set (W := wr) hg.out.2.1 (i := k) (by omega) (G (i + s)))
                have EP := Lib.hid eP
                clear eP eQ hne
                go_wp2_with fail
                go_big_quiet (fail)
                go_wp2_with fail
                replace HR2 : Hid (RW blk off n (fun t => if t = k then G (i + s) else H t) ((wr.drewN nq).setCell ⟨blk, off + k, none⟩ (.int .i32 (H (i + s))))) := Lib.hid (by rw [EP.out]; exact HR2.out)
                have HK2 : Hid (Keep (fun b => b = blk) w ((wr.drewN nq).setCell ⟨blk, off + k, none⟩ (.int .i32 (H (i + s))))) := Lib.hid (Keep.setCell (X := fun b => b = blk) (keep_drewN hg.out.2.2 nq) (p := ⟨blk, off + k, none⟩) rfl _)
                go_wp2
                go_roundw
                case rel => exact ⟨k + 1, s + 1, _, by go_num, by go_num, by omega, by omega, by omega, by omega, Lib.hid ⟨HC2.out, HR2.out, HK2.out⟩⟩
                case measure => simp [RowKit.intOf]; omega
            · have hsnz : ((n - i : Nat) : Int) ≤ (s : Int) := by omega
              have es : i + s = n := by omega
              have hkn : k < n := by omega
              have hcl : ∀ ty, (Builtin.clear_ #[62] ty #[.slice (some ⟨blk, off + k, none⟩) (n - k) (cap - k)]).run Tryz.prog wr = .ok (.tuple #[]) (wr.setCells blk (off + k) (List.replicate (n - k) (.int .i32 0))) :=
                fun ty => Lib.run_clear_slice wr _ _ ty _ Tryz.underlying62 Tryz.zeroValue21 rfl rfl blk (off + k) _ _ (by omega) (fun j hj => by rw [show off + k + j = off + (k + j) by omega, (hg.out.2.1 (k + j) (by omega)).1]; rfl) (fun j hj => by rw [show off + k + j = off + (k + j) by omega]; exact (hg.out.2.1 (k + j) (by omega)).2)
              have hkz : ¬ (n : Int) < (k : Int) := by omega
              have hkc : ¬ (cap : Int) < (k : Int) := by omega
              have ES := Lib.hid es
              clear es
              go_wp2
              go_ret
              refine (show CptOut _ _ _ _ _ _ _ _ from ⟨k, H, rfl, hg.out.1.i1, by omega, hg.out.1.rise, by rw [← ES.out]; exact hg.out.1.mem, fun t ht => ?_, keep_setCells (X := fun b => b = blk) blk rfl _ _ _ hg.out.2.2⟩)
              rw [World.cell?_setCells_out blk _ _ _ _ (fun _ _ => Or.inl (by show off + t < off + k; omega))]
              exact (hg.out.2.1 t (by omega)).1
        · have heb : (G i == G (i - 1)) = false := beq_eq_false_iff_ne.2 he
          go_wp2_with fail
          go_big_quiet (fail)
          go_wp2
          go_roundw
          case rel => exact ⟨i + 1, q + nq, by go_num, by omega, by omega, Lib.hid (fun j k h1 h3 => by
            rcases Nat.lt_or_ge k i with e | e
            · exact hh.out j k h1 e
            · have ek : k = i := by omega
              subst ek
              have e1 := HS.out (k - 1) k (by omega) hlt
              have e2 := HS.out j (k - 1) (by omega) (by omega)
              omega), by rw [HW.out, World.drewN_drewN]⟩
          case measure => simp [RowKit.intOf]; omega
      · have hltz : ¬ (i : Int) < (n : Int) := by omega
        have e : i = n := by omega
        subst e
        go_wp2
        go_ret
        exact (show CptOut _ _ _ _ _ _ _ _ from ⟨i, G, rfl, hn, Nat.le_refl _, hh.out, fun x => Iff.rfl, hcw, by rw [HW.out]; exact ⟨rfl, rfl, rfl, Nat.le_refl _, fun _ _ _ => rfl⟩⟩)
end Go.Proofs.YthhepebkfokddaaGreatDoor
/- props: the edges of rows. -/
namespace Go.Proofs.YthhepebkfokddaaGreatDoor
open Go Go.RowKit Go.Kt Go.Kt.Rg Go.Maps Go.Kt.Os Go.Sort

/-- Rows that are read. -/
def RowsV (v : Value) (rows : List (Nat × Nat × Int)) (w : World) : Prop :=
  ∃ g cp, v = .slice (some ⟨g, 0, none⟩) rows.length cp ∧ rows.length ≤ cp ∧ ∀ (i : Nat) (r : Nat × Nat × Int), rows[i]? = some r → w.cell? ⟨g, i * 3, none⟩ = some (.int .i32 r.1) ∧ w.cell? ⟨g, i * 3 + 1, none⟩ = some (.int .i32 r.2.1) ∧ w.cell? ⟨g, i * 3 + 2, none⟩ = some (.int .i64 r.2.2)
theorem RowsV.below {v : Value} {rows : List (Nat × Nat × Int)} {A B : World} (h : RowsV v rows A) (hb : RowKit.Below A.heap.size A B) : RowsV v rows B := by
  obtain ⟨g, cp, rfl, h1, h2⟩ := h
  exact ⟨g, cp, rfl, h1, fun i r hr => ⟨(hb.cell (lt_of_cell (h2 i r hr).1)).trans (h2 i r hr).1, (hb.cell (lt_of_cell (h2 i r hr).2.1)).trans (h2 i r hr).2.1, (hb.cell (lt_of_cell (h2 i r hr).2.2)).trans (h2 i r hr).2.2⟩⟩
/-- The numbers at which rows begin and behind which they end. -/
def edgL (rows : List (Nat × Nat × Int)) : List Nat := rows.flatMap fun r => [r.1, r.2.1 + 1]
theorem edgL_snoc (l : List (Nat × Nat × Int)) (r : Nat × Nat × Int) : edgL (l ++ [r]) = edgL l ++ [r.1, r.2.1 + 1] := by simp [edgL]
theorem edgL_len (l : List (Nat × Nat × Int)) : (edgL l).length = 2 * l.length := by
  induction l with
  | nil => rfl
  | cons r t ih => simp [edgL] at ih ⊢; omega
theorem edge_mem {E : List Nat} {d d' : Array Int} {n m : Nat} {F : Nat → Int} (hd : (E.map (fun x : Nat => (x : Int))).toArray = d) (hds : d.size = n) (hp : PermIn 0 n d d') (hF : ∀ x, (∃ t, t < m ∧ F t = x) ↔ ∃ t, t < n ∧ d'[t]! = x) (X : Int) :
    (∃ t, t < m ∧ F t = X) ↔ ∃ y ∈ E, (y : Int) = X := by
  obtain ⟨h1, _, h3⟩ := hp
  have hz : d'.size = n := by rw [h1]; exact hds
  have e1 : d'.extract 0 n = d' := by rw [← hz]; simp
  have e2 : d.extract 0 n = d := by rw [← hds]; simp
  rw [e1, e2] at h3
  rw [hF]
  have h5 : (∃ t, t < n ∧ d'[t]! = X) ↔ X ∈ d'.toList := by
    constructor
    · rintro ⟨t, ht, rfl⟩
      rw [getElem!_pos d' t (by omega)]
      exact Array.getElem_mem_toList (by omega)
    · intro h
      obtain ⟨t, ht, he⟩ := List.getElem_of_mem h
      have ht2 : t < d'.size := by simpa using ht
      exact ⟨t, by omega, by rw [getElem!_pos d' t ht2, ← he]; rfl⟩
  rw [h5, h3.mem_iff, ← hd]
  simp [eq_comm]
/-- What is appended so far. -/
def EdgI (h : Nat) (rows : List (Nat × Nat × Int)) (w : World) (k : Nat) (v : Value) (wr : World) : Prop :=
  OwnS (fun b => h ≤ b) 21 1 v (2 * k) (encN (edgL (rows.take k))) wr ∧ RowKit.Below h w wr

set_option maxRecDepth 100000 in
set_option maxHeartbeats 4000000 in
theorem pedgesOf (rows : List (Nat × Nat × Int)) (sv : Value) (w : World) (hS : RowsV sv rows w) (hne : rows ≠ []) (hn : rows.length ≤ 1000000) (hr : ∀ r ∈ rows, r.1 ≤ 1114111 ∧ r.2.1 ≤ 1114111) :
    Calls Tryz.prog 86 #[sv] w fun e w' => ∃ (L : List Nat) (v : Value), e = .returned v ∧ RsV w.heap.size v L w' ∧ L.Pairwise (· < ·) ∧ (∀ x, x ∈ L ↔ x ∈ edgL rows) ∧ RowKit.Below w.heap.size w w' := by
  obtain ⟨g, cp, rfl, hcp, hc⟩ := hS
  obtain ⟨n, hl⟩ : ∃ n, rows.length = n := ⟨_, rfl⟩
  have h0 : 1 ≤ n := by rw [← hl]; exact List.length_pos_iff.2 hne
  rw [hl] at hcp hn ⊢
  obtain ⟨h, hh⟩ : ∃ h, w.heap.size = h := ⟨_, rfl⟩
  have HC := Lib.hid hc
  have HR := Lib.hid hr
  have HL := Lib.hid (And.intro hl hne)
  rw [hh]
  have q1 : IntKind.i64.wrap (2 * (n : Int)) = ((2 * n : Nat) : Int) := by rw [IntWalk.i64_in _ (by omega)]; omega
  clear hc hr hl hne
  go_enter Tryz.func86, Tryz.ntmps86
  go_wp2_with (at_make; refine wpList_make_own _ rfl _ _ _ rfl w.heap.size 21 _ (.int .i32 0) 1 Tryz.underlying62 rfl rfl rfl .i64 .i64 (2 * (n : Int)) (2 * n) rfl rfl (by omega) (by show 4 * (2 * n) ≤ _; omega) (by unfold maxLen; omega) (Nat.le_refl _) ?_; intro w1 hown1 hgr1)
  have H1 : Hid (EdgI h rows w 0 (.slice (some ⟨h, 0, none⟩) (2 * 0) (2 * n)) w1) := Lib.hid (by
    try rw [hh] at hown1
    refine ⟨⟨⟨hown1.1, ?_⟩, fun b hb => by simp [Value.ownBlock] at hb; omega⟩, ⟨hgr1.os, hgr1.tape, hgr1.output, hgr1.size, fun x hx => hgr1.block x (by omega) (fun e => by cases e)⟩⟩
    rcases hown1.2 with h2 | ⟨g2, c2, C, e2, h5⟩
    · exact .inl h2
    · exact .inr ⟨g2, c2, C, e2, Nat.zero_le _, h5.2⟩)
  clear hown1 hgr1
  go_loopw [3, 12] (fun v j wr => ∃ (k : Nat) (ao : Option Addr) (cap : Nat), v = .slice ao (2 * k) cap ∧ j = .int .i64 k ∧ k ≤ n ∧ EdgI h rows w k (.slice ao (2 * k) cap) wr) (fun _ j _ => n - (RowKit.intOf j).toNat)
  case atStart => exact ⟨0, _, _, rfl, rfl, by omega, H1.out⟩
  case round =>
    clear H1
    obtain ⟨k, ao, cap, rfl, rfl, hk, hI⟩ := hrel
    by_cases hlt : k < n
    · have hlt' : (k : Int) < (n : Int) := by omega
      obtain ⟨r, hr⟩ : ∃ r, rows[k]? = some r := ⟨_, List.getElem?_eq_getElem (by rw [HL.out.1]; exact hlt)⟩
      have hc := HC.out k r hr
      have hrb := HR.out r (List.mem_of_getElem? hr)
      have htk : edgL (rows.take (k + 1)) = edgL (rows.take k) ++ [r.1, r.2.1 + 1] := by rw [List.take_add_one, hr]; exact edgL_snoc _ _
      obtain ⟨lo, hi, vv⟩ := r
      simp only at hc hrb htk
      obtain ⟨hown, hbw⟩ := hI
      have hs := hbw.size
      have d0 := (hbw.cell (by have := lt_of_cell hc.1; omega)).trans hc.1
      have d1 := (hbw.cell (by have := lt_of_cell hc.2.1; omega)).trans hc.2.1
      have d2 := (hbw.cell (by have := lt_of_cell hc.2.2; omega)).trans hc.2.2
      have q2 : IntKind.i32.wrap ((hi : Int) + 1) = ((hi + 1 : Nat) : Int) := by rw [IntWalk.i32_in _ (by omega)]; omega
      obtain ⟨W1, hW1⟩ : ∃ W1, wr.alloc (.cells #[.int .i32 (lo : Nat), .int .i32 (hi : Nat), .int .i64 vv] 106) = W1 := ⟨_, rfl⟩
      have hb1 : RowKit.Below wr.heap.size wr W1 := by rw [← hW1]; exact (RowKit.Below.refl _ _).alloc (Nat.le_refl _) _
      have hz1 : W1.heap.size = wr.heap.size + 1 := by rw [← hW1]; exact Array.size_push _
      have hx1 : W1.heap[wr.heap.size]? = some (.cells #[.int .i32 (lo : Nat), .int .i32 (hi : Nat), .int .i64 vv] 106 (0, 0)) := by rw [← hW1]; exact heap_alloc_new _ _
      have HW := Lib.hid (And.intro hb1 (And.intro hz1 (And.intro hx1 (And.intro hown (And.intro hbw htk)))))
      have e0 : W1.cell? ⟨wr.heap.size, 0, none⟩ = some (.int .i32 (lo : Nat)) := by rw [Lib.cell_of_heap hx1]; rfl
      have e1 : W1.cell? ⟨wr.heap.size, 1, none⟩ = some (.int .i32 (hi : Nat)) := by rw [Lib.cell_of_heap hx1]; rfl
      obtain ⟨W2, hW2⟩ : ∃ W2, W1.alloc (.cells #[.int .i32 (lo : Nat), .int .i32 ((hi : Int) + 1)] 21) = W2 := ⟨_, rfl⟩
      have hb2 : RowKit.Below h w W2 := by rw [← hW2]; exact (hbw.trans (hb1.mono (by omega))).alloc (by omega) _
      have hz2 : W2.heap.size = wr.heap.size + 2 := by
        have h8 : W2.heap.size = W1.heap.size + 1 := by rw [← hW2]; exact Array.size_push _
        omega
      have hx2 : W2.heap[W1.heap.size]? = some (.cells #[.int .i32 (lo : Nat), .int .i32 ((hi : Int) + 1)] 21 (0, 0)) := by rw [← hW2]; exact heap_alloc_new _ _
      have ho1 := OwnS.keep (X := fun _ => False) hown (Keep.of_all hb1) (fun _ h => h.elim)
      have ho2 := OwnS.keep (X := fun _ => False) ho1 (Keep.of_all (show RowKit.Below W1.heap.size W1 W2 by rw [← hW2]; exact (RowKit.Below.refl _ _).alloc (Nat.le_refl _) _)) (fun _ h => h.elim)
      obtain ⟨ti, hti, hzz, hs1', hbt⟩ := info_parts tinfoI32
      obtain ⟨g2, cap2, w3, hrun, ho3, hgr, hat, hlt3⟩ := run_append_lies (P := Tryz.prog) W2 62 62 0 21 ti (.int .i32 0) 1 4 Tryz.underlying62 hti hzz hs1' hbt rfl (by decide) (.slice ao (2 * k) cap) (2 * k) (encN (edgL (rows.take k))) ho2.1 ⟨W1.heap.size, 0, none⟩ 2 2 [.int .i32 (lo : Nat), .int .i32 ((hi : Int) + 1)] rfl
        (fun j u hj => by rw [Addr.add_lit, Lib.cell_of_heap hx2]; simpa using hj) (by intro u hu; simp at hu; rcases hu with rfl | rfl <;> rfl) (by decide) (by unfold maxLen; omega) (by omega) (Nat.zero_le _) _ rfl
      have hg2 : h ≤ g2 := by
        rcases hat with hx | hx
        · exact ho2.2 g2 hx
        · have := hb2.size; omega
      have hfin : EdgI h rows w (k + 1) (.slice (some ⟨g2, 0, none⟩) (2 * k + 2) cap2) w3 := by
        refine ⟨⟨?_, fun b hb => by simp [Value.ownBlock] at hb; omega⟩, hb2.trans ((keep_grown hgr).below (by have := hb2.size; omega) (fun b hb => ho2.2 b hb))⟩
        have e : encN (edgL (rows.take (k + 1))) = encN (edgL (rows.take k)) ++ [.int .i32 (lo : Nat), .int .i32 ((hi : Int) + 1)] := by
          rw [htk]
          simp [encN]
        rw [e]
        exact ho3
      have HF := Lib.hid hfin
      have HRun := Lib.hid hrun
      have e0 : W1.cell? ⟨wr.heap.size, 0, none⟩ = some (.int .i32 (lo : Nat)) := by rw [Lib.cell_of_heap hx1]; rfl
      have e1 : W1.cell? ⟨wr.heap.size, 1, none⟩ = some (.int .i32 (hi : Nat)) := by rw [Lib.cell_of_heap hx1]; rfl
      clear hc hrb htk hown hbw hs hb1 hz1 hx1 hlt hr hb2 hz2 hx2 ho1 ho2 hti hzz hs1' hbt hrun ho3 hgr hat hlt3 hg2 hfin
      go_wp2_with (at_builtin; refine wpList_append_eq rfl rfl rfl rfl (fun _ => HRun.out) ?_)
      exact ⟨⟨k + 1, some ⟨g2, 0, none⟩, cap2, rfl, by go_num, by omega, HF.out⟩, by simp [RowKit.intOf]; omega⟩
    · have hkn : k = n := by omega
      subst hkn
      have hlt' : ¬ (k : Int) < (k : Int) := by omega
      obtain ⟨hown, hbw⟩ := hI
      have htk : rows.take k = rows := by rw [← HL.out.1]; exact List.take_length
      rw [htk] at hown
      rcases hown.shape with ⟨_, h0'⟩ | ⟨gb, cap', hv, hg, hgl⟩
      · omega
      cases hv
      obtain ⟨d, hd⟩ : ∃ d : Array Int, ((edgL rows).map (fun x : Nat => (x : Int))).toArray = d := ⟨_, rfl⟩
      have hel : (edgL rows).length = 2 * k := by rw [edgL_len, HL.out.1]
      have hds : d.size = 2 * k := by rw [← hd]; simp [hel]
      have hH : Holds E32 wr gb 0 d := fun j hj => by
        have hjl : j < (edgL rows).length := by omega
        refine ⟨?_, by rw [Nat.zero_add]; exact hown.frozen j⟩
        rw [Nat.zero_add]
        refine hown.at0 (i := j) ?_
        have e1 : d[j]! = ((edgL rows)[j] : Int) := by rw [getElem!_pos d j hj]; simp [← hd]
        rw [e1]
        simp [encN, List.getElem?_map, List.getElem?_eq_getElem hjl]
      have C2 := Lib.hid (oSort gb 0 cap (2 * k) d wr hds hH hgl (by omega))
      have hcp : 2 * k ≤ cap ∧ cap ≤ maxLen := by
        rcases hown.1.2 with ⟨hv, _⟩ | ⟨g', cap', cur, hv, _, hgg, hnc, hcm, _⟩
        · cases hv
        · cases hv; exact ⟨hnc, hcm⟩
      have H := Lib.hid (And.intro hbw (And.intro hd (And.intro hds (And.intro hg (And.intro hgl (And.intro hel hcp))))))
      clear hown hbw htk hd hds hH hg hgl hel hcp hlt
      go_wp2_with fail
      refine C2.out.mono ?_
      rintro e w2 ⟨rfl, d', hps, hsw⟩
      have hds' : d'.size = 2 * k := by rw [hps.1.1]; exact H.out.2.2.1
      have hRW : RW gb 0 (2 * k) (fun t => d'[t]!) w2 := fun t ht => hsw.holds t (by omega)
      have hsd : ∀ i j, i ≤ j → j < 2 * k → d'[i]! ≤ d'[j]! := fun i j hij hj => by
        by_cases e : i = j
        · rw [e]; exact Int.le_refl _
        · have := hps.2 i j (Nat.zero_le _) (by omega) hj
          have h7 : ¬ d'[j]! < d'[i]! := by simpa [ltInt] using this
          omega
      have C3 := Lib.hid (oCompact gb 0 cap (2 * k) (fun t => d'[t]!) w2 hRW hsd (by omega) H.out.2.2.2.2.2.2.1 (by have := H.out.2.2.2.2.2.2.2; unfold maxLen at this; omega))
      have H2 := Lib.hid (And.intro hps hsw)
      clear hps hsw hds' hRW hsd
      go_wp2_with fail
      refine C3.out.mono ?_
      rintro e w3 hO
      obtain ⟨m, F, rfl, hm1, hm2, hF1, hF2, hF3, hk3⟩ := hO
      have H3 := Lib.hid (And.intro hm1 (And.intro hm2 (And.intro hF1 (And.intro hF2 (And.intro hF3 hk3)))))
      clear hm1 hm2 hF1 hF2 hF3 hk3
      go_wp2
      go_ret
      obtain ⟨hbw, hd, hds, hg, hgl, hel, hcp1, hcp2⟩ := H.out
      obtain ⟨hps, hsw⟩ := H2.out
      obtain ⟨hm1, hm2, hF1, hF2, hF3, hk3⟩ := H3.out
      have hkey := edge_mem hd hds hps.1 hF2
      have hge : h ≤ gb := hg
      refine ⟨(List.range m).map fun t => (F t).toNat, _, rfl, .inr ⟨gb, cap, by simp only [List.length_map, List.length_range]; rfl, by simp only [List.length_map, List.length_range]; omega, hge, Nat.lt_of_lt_of_le hgl (Nat.le_trans hsw.keep.size hk3.size), fun i x hx => ?_⟩, ?_, fun x => ?_, hbw.trans ((hsw.keep.trans hk3).below (by have := hbw.size; omega) (fun b hb => by omega))⟩
      · have him : i < m := by have := (List.getElem?_eq_some_iff.1 hx).1; simpa using this
        have hxe : (F i).toNat = x := by
          have := (List.getElem?_eq_some_iff.1 hx).2
          simpa using this
        obtain ⟨y, _, hy⟩ := (hkey (F i)).1 ⟨i, him, rfl⟩
        have h9 := hF3 i him
        rw [Nat.zero_add] at h9
        rw [h9, ← hxe, ← hy, Int.toNat_natCast]
      · rw [List.pairwise_map]
        refine List.pairwise_lt_range.imp_of_mem ?_
        intro i j hi hj hij
        rw [List.mem_range] at hi hj
        have h1 := hF1 i j hij hj
        obtain ⟨y, _, hy⟩ := (hkey (F i)).1 ⟨i, hi, rfl⟩
        omega
      · rw [List.mem_map]
        constructor
        · rintro ⟨t, ht, rfl⟩
          rw [List.mem_range] at ht
          obtain ⟨y, hy, he⟩ := (hkey (F t)).1 ⟨t, ht, rfl⟩
          rw [← he, Int.toNat_natCast]
          exact hy
        · intro hx
          obtain ⟨t, ht, he⟩ := (hkey (x : Int)).2 ⟨x, hx, rfl⟩
          exact ⟨t, List.mem_range.2 ht, by rw [he]; simp⟩
end Go.Proofs.YthhepebkfokddaaGreatDoor
