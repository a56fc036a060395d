/- The document's answer for props: Decomp. -/
import Derived.Test.YthhepebkfokddaaGreatDoorGy22
import Derived.Test.YthhepebkfokddaaGreatDoorZd
import Derived.Test.YthhepebkfokddaaGreatDoorGy14
namespace Go.Proofs.YthhepebkfokddaaGreatDoor
open Go Go.RowKit Go.Kt Go.Kt.Rg Go.Maps

set_option maxRecDepth 100000 in
set_option maxHeartbeats 4000000 in
theorem ydecomp {g : Nat} {cs ks : List (Nat × Nat × Int)} {fv dv : Value} (l : List Ln3) (r : Int) (w : World) (hR : RpW g cs ks fv dv w) (hF : LfW w dv l) (hr : I32 r) (hn : l.length ≤ 1000000) (hz : ∀ x ∈ l, x.2.1.length ≤ 1048576) :
    Calls Tryz.prog 102 #[.pointer (some ⟨g, 0, none⟩), .int .i32 r] w fun e w' => ∃ v, e = .returned v ∧ Sl .i32 w' v (toZ (xdcpV l r)) ∧ Below w.heap.size w w' := by
  have hcv : IntKind.i64.wrap r = r := IntWalk.i64_in _ (by have := hr.1; have := hr.2; omega)
  have CS := Lib.hid (ysyl r w)
  cases hs : sylP r with
  | true =>
    rw [hs] at CS
    have h2 := hs
    rw [syl_iff] at h2
    have h2 := of_decide_eq_true h2
    obtain ⟨n, rfl⟩ : ∃ n : Nat, r = 44032 + (n : Int) := ⟨(r - 44032).toNat, by omega⟩
    have hn : n < 11172 := by omega
    have e1 : IntKind.i32.wrap ((44032 + (n : Int)) - 44032) = n := by rw [IntWalk.i32_in _ (by omega)]; omega
    have HV : Hid (xdcpV l (44032 + (n : Int)) = partsP n) := Lib.hid (by unfold xdcpV; rw [if_pos hs, show (44032 + (n : Int) - 44032).toNat = n by omega])
    clear hR hF hr hz hs h2
    go_enter Tryz.func102, Tryz.ntmps102
    go_wp2_with fail
    refine CS.out.mono ?_
    rintro e w1 ⟨rfl, hb1⟩
    obtain ⟨W1, hW1⟩ : ∃ W1, w1.alloc (.cells #[.int .i32 (4352 + (n : Int) / 588), .int .i32 (4449 + (n : Int) % 588 / 28)] 21) = W1 := ⟨_, rfl⟩
    have ho := own_full w1 [.int .i32 (4352 + (n : Int) / 588), .int .i32 (4449 + (n : Int) % 588 / 28)] 21 (by show 2 ≤ maxLen; decide)
    have hz1 : ZnO w.heap.size (.slice (some ⟨w1.heap.size, 0, none⟩) 2 2) [4352 + (n : Int) / 588, 4449 + (n : Int) % 588 / 28] W1 := by
      rw [← hW1]
      exact OwnS.weaken ho (fun b hb => by subst hb; exact hb1.size)
    have hbW : Below w.heap.size w W1 := by rw [← hW1]; exact hb1.alloc hb1.size _
    by_cases hc : n % 28 = 0
    · have HP : Hid (toZ (partsP n) = [4352 + (n : Int) / 588, 4449 + (n : Int) % 588 / 28]) := Lib.hid (by
        unfold partsP
        rw [if_pos hc]
        simp [toZ]
        omega)
      have q0 : ((n : Int) % 28 != 0) = false := by
        have : (n : Int) % 28 = 0 := by omega
        rw [this]; rfl
      have HW := Lib.hid (And.intro hz1 (And.intro hbW hW1))
      clear hz1 hbW hW1 ho hb1 hc
      go_wp2
      go_ret
      exact ⟨_, rfl, by rw [HV.out, HP.out, HW.out.2.2]; exact HW.out.1.sl, by rw [HW.out.2.2]; exact HW.out.2.1⟩
    · have HP : Hid (toZ (partsP n) = [4352 + (n : Int) / 588, 4449 + (n : Int) % 588 / 28] ++ [4519 + (n : Int) % 28]) := Lib.hid (by
        unfold partsP
        rw [if_neg hc]
        simp [toZ]
        omega)
      have q0 : ((n : Int) % 28 != 0) = true := by
        simp only [bne_iff_ne, ne_eq]
        omega
      obtain ⟨v', W', hrun, hz', hb'⟩ := hz1.app hbW.size (by simp) (4519 + (n : Int) % 28)
      have HRun := Lib.hid hrun
      have HW := Lib.hid (And.intro hz' (hbW.trans hb'))
      clear hz1 hbW ho hb1 hc hrun hz' hb'
      go_wp2_with (first | (at_builtin; refine wpList_append_eq rfl rfl rfl rfl HRun.out ?_; clear HRun) | fail)
      go_ret
      exact ⟨_, rfl, by rw [HV.out, HP.out]; exact HW.out.1.sl, HW.out.2⟩
  | false =>
    rw [hs] at CS
    have HS0 := Lib.hid hs
    obtain ⟨cv, kv, hg, _, _⟩ := hR
    obtain ⟨ao, cp, rfl, _⟩ := id hF
    obtain ⟨m, hln⟩ : ∃ m, l.length = m := ⟨_, rfl⟩
    rw [hln] at hn hF hg
    have HG : Hid (∀ W, Below w.heap.size w W → W.cell? ⟨g, 3, none⟩ = some (.slice ao m cp)) := Lib.hid fun W h => by
      rw [Lib.cell_of_heap ((h.block g (Array.getElem?_eq_some_iff.1 hg).1).trans hg)]; rfl
    have HC := Lib.hid (And.intro hF (And.intro hln hz))
    have HV : Hid (xdcpV l r = (ofL l r).getD []) := Lib.hid (by unfold xdcpV; rw [if_neg (by rw [hs]; decide)])
    clear hF hg hln hr hz hs
    go_enter Tryz.func102, Tryz.ntmps102
    go_wp2_with fail
    refine CS.out.mono ?_
    rintro e w1 ⟨rfl, hb1⟩
    have HB1 := Lib.hid hb1
    clear hb1
    go_wp2_with fail
    go_loopw [7] (fun x wr => ∃ k : Nat, x = .int .i64 (k : Nat) ∧ k ≤ m ∧ Hid (ofL l r = ofL (l.drop k) r ∧ Below w.heap.size w wr)) (fun x _ => m - (RowKit.intOf x).toNat)
    case atStart => exact ⟨0, rfl, Nat.zero_le _, Lib.hid ⟨by rw [List.drop_zero], HB1.out⟩⟩
    case round =>
      obtain ⟨k, rfl, hk, H⟩ := hrel
      have f0 := HG.out wr H.out.2
      by_cases hlt : k < m
      · have e1 : (k : Int) < m := by omega
        have hk0 : (0 : Int) ≤ (k : Int) := by omega
        have hk1 : IntKind.i64.wrap ((k : Int) + 1) = ((k + 1 : Nat) : Int) := by rw [IntWalk.i64_in _ (by omega)]; omega
        obtain ⟨x, hx⟩ : ∃ x, l[k]? = some x := ⟨_, List.getElem?_eq_getElem (by rw [HC.out.2.1]; omega)⟩
        have hLW := HC.out.1.below H.out.2
        obtain ⟨b, sv, rfl, d0, d1, hs⟩ := hLW.at hx
        have hst := H.out.1
        have hdr : l.drop k = x :: l.drop (k + 1) := by
          obtain ⟨h1, h2⟩ := List.getElem?_eq_some_iff.1 hx
          rw [List.drop_eq_getElem_cons h1, h2]
        rw [hdr, ofL_cons] at hst
        obtain ⟨y, hy⟩ : ∃ y : Int, (x.1 : Int) = y := ⟨_, rfl⟩
        rw [hy] at d0 hst
        have HB := Lib.hid H.out.2
        have CP := Lib.hid (ycopy (toZ x.2.1) sv wr hs (by rw [toZ_len]; exact HC.out.2.2 x (List.mem_of_getElem? hx)))
        clear hdr hx hy H hLW hs
        by_cases h1 : y = r
        · subst h1
          rw [if_pos rfl] at hst
          have HST : Hid (xdcpV l y = x.2.1) := Lib.hid (by rw [HV.out, hst]; rfl)
          clear hst hlt
          go_wp2_with fail
          refine CP.out.mono ?_
          rintro e w2 ⟨v, rfl, hz2, hb2⟩
          have H2 := Lib.hid (And.intro hz2 (HB.out.trans (hb2.mono HB.out.size)))
          clear hz2 hb2
          go_wp2
          go_ret
          exact ⟨_, rfl, by rw [HST.out]; exact H2.out.1.sl, H2.out.2⟩
        · have q1 : (y == r) = false := beq_eq_false_iff_ne.2 h1
          rw [if_neg h1] at hst
          have HST := Lib.hid hst
          clear hst hlt
          go_wp2
          go_roundw
          case rel => exact ⟨k + 1, by go_num, by omega, Lib.hid ⟨HST.out, HB.out⟩⟩
          case measure => simp [RowKit.intOf]; omega
      · have e1 : ¬ (k : Int) < m := by omega
        have HST : Hid (xdcpV l r = []) := Lib.hid (by rw [HV.out, H.out.1, List.drop_eq_nil_of_le (by rw [HC.out.2.1]; omega)]; rfl)
        clear hlt
        go_wp2
        go_ret
        exact ⟨_, rfl, by rw [HST.out]; exact ⟨none, 0, rfl, .inl rfl⟩, H.out.2⟩
end Go.Proofs.YthhepebkfokddaaGreatDoor
