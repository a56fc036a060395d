/- The document's answer for props: ends (written by gen_ll.py). -/
import Derived.Test.YthhepebkfokddaaGreatDoorGy22
import Derived.Test.YthhepebkfokddaaGreatDoorLk
import Derived.Test.YthhepebkfokddaaGreatDoorK9
import Derived.Test.YthhepebkfokddaaGreatDoorGy5
import Derived.OwnWalk
namespace Go.Proofs.YthhepebkfokddaaGreatDoor
open Go Go.RowKit Go.Kt Go.Kt.Rg Go.Maps

theorem exec_asgE {P : Program} {o : Oper} {a : Act} {w : World} {x : Operand} {u : Value} (ho : o.op = .assign x) (hx : a.eval x = u) : (execOp a.eval o).run P w = .ok (.value u) w := by
  unfold execOp; rw [ho]; simp only [hx]; rfl
theorem spn_some {l : List UInt8} {i : Nat} (h : Lib.index l [46, 46] = (i : Int)) : spnP l = spnO (numP (l.take i)) (numP (l.drop (i + 2))) := by
  unfold spnP Lib.cut
  rw [h, if_pos (by omega), Int.toNat_natCast]
  rfl
theorem spn_none {l : List UInt8} (h : Lib.index l [46, 46] = -1) : ((spnP l).2.1 : Int) = (pntP l).1 ∧ ((spnP l).2.2 : Int) = (pntP l).1 ∧ (spnP l).1 = (pntP l).2 := by
  have e : spnP l = spnO (numP l) (numP l) := by
    unfold spnP Lib.cut
    rw [h, if_neg (by omega)]
    rfl
  rw [e]
  unfold pntP
  cases numP l with
  | none => exact ⟨rfl, rfl, rfl⟩
  | some n =>
    rw [spnO_some]
    simp only
    by_cases hv : Lib.validRune (n : Int) = false
    · rw [if_pos (.inl hv), if_pos hv]; exact ⟨rfl, rfl, rfl⟩
    · rw [if_neg (fun h => by rcases h with h | h <;> exact hv h), if_neg (Nat.lt_irrefl n), if_neg hv]; exact ⟨rfl, rfl, rfl⟩
theorem oc_none {l : List UInt8} {i : Nat} (h : ∀ j, j < i → Lib.occAt l [46, 46] j = false) (hi : l.length ≤ i + 1) : Lib.index l [46, 46] = -1 := Lib.index_none fun j hj => by
  by_cases hlt : j < i
  · exact h j hlt
  · cases ho : Lib.occAt l [46, 46] j with
    | false => rfl
    | true =>
      exfalso
      rcases Lib.occAt_room ho with h2 | h2
      · simp at h2; omega
      · cases h2
def nmV (o : Option Nat) : Int := match o with
  | some n => (n : Int)
  | none => -1
theorem numG_V (l : List UInt8) : numG 16 4 6 l = nmV (numP l) := by rw [numG_P]; rfl
theorem slFE (T : ByteArray) (i : Nat) (hT : i ≤ T.size) (X : World) : (Instr.sliceAt 9 (.string T) (some (.int .i64 (i : Nat))) none none).run Tryz.prog X = .ok (.string (T.extract i T.size)) X := by
  have q : (i : Int) ≤ T.size := by omega
  go_simp
theorem ext_to (s : ByteArray) (i : Nat) : (s.extract 0 i).data.toList = s.data.toList.take i := by
  have := Lib.extract_toList s 0 i
  rw [ByteArray.toList_eq] at this
  rw [this]; simp
theorem ext_end (s : ByteArray) (i : Nat) : (s.extract i s.size).data.toList = s.data.toList.drop i := by
  have := Lib.extract_toList s i s.size
  rw [ByteArray.toList_eq] at this
  rw [this, List.take_of_length_le (by rw [List.length_drop, ← Lib.size_eq]; exact Nat.le_refl _)]
def pE5 (i : Nat) (s sA sB : ByteArray) (na nb : Int) (jx : Nat) (v : Value) (_W : World) : Prop := match jx with
  | 0 => v = .string s
  | 1 => v = .int .i64 (i : Nat)
  | 2 => v = .string sA
  | 3 => v = .int .i64 na
  | 4 => v = .string s
  | 5 => v = .int .i64 (i : Nat)
  | 6 => v = .int .i64 ((i + 2 : Nat) : Int)
  | 7 => v = .string sB
  | 8 => v = .int .i64 nb
  | 9 => v = .int .i64 na
  | 10 => v = .int .i64 nb
  | _ => True
set_option maxRecDepth 100000 in
set_option maxHeartbeats 4000000 in
theorem yends (s : ByteArray) (w : World) (hs : s.size ≤ 1048000) :
    Calls Tryz.prog 96 #[.string s] w fun e w' => e = .returned (.tuple #[.int .i64 ((spnP s.data.toList).2.1 : Nat), .int .i64 ((spnP s.data.toList).2.2 : Nat), .int .i64 ((spnP s.data.toList).1 : Nat)]) ∧ Below w.heap.size w w' := by
  have hln : s.data.toList.length = s.size := (Lib.size_eq s).symm
  have HLN := Lib.hid hln
  clear hln
  go_enter Tryz.func96, Tryz.ntmps96
  go_wp2_with fail
  go_loopw [5] (fun x wr => ∃ (i : Nat), x = .int .i64 (i : Nat) ∧ i ≤ s.size ∧ Hid ((∀ j, j < i → Lib.occAt s.data.toList [46, 46] j = false) ∧ Below w.heap.size w wr)) (fun x _ => s.size - (RowKit.intOf x).toNat)
  case atStart => exact ⟨0, rfl, Nat.zero_le _, Lib.hid ⟨fun j h => by omega, Below.refl _ _⟩⟩
  case round =>
    obtain ⟨i, rfl, hi, H⟩ := hrel
    have hk1 : IntKind.i64.wrap ((i : Int) + 1) = ((i + 1 : Nat) : Int) := by rw [IntWalk.i64_in _ (by omega)]; omega
    by_cases hlt : i + 1 < s.size
    · have e1 : ((i + 1 : Nat) : Int) < s.size := by omega
      have hk2 : IntKind.i64.wrap ((i : Int) + 2) = ((i + 2 : Nat) : Int) := by rw [IntWalk.i64_in _ (by omega)]; omega
      have HS := fun W => slFT s i (i + 2) (by omega) (by omega) W
      obtain ⟨T, hT⟩ : ∃ T, s.extract i (i + 2) = T := ⟨_, rfl⟩
      have hTl : T.data.toList = (s.data.toList.drop i).take 2 := by
        rw [← hT]
        have := Lib.extract_toList s i (i + 2)
        rw [ByteArray.toList_eq] at this
        rw [this, Nat.add_sub_cancel_left]
      have hoc : Lib.occAt s.data.toList [46, 46] i = (T.data.toList == [46, 46]) := by
        rw [Lib.occAt_iff_take _ _ _ (by have := HLN.out; simp; omega), hTl]; rfl
      clear hTl
      by_cases hdd : T.data.toList = [46, 46]
      · have hT1 : ((s.extract i (i + 2)).toList == [46, 46]) = true := by rw [hT, ByteArray.toList_eq, hdd]; rfl
        have hix : Lib.index s.data.toList [46, 46] = (i : Int) := Lib.index_first (by have := HLN.out; omega) (by rw [hoc, hdd]; rfl) H.out.1
        have hsp := spn_some hix
        have hslA := fun X => slT0 s i (by omega) X
        have hslB := fun X => slFE s (i + 2) (by omega) X
        have CA := Lib.hid (fun X => ynumber (s.extract 0 i) 16 4 6 X (by rw [ByteArray.size_extract]; omega) (.inl ⟨rfl, rfl, rfl⟩))
        have CB := Lib.hid (fun X => ynumber (s.extract (i + 2) s.size) 16 4 6 X (by rw [ByteArray.size_extract]; omega) (.inl ⟨rfl, rfl, rfl⟩))
        rw [numG_V, ext_to] at CA
        rw [numG_V, ext_end] at CB
        obtain ⟨sA, hsA⟩ : ∃ T, s.extract 0 i = T := ⟨_, rfl⟩
        obtain ⟨sB, hsB⟩ : ∃ T, s.extract (i + 2) s.size = T := ⟨_, rfl⟩
        rw [hsA] at CA hslA
        rw [hsB] at CB hslB
        obtain ⟨o1, ho1⟩ : ∃ o, numP (s.data.toList.take i) = o := ⟨_, rfl⟩
        obtain ⟨o2, ho2⟩ : ∃ o, numP (s.data.toList.drop (i + 2)) = o := ⟨_, rfl⟩
        rw [ho1] at CA hsp
        rw [ho2] at CB hsp
        have HSP := Lib.hid hsp
        have HB := Lib.hid H.out.2
        have hadd : ∀ (X : World) (x y : Operand), (do eqGuard .add 3 x y (.int .i64 (i : Nat)) (.int .i64 2); binOp .add 3 (.int .i64 (i : Nat)) (.int .i64 2) : Sem Value).run Tryz.prog X = .ok (.int .i64 ((i + 2 : Nat) : Int)) X := fun X x y => by go_simp
        obtain ⟨na, hna⟩ : ∃ x, nmV o1 = x := ⟨_, rfl⟩
        obtain ⟨nb, hnb⟩ : ∃ x, nmV o2 = x := ⟨_, rfl⟩
        rw [hna] at CA
        rw [hnb] at CB
        have HNA := Lib.hid (And.intro hna hnb)
        have CC := Lib.hid (fun n W => ychar n W)
        clear hsA hsB ho1 ho2 hsp hix hoc hdd hna hnb hlt hT
        go_wp2_with fail
        refine wp_region_guarded (fun X => Below wr.heap.size wr X) (fun U V => Below U.heap.size U V) (pE5 i s sA sB na nb) (by kernel_rfl) (by kernel_rfl) (by kernel_rfl) ?hS ?hp ?hs ?hd
        case hS => exact below_drewN (Below.refl _ _) 1
        case hp => exact fun i v U V _ _ _ hv => hv
        case hs =>
          refine GSteps.cons ?_ (GSteps.cons ?_ (GSteps.cons ?_ (GSteps.cons ?_ (GSteps.cons ?_ (GSteps.cons ?_ (GSteps.cons ?_ (GSteps.cons ?_ (GSteps.cons ?_ (GSteps.cons ?_ (GSteps.cons ?_ (GSteps.nil)))))))))))
          · intro a X hX hL hd
            refine .inl ⟨rfl, ?_⟩
            have e0 : a.eval (.tmp 0) = .string s := hL.far 0 (by kernel_rfl)
            exact wp_value (exec_move rfl e0) ⟨_, rfl, hX, Below.refl _ _, rfl⟩
          · intro a X hX hL hd
            refine .inl ⟨rfl, ?_⟩
            have e0 : a.eval (.tmp 5) = .int .i64 (i : Nat) := hL.far 5 (by kernel_rfl)
            exact wp_value (exec_move rfl e0) ⟨_, rfl, hX, Below.refl _ _, rfl⟩
          · intro a X hX hL hd
            refine .inl ⟨rfl, ?_⟩
            have e0 : a.eval (.tmp 23) = .string s := hd 0 23 (by kernel_rfl) (by kernel_rfl)
            have e1 : a.eval (.tmp 24) = .int .i64 (i : Nat) := hd 1 24 (by kernel_rfl) (by kernel_rfl)
            exact wp_value (exec_slice rfl e0 rfl (by rw [Option.map_some, e1]) rfl (hslA X)) ⟨_, rfl, hX, Below.refl _ _, rfl⟩
          · intro a X hX hL hd
            refine .inl ⟨rfl, ?_⟩
            have e0 : a.eval (.tmp 25) = .string sA := hd 2 25 (by kernel_rfl) (by kernel_rfl)
            refine wp_enter (exec_call (vs := #[.string sA, .int .i64 16, .int .i64 4, .int .i64 6]) rfl (by simp only [List.map_toArray, List.map_cons, List.map_nil, e0]; rfl) Tryz.func97 rfl rfl) ?_
            refine (CA.out X).mono ?_
            rintro e w' ⟨rfl, hb⟩
            exact ⟨_, rfl, _, rfl, hX.trans (hb.mono hX.size), hb, rfl⟩
          · intro a X hX hL hd
            refine .inl ⟨rfl, ?_⟩
            have e0 : a.eval (.tmp 0) = .string s := hL.far 0 (by kernel_rfl)
            exact wp_value (exec_move rfl e0) ⟨_, rfl, hX, Below.refl _ _, rfl⟩
          · intro a X hX hL hd
            refine .inl ⟨rfl, ?_⟩
            have e0 : a.eval (.tmp 5) = .int .i64 (i : Nat) := hL.far 5 (by kernel_rfl)
            exact wp_value (exec_move rfl e0) ⟨_, rfl, hX, Below.refl _ _, rfl⟩
          · intro a X hX hL hd
            refine .inl ⟨rfl, ?_⟩
            have e0 : a.eval (.tmp 28) = .int .i64 (i : Nat) := hd 5 28 (by kernel_rfl) (by kernel_rfl)
            exact wp_value (exec_binop rfl e0 rfl (hadd X _ _)) ⟨_, rfl, hX, Below.refl _ _, rfl⟩
          · intro a X hX hL hd
            refine .inl ⟨rfl, ?_⟩
            have e0 : a.eval (.tmp 27) = .string s := hd 4 27 (by kernel_rfl) (by kernel_rfl)
            have e1 : a.eval (.tmp 29) = .int .i64 ((i + 2 : Nat) : Int) := hd 6 29 (by kernel_rfl) (by kernel_rfl)
            exact wp_value (exec_slice rfl e0 (by rw [Option.map_some, e1]) rfl rfl (hslB X)) ⟨_, rfl, hX, Below.refl _ _, rfl⟩
          · intro a X hX hL hd
            refine .inl ⟨rfl, ?_⟩
            have e0 : a.eval (.tmp 30) = .string sB := hd 7 30 (by kernel_rfl) (by kernel_rfl)
            refine wp_enter (exec_call (vs := #[.string sB, .int .i64 16, .int .i64 4, .int .i64 6]) rfl (by simp only [List.map_toArray, List.map_cons, List.map_nil, e0]; rfl) Tryz.func97 rfl rfl) ?_
            refine (CB.out X).mono ?_
            rintro e w' ⟨rfl, hb⟩
            exact ⟨_, rfl, _, rfl, hX.trans (hb.mono hX.size), hb, rfl⟩
          · intro a X hX hL hd
            refine .inl ⟨rfl, ?_⟩
            have e0 : a.eval (.tmp 26) = .int .i64 na := hd 3 26 (by kernel_rfl) (by kernel_rfl)
            exact wp_value (exec_asgE rfl e0) ⟨_, rfl, hX, Below.refl _ _, rfl⟩
          · intro a X hX hL hd
            refine .inl ⟨rfl, ?_⟩
            have e0 : a.eval (.tmp 31) = .int .i64 nb := hd 8 31 (by kernel_rfl) (by kernel_rfl)
            exact wp_value (exec_asgE rfl e0) ⟨_, rfl, hX, Below.refl _ _, rfl⟩
        case hd =>
          intro a X hX hL hd _
          have h6 : a.tmps.getD 6 undef = .int .i64 na := hd 9 6 (by kernel_rfl)
          have h7 : a.tmps.getD 7 undef = .int .i64 nb := hd 10 7 (by kernel_rfl)
          obtain ⟨f, ha, hf⟩ := hL.out [23, 24, 25, 26, 27, 28, 29, 30, 31, 6, 7] (by kernel_rfl)
          have h6' : f 6 = .int .i64 na := (hf 6).trans h6
          have h7' : f 7 = .int .i64 nb := (hf 7).trans h7
          simp only [List.foldl_cons, List.foldl_nil, List.setIfInBounds_toArray, List.set_cons_zero, List.set_cons_succ, h6', h7'] at ha
          clear hf hd hL h6 h7
          subst ha
          have HX := Lib.hid (HB.out.trans (hX.mono HB.out.size))
          clear hX
          have nofault : ∀ no : Nat, spnO o1 o2 = (no, 0, 0) → ∀ W, Below w.heap.size w W → (Ending.returned (.tuple #[.int .i64 0, .int .i64 0, .int .i64 (no : Nat)]) = .returned (.tuple #[.int .i64 ((spnP s.data.toList).2.1 : Nat), .int .i64 ((spnP s.data.toList).2.2 : Nat), .int .i64 ((spnP s.data.toList).1 : Nat)])) ∧ Below w.heap.size w W := fun no h W hW => by
            rw [HSP.out, h]; exact ⟨rfl, hW⟩
          have NF := Lib.hid nofault
          clear nofault CA CB hslA hslB
          cases o1 with
          | none =>
            obtain rfl : (-1 : Int) = na := HNA.out.1
            have HF : Hid (spnO none o2 = (11, 0, 0)) := Lib.hid (by unfold spnO; rfl)
            go_wp2
            go_ret3
            exact NF.out 11 HF.out _ HX.out
          | some lo =>
            obtain rfl : (lo : Int) = na := HNA.out.1
            have g1 : ¬ (lo : Int) < 0 := by omega
            cases o2 with
            | none =>
              obtain rfl : (-1 : Int) = nb := HNA.out.2
              have HF : Hid (spnO (some lo) none = (11, 0, 0)) := Lib.hid (by unfold spnO; rfl)
              go_wp2
              go_ret3
              exact NF.out 11 HF.out _ HX.out
            | some hi' =>
              obtain rfl : (hi' : Int) = nb := HNA.out.2
              have g2 : ¬ (hi' : Int) < 0 := by omega
              cases v1 : Lib.validRune (lo : Int) with
              | false =>
                have HF : Hid (spnO (some lo) (some hi') = (8, 0, 0)) := Lib.hid (by rw [spnO_some, if_pos (.inl v1)])
                have C1 := Lib.hid (fun W => v1 ▸ CC.out (lo : Int) W)
                clear v1
                go_wp2_with fail
                refine (C1.out _).mono ?_
                rintro e w2 ⟨rfl, hb2⟩
                have HB2 := Lib.hid (HX.out.trans (hb2.mono HX.out.size))
                clear hb2
                go_wp2
                go_ret3
                exact NF.out 8 HF.out _ HB2.out
              | true =>
                have C1 := Lib.hid (fun W => v1 ▸ CC.out (lo : Int) W)
                go_wp2_with fail
                refine (C1.out _).mono ?_
                rintro e w2 ⟨rfl, hb2⟩
                have HB2 := Lib.hid (HX.out.trans (hb2.mono HX.out.size))
                clear hb2
                cases v2 : Lib.validRune (hi' : Int) with
                | false =>
                  have HF : Hid (spnO (some lo) (some hi') = (8, 0, 0)) := Lib.hid (by rw [spnO_some, if_pos (.inr v2)])
                  have C2 := Lib.hid (fun W => v2 ▸ CC.out (hi' : Int) W)
                  clear v1 v2
                  go_wp2_with fail
                  refine (C2.out _).mono ?_
                  rintro e w3 ⟨rfl, hb3⟩
                  have HB3 := Lib.hid (HB2.out.trans (hb3.mono HB2.out.size))
                  clear hb3
                  go_wp2
                  go_ret3
                  exact NF.out 8 HF.out _ HB3.out
                | true =>
                  have hv : ¬ (Lib.validRune (lo : Int) = false ∨ Lib.validRune (hi' : Int) = false) := by rw [v1, v2]; decide
                  have C2 := Lib.hid (fun W => v2 ▸ CC.out (hi' : Int) W)
                  by_cases hlt : hi' < lo
                  · have HF : Hid (spnO (some lo) (some hi') = (1, 0, 0)) := Lib.hid (by rw [spnO_some, if_neg hv, if_pos hlt])
                    have g3 : (hi' : Int) < lo := by omega
                    clear v1 v2 hv hlt
                    go_wp2_with fail
                    refine (C2.out _).mono ?_
                    rintro e w3 ⟨rfl, hb3⟩
                    have HB3 := Lib.hid (HB2.out.trans (hb3.mono HB2.out.size))
                    clear hb3
                    go_wp2
                    go_ret3
                    exact NF.out 1 HF.out _ HB3.out
                  · have HF : Hid (spnO (some lo) (some hi') = (0, lo, hi')) := Lib.hid (by rw [spnO_some, if_neg hv, if_neg hlt])
                    have g3 : (decide ((hi' : Int) < (lo : Int))) = false := by simp; omega
                    have G3 := Lib.hid g3
                    clear v1 v2 hv hlt g1 g2 g3
                    go_wp2_with fail
                    refine (C2.out _).mono ?_
                    rintro e w3 ⟨rfl, hb3⟩
                    have HB3 := Lib.hid (HB2.out.trans (hb3.mono HB2.out.size))
                    clear hb3
                    obtain ⟨x, hx⟩ : ∃ x : Int, (hi' : Int) = x := ⟨_, rfl⟩
                    obtain ⟨y, hy⟩ : ∃ y : Int, (lo : Int) = y := ⟨_, rfl⟩
                    have g3 := G3.out
                    rw [hx, hy] at g3
                    rw [hx, hy]
                    have HXY := Lib.hid (And.intro hx hy)
                    clear hx hy hs hk1 hk2 e1
                    go_wp2
                    go_ret3
                    exact ⟨by rw [HSP.out, HF.out, ← HXY.out.1, ← HXY.out.2]; rfl, HB3.out⟩
      · have hocf : Lib.occAt s.data.toList [46, 46] i = false := by rw [hoc]; simpa using hdd
        have hT1 : ((s.extract i (i + 2)).toList == [46, 46]) = false := by rw [hT, ByteArray.toList_eq]; simpa using hdd
        have HE := Lib.hid (show ∀ j, j < i + 1 → Lib.occAt s.data.toList [46, 46] j = false from fun j hj => by
          by_cases e : j = i
          · subst e; exact hocf
          · exact H.out.1 j (by omega))
        clear hdd hoc hocf hT
        go_wp2
        go_roundw
        case rel => exact ⟨i + 1, by go_num, by omega, Lib.hid ⟨HE.out, H.out.2⟩⟩
        case measure => simp [RowKit.intOf]; omega
    · have e1 : ¬ ((i + 1 : Nat) : Int) < s.size := by omega
      obtain ⟨q1, q2, q3⟩ := spn_none (oc_none H.out.1 (by have := HLN.out; omega))
      have CP := Lib.hid (ypoint s wr (by omega))
      have HQ := Lib.hid (And.intro q1 (And.intro q2 q3))
      clear q1 q2 q3 hlt
      go_wp2_with fail
      refine CP.out.mono ?_
      rintro e w2 ⟨rfl, hb2⟩
      have HB := Lib.hid (H.out.2.trans (hb2.mono H.out.2.size))
      clear hb2
      go_wp2
      go_ret3
      exact ⟨by rw [HQ.out.1, HQ.out.2.1, HQ.out.2.2]; rfl, HB.out⟩
end Go.Proofs.YthhepebkfokddaaGreatDoor
