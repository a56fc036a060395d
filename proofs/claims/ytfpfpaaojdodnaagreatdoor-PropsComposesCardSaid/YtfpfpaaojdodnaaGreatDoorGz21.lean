/- Parts of the proof of what the last text says. -/
import Derived.Test.YtfpfpaaojdodnaaGreatDoorGz15
import Derived.Test.YtfpfpaaojdodnaaGreatDoorGz20
import Derived.Test.YtfpfpaaojdodnaaGreatDoorGz4
import Derived.OwnWalk
import Derived.Test.YtfpfpaaojdodnaaGreatDoorGz19
/- The document's answer for props: ends (written by gen_ll.py). -/
namespace Go.Proofs.YtfpfpaaojdodnaaGreatDoor
open Go Go.RowKit Go.Kt Go.Kt.Rg Go.Maps

theorem exec_asgE {P : Program} {o : Oper} {a : Act} {w : World} {x : Operand} {u : Value} (ho : o.op = .assign x) (hx : a.eval x = u) : (execOp a.eval o).run P w = .ok (.value u) w := by
  unfold execOp; rw [ho]; simp only [hx]; rfl
theorem spn_some {l : List UInt8} {i : Nat} (h : Lib.index l [46, 46] = (i : Int)) : spnP l = spnO (numP (l.take i)) (numP (l.drop (i + 2))) := by
  unfold spnP Lib.cut
  rw [h, if_pos (by omega), Int.toNat_natCast]
  rfl
theorem spn_none {l : List UInt8} (h : Lib.index l [46, 46] = -1) : ((spnP l).2.1 : Int) = (pntP l).1 ∧ ((spnP l).2.2 : Int) = (pntP l).1 ∧ (spnP l).1 = (pntP l).2 := by
  have e : spnP l = spnO (numP l) (numP l) := by
    unfold spnP Lib.cut
    rw [h, if_neg (by omega)]
    rfl
  rw [e]
  unfold pntP
  cases numP l with
  | none => exact ⟨rfl, rfl, rfl⟩
  | some n =>
    rw [spnO_some]
    simp only
    by_cases hv : Lib.validRune (n : Int) = false
    · rw [if_pos (.inl hv), if_pos hv]; exact ⟨rfl, rfl, rfl⟩
    · rw [if_neg (fun h => by rcases h with h | h <;> exact hv h), if_neg (Nat.lt_irrefl n), if_neg hv]; exact ⟨rfl, rfl, rfl⟩
theorem oc_none {l : List UInt8} {i : Nat} (h : ∀ j, j < i → Lib.occAt l [46, 46] j = false) (hi : l.length ≤ i + 1) : Lib.index l [46, 46] = -1 := Lib.index_none fun j hj => by
  by_cases hlt : j < i
  · exact h j hlt
  · cases ho : Lib.occAt l [46, 46] j with
    | false => rfl
    | true =>
      exfalso
      rcases Lib.occAt_room ho with h2 | h2
      · simp at h2; omega
      · cases h2
def nmV (o : Option Nat) : Int := match o with
  | some n => (n : Int)
  | none => -1
theorem numG_V (l : List UInt8) : numG 16 4 6 l = nmV (numP l) := by rw [numG_P]; rfl
theorem slFE (T : ByteArray) (i : Nat) (hT : i ≤ T.size) (X : World) : (Instr.sliceAt 9 (.string T) (some (.int .i64 (i : Nat))) none none).run Tryz.prog X = .ok (.string (T.extract i T.size)) X := by
  have q : (i : Int) ≤ T.size := by omega
  go_simp
theorem ext_to (s : ByteArray) (i : Nat) : (s.extract 0 i).data.toList = s.data.toList.take i := by
  have := Lib.extract_toList s 0 i
  rw [ByteArray.toList_eq] at this
  rw [this]; simp
theorem ext_end (s : ByteArray) (i : Nat) : (s.extract i s.size).data.toList = s.data.toList.drop i := by
  have := Lib.extract_toList s i s.size
  rw [ByteArray.toList_eq] at this
  rw [this, List.take_of_length_le (by rw [List.length_drop, ← Lib.size_eq]; exact Nat.le_refl _)]
def pE5 (i : Nat) (s sA sB : ByteArray) (na nb : Int) (jx : Nat) (v : Value) (_W : World) : Prop := match jx with
  | 0 => v = .string s
  | 1 => v = .int .i64 (i : Nat)
  | 2 => v = .string sA
  | 3 => v = .int .i64 na
  | 4 => v = .string s
  | 5 => v = .int .i64 (i : Nat)
  | 6 => v = .int .i64 ((i + 2 : Nat) : Int)
  | 7 => v = .string sB
  | 8 => v = .int .i64 nb
  | 9 => v = .int .i64 na
  | 10 => v = .int .i64 nb
  | _ => True
set_option maxRecDepth 100000 in
set_option maxHeartbeats 4000000 in
theorem yends (s : ByteArray) (w : World) (hs : s.size ≤ 1048000) :
    Calls Tryz.prog 86 #[.string s] w fun e w' => e = .returned (.tuple #[.int .i64 ((spnP s.data.toList).2.1 : Nat), .int .i64 ((spnP s.data.toList).2.2 : Nat), .int .i64 ((spnP s.data.toList).1 : Nat)]) ∧ Below w.heap.size w w' := by
  have hln : s.data.toList.length = s.size := (Lib.size_eq s).symm
  have HLN := Lib.hid hln
  clear hln
  go_enter Tryz.func86, Tryz.ntmps86
  go_wp2_with fail
  go_loopw [5] (fun x wr => ∃ (i : Nat), x = .int .i64 (i : Nat) ∧ i ≤ s.size ∧ Hid ((∀ j, j < i → Lib.occAt s.data.toList [46, 46] j = false) ∧ Below w.heap.size w wr)) (fun x _ => s.size - (RowKit.intOf x).toNat)
  case atStart => exact ⟨0, rfl, Nat.zero_le _, Lib.hid ⟨fun j h => by omega, Below.refl _ _⟩⟩
  case round =>
    obtain ⟨i, rfl, hi, H⟩ := hrel
    have hk1 : IntKind.i64.wrap ((i : Int) + 1) = ((i + 1 : Nat) : Int) := by rw [IntWalk.i64_in _ (by omega)]; omega
    by_cases hlt : i + 1 < s.size
    · have e1 : ((i + 1 : Nat) : Int) < s.size := by omega
      have hk2 : IntKind.i64.wrap ((i : Int) + 2) = ((i + 2 : Nat) : Int) := by rw [IntWalk.i64_in _ (by omega)]; omega
      have HS := fun W => slFT s i (i + 2) (by omega) (by omega) W
      obtain ⟨T, hT⟩ : ∃ T, s.extract i (i + 2) = T := ⟨_, rfl⟩
      have hTl : T.data.toList = (s.data.toList.drop i).take 2 := by
        rw [← hT]
        have := Lib.extract_toList s i (i + 2)
        rw [ByteArray.toList_eq] at this
        rw [this, Nat.add_sub_cancel_left]
      have hoc : Lib.occAt s.data.toList [46, 46] i = (T.data.toList == [46, 46]) := by
        rw [Lib.occAt_iff_take _ _ _ (by have := HLN.out; simp; omega), hTl]; rfl
      clear hTl
      by_cases hdd : T.data.toList = [46, 46]
      · have hT1 : ((s.extract i (i + 2)).toList == [46, 46]) = true := by rw [hT, ByteArray.toList_eq, hdd]; rfl
        have hix : Lib.index s.data.toList [46, 46] = (i : Int) := Lib.index_first (by have := HLN.out; omega) (by rw [hoc, hdd]; rfl) H.out.1
        have hsp := spn_some hix
        have hslA := fun X => slT0 s i (by omega) X
        have hslB := fun X => slFE s (i + 2) (by omega) X
        have CA := Lib.hid (fun X => ynumber (s.extract 0 i) 16 4 6 X (by rw [ByteArray.size_extract]; omega) (.inl ⟨rfl, rfl, rfl⟩))
        have CB := Lib.hid (fun X => ynumber (s.extract (i + 2) s.size) 16 4 6 X (by rw [ByteArray.size_extract]; omega) (.inl ⟨rfl, rfl, rfl⟩))
        rw [numG_V, ext_to] at CA
        rw [numG_V, ext_end] at CB
        obtain ⟨sA, hsA⟩ : ∃ T, s.extract 0 i = T := ⟨_, rfl⟩
        obtain ⟨sB, hsB⟩ : ∃ T, s.extract (i + 2) s.size = T := ⟨_, rfl⟩
        rw [hsA] at CA hslA
        rw [hsB] at CB hslB
        obtain ⟨o1, ho1⟩ : ∃ o, numP (s.data.toList.take i) = o := ⟨_, rfl⟩
        obtain ⟨o2, ho2⟩ : ∃ o, numP (s.data.toList.drop (i + 2)) = o := ⟨_, rfl⟩
        rw [ho1] at CA hsp
        rw [ho2] at CB hsp
        have HSP := Lib.hid hsp
        have HB := Lib.hid H.out.2
        have hadd : ∀ (X : World) (x y : Operand), (do eqGuard .add 3 x y (.int .i64 (i : Nat)) (.int .i64 2); binOp .add 3 (.int .i64 (i : Nat)) (.int .i64 2) : Sem Value).run Tryz.prog X = .ok (.int .i64 ((i + 2 : Nat) : Int)) X := fun X x y => by go_simp
        obtain ⟨na, hna⟩ : ∃ x, nmV o1 = x := ⟨_, rfl⟩
        obtain ⟨nb, hnb⟩ : ∃ x, nmV o2 = x := ⟨_, rfl⟩
        rw [hna] at CA
        rw [hnb] at CB
        have HNA := Lib.hid (And.intro hna hnb)
        have CC := Lib.hid (fun n W => ychar n W)
        clear hsA hsB ho1 ho2 hsp hix hoc hdd hna hnb hlt hT
        go_wp2_with fail
        refine wp_region_guarded (fun X => Below wr.heap.size wr X) (fun U V => Below U.heap.size U V) (pE5 i s sA sB na nb) (by kernel_rfl) (by kernel_rfl) (by kernel_rfl) ?hS ?hp ?hs ?hd
        case hS => exact below_drewN (Below.refl _ _) 1
        case hp => exact fun i v U V _ _ _ hv => hv
        case hs =>
          refine GSteps.cons ?_ (GSteps.cons ?_ (GSteps.cons ?_ (GSteps.cons ?_ (GSteps.cons ?_ (GSteps.cons ?_ (GSteps.cons ?_ (GSteps.cons ?_ (GSteps.cons ?_ (GSteps.cons ?_ (GSteps.cons ?_ (GSteps.nil)))))))))))
          · intro a X hX hL hd
            refine .inl ⟨rfl, ?_⟩
            have e0 : a.eval (.tmp 0) = .string s := hL.far 0 (by kernel_rfl)
            exact wp_value (exec_move rfl e0) ⟨_, rfl, hX, Below.refl _ _, rfl⟩
          · intro a X hX hL hd
            refine .inl ⟨rfl, ?_⟩
            have e0 : a.eval (.tmp 5) = .int .i64 (i : Nat) := hL.far 5 (by kernel_rfl)
            exact wp_value (exec_move rfl e0) ⟨_, rfl, hX, Below.refl _ _, rfl⟩
          · intro a X hX hL hd
            refine .inl ⟨rfl, ?_⟩
            have e0 : a.eval (.tmp 23) = .string s := hd 0 23 (by kernel_rfl) (by kernel_rfl)
            have e1 : a.eval (.tmp 24) = .int .i64 (i : Nat) := hd 1 24 (by kernel_rfl) (by kernel_rfl)
            exact wp_value (exec_slice rfl e0 rfl (by rw [Option.map_some, e1]) rfl (hslA X)) ⟨_, rfl, hX, Below.refl _ _, rfl⟩
          · intro a X hX hL hd
            refine .inl ⟨rfl, ?_⟩
            have e0 : a.eval (.tmp 25) = .string sA := hd 2 25 (by kernel_rfl) (by kernel_rfl)
            refine wp_enter (exec_call (vs := #[.string sA, .int .i64 16, .int .i64 4, .int .i64 6]) rfl (by simp only [List.map_toArray, List.map_cons, List.map_nil, e0]; rfl) Tryz.func87 rfl rfl) ?_
            refine (CA.out X).mono ?_
            rintro e w' ⟨rfl, hb⟩
            exact ⟨_, rfl, _, rfl, hX.trans (hb.mono hX.size), hb, rfl⟩
          · intro a X hX hL hd
            refine .inl ⟨rfl, ?_⟩
            have e0 : a.eval (.tmp 0) = .string s := hL.far 0 (by kernel_rfl)
            exact wp_value (exec_move rfl e0) ⟨_, rfl, hX, Below.refl _ _, rfl⟩
          · intro a X hX hL hd
            refine .inl ⟨rfl, ?_⟩
            have e0 : a.eval (.tmp 5) = .int .i64 (i : Nat) := hL.far 5 (by kernel_rfl)
            exact wp_value (exec_move rfl e0) ⟨_, rfl, hX, Below.refl _ _, rfl⟩
          · intro a X hX hL hd
            refine .inl ⟨rfl, ?_⟩
            have e0 : a.eval (.tmp 28) = .int .i64 (i : Nat) := hd 5 28 (by kernel_rfl) (by kernel_rfl)
            exact wp_value (exec_binop rfl e0 rfl (hadd X _ _)) ⟨_, rfl, hX, Below.refl _ _, rfl⟩
          · intro a X hX hL hd
            refine .inl ⟨rfl, ?_⟩
            have e0 : a.eval (.tmp 27) = .string s := hd 4 27 (by kernel_rfl) (by kernel_rfl)
            have e1 : a.eval (.tmp 29) = .int .i64 ((i + 2 : Nat) : Int) := hd 6 29 (by kernel_rfl) (by kernel_rfl)
            exact wp_value (exec_slice rfl e0 (by rw [Option.map_some, e1]) rfl rfl (hslB X)) ⟨_, rfl, hX, Below.refl _ _, rfl⟩
          · intro a X hX hL hd
            refine .inl ⟨rfl, ?_⟩
            have e0 : a.eval (.tmp 30) = .string sB := hd 7 30 (by kernel_rfl) (by kernel_rfl)
            refine wp_enter (exec_call (vs := #[.string sB, .int .i64 16, .int .i64 4, .int .i64 6]) rfl (by simp only [List.map_toArray, List.map_cons, List.map_nil, e0]; rfl) Tryz.func87 rfl rfl) ?_
            refine (CB.out X).mono ?_
            rintro e w' ⟨rfl, hb⟩
            exact ⟨_, rfl, _, rfl, hX.trans (hb.mono hX.size), hb, rfl⟩
          · intro a X hX hL hd
            refine .inl ⟨rfl, ?_⟩
            have e0 : a.eval (.tmp 26) = .int .i64 na := hd 3 26 (by kernel_rfl) (by kernel_rfl)
            exact wp_value (exec_asgE rfl e0) ⟨_, rfl, hX, Below.refl _ _, rfl⟩
          · intro a X hX hL hd
            refine .inl ⟨rfl, ?_⟩
            have e0 : a.eval (.tmp 31) = .int .i64 nb := hd 8 31 (by kernel_rfl) (by kernel_rfl)
            exact wp_value (exec_asgE rfl e0) ⟨_, rfl, hX, Below.refl _ _, rfl⟩
        case hd =>
          intro a X hX hL hd _
          have h6 : a.tmps.getD 6 undef = .int .i64 na := hd 9 6 (by kernel_rfl)
          have h7 : a.tmps.getD 7 undef = .int .i64 nb := hd 10 7 (by kernel_rfl)
          obtain ⟨f, ha, hf⟩ := hL.out [23, 24, 25, 26, 27, 28, 29, 30, 31, 6, 7] (by kernel_rfl)
          have h6' : f 6 = .int .i64 na := (hf 6).trans h6
          have h7' : f 7 = .int .i64 nb := (hf 7).trans h7
          simp only [List.foldl_cons, List.foldl_nil, List.setIfInBounds_toArray, List.set_cons_zero, List.set_cons_succ, h6', h7'] at ha
          clear hf hd hL h6 h7
          subst ha
          have HX := Lib.hid (HB.out.trans (hX.mono HB.out.size))
          clear hX
          have nofault : ∀ no : Nat, spnO o1 o2 = (no, 0, 0) → ∀ W, Below w.heap.size w W → (Ending.returned (.tuple #[.int .i64 0, .int .i64 0, .int .i64 (no : Nat)]) = .returned (.tuple #[.int .i64 ((spnP s.data.toList).2.1 : Nat), .int .i64 ((spnP s.data.toList).2.2 : Nat), .int .i64 ((spnP s.data.toList).1 : Nat)])) ∧ Below w.heap.size w W := fun no h W hW => by
            rw [HSP.out, h]; exact ⟨rfl, hW⟩
          have NF := Lib.hid nofault
          clear nofault CA CB hslA hslB
          cases o1 with
          | none =>
            obtain rfl : (-1 : Int) = na := HNA.out.1
            have HF : Hid (spnO none o2 = (11, 0, 0)) := Lib.hid (by unfold spnO; rfl)
            go_wp2
            go_ret3
            exact NF.out 11 HF.out _ HX.out
          | some lo =>
            obtain rfl : (lo : Int) = na := HNA.out.1
            have g1 : ¬ (lo : Int) < 0 := by omega
            cases o2 with
            | none =>
              obtain rfl : (-1 : Int) = nb := HNA.out.2
              have HF : Hid (spnO (some lo) none = (11, 0, 0)) := Lib.hid (by unfold spnO; rfl)
              go_wp2
              go_ret3
              exact NF.out 11 HF.out _ HX.out
            | some hi' =>
              obtain rfl : (hi' : Int) = nb := HNA.out.2
              have g2 : ¬ (hi' : Int) < 0 := by omega
              cases v1 : Lib.validRune (lo : Int) with
              | false =>
                have HF : Hid (spnO (some lo) (some hi') = (8, 0, 0)) := Lib.hid (by rw [spnO_some, if_pos (.inl v1)])
                have C1 := Lib.hid (fun W => v1 ▸ CC.out (lo : Int) W)
                clear v1
                go_wp2_with fail
                refine (C1.out _).mono ?_
                rintro e w2 ⟨rfl, hb2⟩
                have HB2 := Lib.hid (HX.out.trans (hb2.mono HX.out.size))
                clear hb2
                go_wp2
                go_ret3
                exact NF.out 8 HF.out _ HB2.out
              | true =>
                have C1 := Lib.hid (fun W => v1 ▸ CC.out (lo : Int) W)
                go_wp2_with fail
                refine (C1.out _).mono ?_
                rintro e w2 ⟨rfl, hb2⟩
                have HB2 := Lib.hid (HX.out.trans (hb2.mono HX.out.size))
                clear hb2
                cases v2 : Lib.validRune (hi' : Int) with
                | false =>
                  have HF : Hid (spnO (some lo) (some hi') = (8, 0, 0)) := Lib.hid (by rw [spnO_some, if_pos (.inr v2)])
                  have C2 := Lib.hid (fun W => v2 ▸ CC.out (hi' : Int) W)
                  clear v1 v2
                  go_wp2_with fail
                  refine (C2.out _).mono ?_
                  rintro e w3 ⟨rfl, hb3⟩
                  have HB3 := Lib.hid (HB2.out.trans (hb3.mono HB2.out.size))
                  clear hb3
                  go_wp2
                  go_ret3
                  exact NF.out 8 HF.out _ HB3.out
                | true =>
                  have hv : ¬ (Lib.validRune (lo : Int) = false ∨ Lib.validRune (hi' : Int) = false) := by rw [v1, v2]; decide
                  have C2 := Lib.hid (fun W => v2 ▸ CC.out (hi' : Int) W)
                  by_cases hlt : hi' < lo
                  · have HF : Hid (spnO (some lo) (some hi') = (1, 0, 0)) := Lib.hid (by rw [spnO_some, if_neg hv, if_pos hlt])
                    have g3 : (hi' : Int) < lo := by omega
                    clear v1 v2 hv hlt
                    go_wp2_with fail
                    refine (C2.out _).mono ?_
                    rintro e w3 ⟨rfl, hb3⟩
                    have HB3 := Lib.hid (HB2.out.trans (hb3.mono HB2.out.size))
                    clear hb3
                    go_wp2
                    go_ret3
                    exact NF.out 1 HF.out _ HB3.out
                  · have HF : Hid (spnO (some lo) (some hi') = (0, lo, hi')) := Lib.hid (by rw [spnO_some, if_neg hv, if_neg hlt])
                    have g3 : (decide ((hi' : Int) < (lo : Int))) = false := by simp; omega
                    have G3 := Lib.hid g3
                    clear v1 v2 hv hlt g1 g2 g3
                    go_wp2_with fail
                    refine (C2.out _).mono ?_
                    rintro e w3 ⟨rfl, hb3⟩
                    have HB3 := Lib.hid (HB2.out.trans (hb3.mono HB2.out.size))
                    clear hb3
                    obtain ⟨x, hx⟩ : ∃ x : Int, (hi' : Int) = x := ⟨_, rfl⟩
                    obtain ⟨y, hy⟩ : ∃ y : Int, (lo : Int) = y := ⟨_, rfl⟩
                    have g3 := G3.out
                    rw [hx, hy] at g3
                    rw [hx, hy]
                    have HXY := Lib.hid (And.intro hx hy)
                    clear hx hy hs hk1 hk2 e1
                    go_wp2
                    go_ret3
                    exact ⟨by rw [HSP.out, HF.out, ← HXY.out.1, ← HXY.out.2]; rfl, HB3.out⟩
      · have hocf : Lib.occAt s.data.toList [46, 46] i = false := by rw [hoc]; simpa using hdd
        have hT1 : ((s.extract i (i + 2)).toList == [46, 46]) = false := by rw [hT, ByteArray.toList_eq]; simpa using hdd
        have HE := Lib.hid (show ∀ j, j < i + 1 → Lib.occAt s.data.toList [46, 46] j = false from fun j hj => by
          by_cases e : j = i
          · subst e; exact hocf
          · exact H.out.1 j (by omega))
        clear hdd hoc hocf hT
        go_wp2
        go_roundw
        case rel => exact ⟨i + 1, by go_num, by omega, Lib.hid ⟨HE.out, H.out.2⟩⟩
        case measure => simp [RowKit.intOf]; omega
    · have e1 : ¬ ((i + 1 : Nat) : Int) < s.size := by omega
      obtain ⟨q1, q2, q3⟩ := spn_none (oc_none H.out.1 (by have := HLN.out; omega))
      have CP := Lib.hid (ypoint s wr (by omega))
      have HQ := Lib.hid (And.intro q1 (And.intro q2 q3))
      clear q1 q2 q3 hlt
      go_wp2_with fail
      refine CP.out.mono ?_
      rintro e w2 ⟨rfl, hb2⟩
      have HB := Lib.hid (H.out.2.trans (hb2.mono H.out.2.size))
      clear hb2
      go_wp2
      go_ret3
      exact ⟨by rw [HQ.out.1, HQ.out.2.1, HQ.out.2.2]; rfl, HB.out⟩
end Go.Proofs.YtfpfpaaojdodnaaGreatDoor
/- The document's answer for props: a line of class or kind. -/
namespace Go.Proofs.YtfpfpaaojdodnaaGreatDoor
open Go Go.RowKit Go.Kt Go.Kt.Rg Go.Maps

def TxR (w : World) (v : Value) (ws : List (List UInt8)) : Prop :=
  ∃ ao cap, v = .slice ao ws.length cap ∧ (ws = [] ∨ ∃ g, ao = some ⟨g, 0, none⟩ ∧ ∀ (i : Nat) (x : List UInt8), ws[i]? = some x → w.cell? ⟨g, i, none⟩ = some (.string ⟨x.toArray⟩))
theorem TxO.tx {H : Nat} {v : Value} {ws : List (List UInt8)} {w : World} (h : TxO H v ws w) : TxR w v ws := by
  rcases OwnS.shape h with ⟨e, h0⟩ | ⟨g, cap, e, _⟩
  · exact ⟨none, 0, by rw [e, h0], .inl (List.length_eq_zero_iff.1 h0)⟩
  · subst e
    refine ⟨_, cap, rfl, .inr ⟨g, rfl, fun i x hx => OwnS.at0 h (i := i) ?_⟩⟩
    simp [encS, List.getElem?_map, hx]
def KTabX (w : World) : Prop := ∀ k (hk : k < 8), w.cell? ⟨0, k, none⟩ = some (.string ⟨(kdN[k]'hk).toArray⟩)
theorem KTabX.below {A B : World} (h : KTabX A) (hb : Below A.heap.size A B) : KTabX B := fun k hk => (hb.cell (lt_of_cell (h k hk))).trans (h k hk)
theorem tinfoRowX : (Tryz.prog.info? 166).map (fun i => (i.zero, i.size, i.bytes)) = some (some (.agg #[.int .i64 0, .int .i64 0, .int .i64 0]), 3, 24) := by kernel_rfl
abbrev wCls : List UInt8 := [99, 108, 97, 115, 115]
abbrev wKnd : List UInt8 := [107, 105, 110, 100]
abbrev wFld : List UInt8 := [102, 111, 108, 100]
abbrev wDcp : List UInt8 := [100, 101, 99, 111, 109, 112]
section
variable {B0 g : Nat} {ρ : Nat → Nat} {X : XdS} {S : RdS} {cv kv fv dv : Value} {w w' : World}
theorem PxW.no (h : PxW B0 ρ g X cv kv fv dv w) {N no : Nat} (hN : X.fl.length ≤ N ∧ X.dl.length ≤ N) (h0 : no ≠ 0) (E : RdS) (hb : Below w.heap.size w w') : PxOut B0 g N no E w (.returned (.int .i64 (no : Nat))) w' :=
  ⟨rfl, hb.mono h.hB, ρ, X, cv, kv, fv, dv, h.below hb, fun e => absurd e h0, hN⟩
theorem PxW.appc (h : PxW B0 ρ g X cv kv fv dv w) (hX : XRel X S) (hm : X.cs.length ≤ 65536) (r : Nat × Nat × Int) : ∃ v' w3, (∀ ty, (Builtin.append_ #[79, 79] ty #[cv, .slice (some ⟨w.heap.size, 0, none⟩) 1 1]).run Tryz.prog (w.alloc (.cells #[.int .i64 r.1, .int .i64 r.2.1, .int .i64 r.2.2] 166)) = .ok v' w3) ∧
    w3.cell? ⟨g, 0, none⟩ = some cv ∧ w3.frozen? ⟨g, 0, none⟩ = false ∧ (∃ ao n cp, v' = .slice ao n cp) ∧ Below B0 w (w3.setCell ⟨g, 0, none⟩ v') ∧ ∃ ρ' X' cv' kv' fv' dv', PxW B0 ρ' g X' cv' kv' fv' dv' (w3.setCell ⟨g, 0, none⟩ v') ∧ XRel X' { S with cs := S.cs ++ [r] } ∧ X'.fl = X.fl ∧ X'.dl = X.dl := by
  obtain ⟨gb, cap, w3, hrun, hown3, hk3, hg3, hz3⟩ := append_x (P := Tryz.prog) w 79 166 Tryz.underlying79 tinfoRowX rfl (by omega) h.c [.int .i64 r.1, .int .i64 r.2.1, .int .i64 r.2.2] rfl
    (by intro u hu; simp at hu; rcases hu with rfl | rfl | rfl <;> rfl) (by unfold maxLen; omega) (by omega)
  have hgg : g ≠ gb := fun e => by
    subst e
    have hgl := h.gl
    rcases hg3 with hx | hx
    · have h9 : ρ g = 2 := h.c.2 _ hx
      have h8 := h.rg
      omega
    · omega
  have hcg : ∀ b, cv.ownBlock = some b → g ≠ b := fun b hb e => by
    subst e
    have h9 : ρ g = 2 := h.c.2 _ hb
    have h8 := h.rg
    omega
  have hc3 := hk3.heap h.cell (fun e => hcg _ e rfl)
  have q : w3.cell? ⟨g, 0, none⟩ = some cv := by rw [Lib.cell_of_heap hc3]; rfl
  have hk4 : Keep (fun b => b = g ∨ cv.ownBlock = some b) w (w3.setCell ⟨g, 0, none⟩ (.slice (some ⟨gb, 0, none⟩) (X.cs.length + 1) cap)) := (hk3.weaken fun _ _ h => .inr h).trans ((Keep.setCell (X := fun b => b = g) (Keep.refl _ w3) (p := ⟨g, 0, none⟩) rfl _).weaken fun _ _ h => .inl h)
  have hk5 : Keep (fun b => b = g) w3 (w3.setCell ⟨g, 0, none⟩ (.slice (some ⟨gb, 0, none⟩) (X.cs.length + 1) cap)) := Keep.setCell (X := fun b => b = g) (Keep.refl _ w3) (p := ⟨g, 0, none⟩) rfl _
  have hX' := hX.cls r
  have hP := h.newc (l' := X.cs ++ [r]) hk4 (v' := .slice (some ⟨gb, 0, none⟩) (X.cs.length + 1) cap) (by
    have := heap_setCell_same w3 g 0 _ _ (.slice (some ⟨gb, 0, none⟩) (X.cs.length + 1) cap) hc3
    simpa using this) (by
    rw [List.length_append, rfE_snoc]
    refine (hown3.keep hk5 (fun b hb e => hgg (by rw [← hb, ← e]))).weaken (fun b hb => ⟨?_, fun e => hgg (by rw [← e, hb])⟩)
    subst hb
    rcases hg3 with hx | hx
    · exact .inl hx
    · exact .inr (by omega))
  refine ⟨_, w3, hrun, q, Lib.frozen_of_heap hc3 _, ⟨_, _, _, rfl⟩, hk4.below h.hB (fun b hb => ?_), _, _, _, _, _, _, hP, hX', rfl, rfl⟩
  rcases hb with rfl | hb
  · exact h.hr _ (by rw [h.rg]; decide)
  · exact h.hr _ (by have h9 : ρ b = 2 := h.c.2 _ hb; omega)
theorem PxW.appk (h : PxW B0 ρ g X cv kv fv dv w) (hX : XRel X S) (hm : X.ks.length ≤ 65536) (r : Nat × Nat × Int) : ∃ v' w3, (∀ ty, (Builtin.append_ #[79, 79] ty #[kv, .slice (some ⟨w.heap.size, 0, none⟩) 1 1]).run Tryz.prog (w.alloc (.cells #[.int .i64 r.1, .int .i64 r.2.1, .int .i64 r.2.2] 166)) = .ok v' w3) ∧
    w3.cell? ⟨g, 1, none⟩ = some kv ∧ w3.frozen? ⟨g, 1, none⟩ = false ∧ (∃ ao n cp, v' = .slice ao n cp) ∧ Below B0 w (w3.setCell ⟨g, 1, none⟩ v') ∧ ∃ ρ' X' cv' kv' fv' dv', PxW B0 ρ' g X' cv' kv' fv' dv' (w3.setCell ⟨g, 1, none⟩ v') ∧ XRel X' { S with ks := S.ks ++ [r] } ∧ X'.fl = X.fl ∧ X'.dl = X.dl := by
  obtain ⟨gb, cap, w3, hrun, hown3, hk3, hg3, hz3⟩ := append_x (P := Tryz.prog) w 79 166 Tryz.underlying79 tinfoRowX rfl (by omega) h.k [.int .i64 r.1, .int .i64 r.2.1, .int .i64 r.2.2] rfl
    (by intro u hu; simp at hu; rcases hu with rfl | rfl | rfl <;> rfl) (by unfold maxLen; omega) (by omega)
  have hgg : g ≠ gb := fun e => by
    subst e
    have hgl := h.gl
    rcases hg3 with hx | hx
    · have h9 : ρ g = 3 := h.k.2 _ hx
      have h8 := h.rg
      omega
    · omega
  have hcg : ∀ b, kv.ownBlock = some b → g ≠ b := fun b hb e => by
    subst e
    have h9 : ρ g = 3 := h.k.2 _ hb
    have h8 := h.rg
    omega
  have hc3 := hk3.heap h.cell (fun e => hcg _ e rfl)
  have q : w3.cell? ⟨g, 1, none⟩ = some kv := by rw [Lib.cell_of_heap hc3]; rfl
  have hk4 : Keep (fun b => b = g ∨ kv.ownBlock = some b) w (w3.setCell ⟨g, 1, none⟩ (.slice (some ⟨gb, 0, none⟩) (X.ks.length + 1) cap)) := (hk3.weaken fun _ _ h => .inr h).trans ((Keep.setCell (X := fun b => b = g) (Keep.refl _ w3) (p := ⟨g, 1, none⟩) rfl _).weaken fun _ _ h => .inl h)
  have hk5 : Keep (fun b => b = g) w3 (w3.setCell ⟨g, 1, none⟩ (.slice (some ⟨gb, 0, none⟩) (X.ks.length + 1) cap)) := Keep.setCell (X := fun b => b = g) (Keep.refl _ w3) (p := ⟨g, 1, none⟩) rfl _
  have hX' := hX.knd r
  have hP := h.newk (l' := X.ks ++ [r]) hk4 (v' := .slice (some ⟨gb, 0, none⟩) (X.ks.length + 1) cap) (by
    have := heap_setCell_same w3 g 1 _ _ (.slice (some ⟨gb, 0, none⟩) (X.ks.length + 1) cap) hc3
    simpa using this) (by
    rw [List.length_append, rfE_snoc]
    refine (hown3.keep hk5 (fun b hb e => hgg (by rw [← hb, ← e]))).weaken (fun b hb => ⟨?_, fun e => hgg (by rw [← e, hb])⟩)
    subst hb
    rcases hg3 with hx | hx
    · exact .inl hx
    · exact .inr (by omega))
  refine ⟨_, w3, hrun, q, Lib.frozen_of_heap hc3 _, ⟨_, _, _, rfl⟩, hk4.below h.hB (fun b hb => ?_), _, _, _, _, _, _, hP, hX', rfl, rfl⟩
  rcases hb with rfl | hb
  · exact h.hr _ (by rw [h.rg]; decide)
  · exact h.hr _ (by have h9 : ρ b = 3 := h.k.2 _ hb; omega)
end
end Go.Proofs.YtfpfpaaojdodnaaGreatDoor
/- The document's answer for props: a line of class or kind: the walk. -/
namespace Go.Proofs.YtfpfpaaojdodnaaGreatDoor
open Go Go.RowKit Go.Kt Go.Kt.Rg Go.Maps

theorem kd_not {b : List UInt8} (h : ∀ k (hk : k < 8), kdN[k]'hk ≠ b) : kndP b = (12, 0) := by
  unfold kndP
  have : kdN.findIdx? (fun x => x == b) = none := by
    rw [List.findIdx?_eq_none_iff]
    intro x hx
    obtain ⟨k, hk, rfl⟩ := List.getElem_of_mem hx
    simpa using h k hk
  rw [this]
theorem kd_at {b : List UInt8} {k : Nat} (hk : k < 8) (h0 : ∀ j (hj : j < 8), j < k → kdN[j]'hj ≠ b) (h : kdN[k]'hk = b) : kndP b = (0, k) := by
  unfold kndP
  have : kdN.findIdx? (fun x => x == b) = some k := by
    rw [List.findIdx?_eq_some_iff_getElem]
    refine ⟨hk, by simpa using h, fun j hj => ?_⟩
    simpa using h0 j (by omega) hj
  rw [this]
theorem rows_take (line : Nat) (S : RdS) {x a b : List UInt8} (V : List UInt8 → Nat × Int) (hV : (x = wCls ∧ V = clsP) ∨ (x = wKnd ∧ V = kndZ)) : (takeP line S [x, a, b]).1 = (rowP V [a, b]).1 ∧
    (takeP line S [x, a, b]).2 = if x = wCls then { S with cs := S.cs ++ [(rowP V [a, b]).2] } else { S with ks := S.ks ++ [(rowP V [a, b]).2] } := by
  rcases hV with ⟨rfl, rfl⟩ | ⟨rfl, rfl⟩
  · exact ⟨rfl, rfl⟩
  · exact ⟨rfl, rfl⟩
theorem rowP_two (V : List UInt8 → Nat × Int) (a b : List UInt8) : rowP V [a, b] = if (spnP a).1 ≠ 0 then ((spnP a).1, 0, 0, 0) else if (V b).1 ≠ 0 then ((V b).1, 0, 0, 0) else (0, (spnP a).2.1, (spnP a).2.2, (V b).2) := by
  unfold rowP
  rw [if_neg (by simp)]
  rfl
theorem row_spn {V : List UInt8 → Nat × Int} {a b : List UInt8} (h : (spnP a).1 ≠ 0) : (rowP V [a, b]).1 = (spnP a).1 := by rw [rowP_two, if_pos h]
theorem row_val {V : List UInt8 → Nat × Int} {a b : List UInt8} (h : (spnP a).1 = 0) (hv : (V b).1 ≠ 0) : (rowP V [a, b]).1 = (V b).1 := by rw [rowP_two, if_neg (by simpa using h), if_pos hv]
theorem row_yes {V : List UInt8 → Nat × Int} {a b : List UInt8} (h : (spnP a).1 = 0) (hv : (V b).1 = 0) : rowP V [a, b] = (0, (spnP a).2.1, (spnP a).2.2, (V b).2) := by rw [rowP_two, if_neg (by simpa using h), if_neg (by simpa using hv)]

set_option maxRecDepth 100000 in
set_option maxHeartbeats 4000000 in
theorem yranged {B0 g : Nat} {ρ : Nat → Nat} {X : XdS} {S : RdS} {cv kv fv dv : Value} (w : World) (hP : PxW B0 ρ g X cv kv fv dv w) (hX : XRel X S) (x : List UInt8) (t : List (List UInt8)) (hx : x = wCls ∨ x = wKnd) (sv : Value) (hS : TxR w sv (x :: t)) (hz : ∀ u ∈ x :: t, u ≠ [] ∧ u.length ≤ 1048000) (hK : KTabX w) (hm : X.cs.length ≤ 65536 ∧ X.ks.length ≤ 65536) (line : Nat) {N : Nat} (hN : X.fl.length ≤ N ∧ X.dl.length ≤ N) :
    Calls Tryz.prog 38 #[.pointer (some ⟨g, 0, none⟩), sv] w fun e w' => PxOut B0 g N (takeP line S (x :: t)).1 (takeP line S (x :: t)).2 w e w' := by
  have HP := Lib.hid (And.intro hP (And.intro hX hm))
  have HN := Lib.hid hN
  clear hN
  obtain ⟨ao, cp, rfl, hor⟩ := hS
  obtain ⟨gs, rfl, hc⟩ : ∃ g, ao = some ⟨g, 0, none⟩ ∧ ∀ (i : Nat) (y : List UInt8), (x :: t)[i]? = some y → w.cell? ⟨g, i, none⟩ = some (.string ⟨y.toArray⟩) := by
    rcases hor with h | h
    · cases h
    · exact h
  have h12 : x ≠ wCls ∧ x ≠ wKnd ∧ x ≠ wFld ∧ x ≠ wDcp ↔ False := by
    rcases hx with rfl | rfl <;> simp
  match t with
  | [] =>
    have HT : Hid ((takeP line S [x]).1 = 2) := Lib.hid (by rw [takeP, if_neg (fun h => h12.1 h), if_pos (by simp)])
    clear hc hor hz hK h12 hP hX hm hx
    go_enter Tryz.func38, Tryz.ntmps38
    go_wp2
    go_ret
    rw [HT.out]
    exact HP.out.1.no HN.out (by decide) _ (Below.refl _ _)
  | [a] =>
    have HT : Hid ((takeP line S [x, a]).1 = 2) := Lib.hid (by rw [takeP, if_neg (fun h => h12.1 h), if_pos (by simp)])
    clear hc hor hz hK h12 hP hX hm hx
    go_enter Tryz.func38, Tryz.ntmps38
    go_wp2
    go_ret
    rw [HT.out]
    exact HP.out.1.no HN.out (by decide) _ (Below.refl _ _)
  | a :: b :: c :: u =>
    have HT : Hid ((takeP line S (x :: a :: b :: c :: u)).1 = 3) := Lib.hid (by
      have hr : ∀ V, rowP V (a :: b :: c :: u) = (3, 0, 0, 0) := fun V => by unfold rowP; rw [if_pos (by simp)]
      rw [takeP, if_neg (fun h => h12.1 h), if_neg (by simp)]
      rcases hx with rfl | rfl
      · rw [if_pos rfl, hr]
      · rw [if_neg (by decide), if_pos rfl, hr])
    obtain ⟨n, hn⟩ : ∃ n, (x :: a :: b :: c :: u).length = n := ⟨_, rfl⟩
    rw [hn]
    have hn4 : 4 ≤ n := by rw [← hn]; simp
    have e1 : ¬ (n : Int) < 3 := by omega
    have e2 : (3 : Int) < n := by omega
    clear hc hor hz hK h12 hP hX hm hx hn hn4
    go_enter Tryz.func38, Tryz.ntmps38
    go_wp2
    go_ret
    rw [HT.out]
    exact HP.out.1.no HN.out (by decide) _ (Below.refl _ _)
  | [a, b] =>
    have hza := hz a (by simp)
    have hzb := hz b (by simp)
    have c0 := hc 0 x rfl
    have c1 := hc 1 a rfl
    have c2 := hc 2 b rfl
    have CE := Lib.hid (yends ⟨a.toArray⟩ w (by rw [bsize]; exact hza.2))
    obtain ⟨sb, hsb⟩ : ∃ sb : ByteArray, (⟨b.toArray⟩ : ByteArray) = sb := ⟨_, rfl⟩
    have hsl : sb.data.toList = b := by rw [← hsb]
    rw [hsb] at c2
    have hsz : sb.size = b.length := by rw [← hsl]; exact Lib.size_eq sb
    obtain ⟨⟨no, lo, hi⟩, hsp⟩ : ∃ z, spnP a = z := ⟨_, rfl⟩
    have hda : (⟨a.toArray⟩ : ByteArray).data.toList = a := by simp
    rw [hda, hsp] at CE
    have HSP := Lib.hid hsp
    have HK := Lib.hid hK
    have HC := Lib.hid (fun (W : World) (h : Below w.heap.size w W) => And.intro ((h.cell (lt_of_cell c0)).trans c0) ((h.cell (lt_of_cell c2)).trans c2))
    have HB := Lib.hid (And.intro hsl (And.intro hsz hzb))
    obtain ⟨sa, hsa⟩ : ∃ sa : ByteArray, (⟨a.toArray⟩ : ByteArray) = sa := ⟨_, rfl⟩
    rw [hsa] at c1 CE
    clear hc hor hz hK hP hm hsp hda hza hsa c2 c0 hsl hsb
    by_cases h0 : no = 0
    · subst h0
      rcases hx with rfl | rfl
      · -- class
        have HT := Lib.hid (rows_take line S (a := a) (b := b) clsP (.inl ⟨rfl, rfl⟩))
        clear h12 hX
        go_enter Tryz.func38, Tryz.ntmps38
        go_wp2_with fail
        refine CE.out.mono ?_
        rintro e w1 ⟨rfl, hb1⟩
        obtain ⟨d0, d2⟩ := HC.out w1 hb1
        have HB1 := Lib.hid hb1
        have CN := Lib.hid (ynumber sb 10 1 18 w1 (by omega) (.inr ⟨rfl, rfl, rfl⟩))
        clear hb1 c1
        go_wp2_with fail
        refine CN.out.mono ?_
        rintro e w2 ⟨rfl, hb2⟩
        have HB2 := Lib.hid (HB1.out.trans (hb2.mono HB1.out.size))
        obtain ⟨d0, d2⟩ := HC.out w2 HB2.out
        clear hb2
        obtain ⟨hsl, hsz, hbn, _⟩ := HB.out
        have hpos : 0 < sb.size := by rw [hsz]; exact List.length_pos_iff.2 hbn
        have hHD : b.head? = some (yAt sb 0) := by
          have h1 := yAt_drop sb 0 hpos
          rw [List.drop_zero, hsl] at h1
          rw [h1]; rfl
        have HNG := Lib.hid (numG10 b hbn)
        have HDC := Lib.hid (docC_cls hbn)
        have hl11 : ∀ w', Below w.heap.size w w' → (docC b).1 = 11 → PxOut B0 g N (takeP line S [wCls, a, b]).1 (takeP line S [wCls, a, b]).2 w (.returned (.int .i64 11)) w' := fun w' hb h => by
          have e1 : (takeP line S [wCls, a, b]).1 = 11 := by rw [HT.out.1, row_val (by rw [HSP.out]) (by rw [HDC.out, h]; decide), HDC.out, h]
          rw [e1]
          exact HP.out.1.no HN.out (by decide) _ hb
        have HL11 := Lib.hid hl11
        have hl1 : ∀ w', Below w.heap.size w w' → (docC b).1 = 1 → PxOut B0 g N (takeP line S [wCls, a, b]).1 (takeP line S [wCls, a, b]).2 w (.returned (.int .i64 1)) w' := fun w' hb h => by
          have e1 : (takeP line S [wCls, a, b]).1 = 1 := by rw [HT.out.1, row_val (by rw [HSP.out]) (by rw [HDC.out, h]; decide), HDC.out, h]
          rw [e1]
          exact HP.out.1.no HN.out (by decide) _ hb
        have HL1 := Lib.hid hl1
        clear hl11 hl1
        have HI0 : ∀ W, (Instr.index 9 (.string sb) (.int .i64 0)).run Tryz.prog W = .ok (.int .u8 ((yAt sb 0).toNat : Int)) W := fun W => yAt_run sb 0 hpos W
        obtain ⟨c0, hc0⟩ : ∃ c : Int, ((yAt sb 0).toNat : Int) = c := ⟨_, rfl⟩
        rw [hc0] at HI0
        have h48 : b.head? = some 48 ↔ c0 = 48 := by
          rw [hHD]
          constructor
          · intro h
            rw [← hc0, Option.some.inj h]; rfl
          · intro h
            rw [byt_is (k := 48) (by decide) (hc0.trans h)]; rfl
        by_cases h18 : 18 < b.length
        · have g18 : (18 : Int) < sb.size := by omega
          have hn : numG 10 1 18 b = -1 := by rw [HNG.out, if_neg (by omega)]
          have HG := Lib.hid (And.intro hsl (And.intro hsz (And.intro h18 h48)))
          rw [show sb.data.toList = b from hsl, hn]
          clear hsl hsz hbn hpos hHD h48 h18 hc0 hn
          go_wp2_with fail
          go_loopw [10] (fun v wr => ∃ i : Nat, v = .int .i64 (i : Nat) ∧ i ≤ sb.size ∧ Hid (dgA b = dgA (b.drop i)) ∧ wr = w2) (fun v _ => sb.size - (RowKit.intOf v).toNat)
          case atStart => exact ⟨0, rfl, Nat.zero_le _, Lib.hid (by rw [List.drop_zero]), rfl⟩
          case round =>
            obtain ⟨i, rfl, hi, hd, rfl⟩ := hrel
            by_cases hlt : i < sb.size
            · have e1 : (i : Int) < sb.size := by omega
              have k1 : IntKind.i64.wrap ((i : Int) + 1) = ((i + 1 : Nat) : Int) := by rw [IntWalk.i64_in _ (by have := HB.out.2.1; have := HB.out.2.2.2; omega)]; omega
              have HI := fun W => yAt_run sb i hlt W
              have hyd := yAt_drop sb i hlt
              rw [HG.out.1] at hyd
              have hd2 := hd.out
              rw [hyd] at hd2
              unfold dgA at hd2
              rw [List.all_cons] at hd2
              obtain ⟨c, hc⟩ : ∃ c : Int, ((yAt sb i).toNat : Int) = c := ⟨_, rfl⟩
              rw [hc] at HI
              by_cases hdg : 48 ≤ c ∧ c ≤ 57
              · have q1 : ¬ c < 48 := by omega
                have q2 : ¬ 57 < c := by omega
                have hb9 : dgB (yAt sb i) = true := dgB_iff.2 (by omega)
                rw [hb9, Bool.true_and] at hd2
                have HD2 : Hid (dgA b = dgA (b.drop (i + 1))) := Lib.hid hd2
                clear hyd hd2 hd hdg hb9 hc
                go_wp2
                go_roundw
                case rel => exact ⟨i + 1, by go_num, by omega, HD2, by trivial⟩
                case measure => simp [RowKit.intOf]; omega
              · have hb9 : dgB (yAt sb i) = false := by
                  cases h9 : dgB (yAt sb i) with
                  | false => rfl
                  | true => have := dgB_iff.1 h9; omega
                rw [hb9, Bool.false_and] at hd2
                have HD2 : Hid ((docC b).1 = 11) := Lib.hid (by unfold docC; rw [if_pos (.inl hd2)])
                clear hyd hd2 hd hb9 hc
                by_cases q1 : c < 48
                · clear hdg
                  go_wp2
                  go_ret
                  exact HL11.out _ HB2.out HD2.out
                · have q2 : 57 < c := by omega
                  clear hdg
                  go_wp2
                  go_ret
                  exact HL11.out _ HB2.out HD2.out
            · have e1 : ¬ (i : Int) < sb.size := by omega
              have hdt : dgA b = true := by
                rw [hd.out, List.drop_eq_nil_of_le (by have := HG.out.2.1; omega)]; rfl
              have g1 : (1 : Int) < sb.size := by have := HG.out.2; omega
              by_cases h9 : c0 = 48
              · subst h9
                have HD2 : Hid ((docC b).1 = 11) := Lib.hid (by unfold docC; rw [if_pos (.inr ⟨by have := HG.out.2.2.1; omega, HG.out.2.2.2.2 rfl⟩)])
                clear hd hdt hlt
                go_wp2
                go_ret
                exact HL11.out _ HB2.out HD2.out
              · have r9 : (c0 == 48) = false := beq_eq_false_iff_ne.2 h9
                have HD2 : Hid ((docC b).1 = 1) := Lib.hid (by
                  unfold docC
                  rw [if_neg (fun h => by rcases h with h | h; rw [hdt] at h; cases h; exact h9 (HG.out.2.2.2.1 h.2)), if_pos (docC_long hdt HG.out.2.2.1 (fun h => h9 (HG.out.2.2.2.1 h)))])
                clear hd hdt hlt h9
                go_wp2
                go_ret
                exact HL1.out _ HB2.out HD2.out
        · have g18 : ¬ (18 : Int) < sb.size := by omega
          rw [show sb.data.toList = b from hsl]
          cases hdg : dgA b with
          | false =>
            have hn : numG 10 1 18 b = -1 := by rw [HNG.out, hdg]; simp
            rw [hn]
            have HD2 : Hid ((docC b).1 = 11) := Lib.hid (by unfold docC; rw [if_pos (.inl hdg)])
            clear hsl hsz hbn hpos hHD h48 h18 hc0 hn hdg
            go_wp2
            go_ret
            exact HL11.out _ HB2.out HD2.out
          | true =>
            obtain ⟨n, hnn⟩ : ∃ n, dcV 0 b = n := ⟨_, rfl⟩
            have hn : numG 10 1 18 b = (n : Int) := by rw [HNG.out, if_pos ⟨by omega, hdg⟩, hnn]
            rw [hn]
            have q0 : ¬ (n : Int) < 0 := by omega
            have HV : Hid (dcV 0 b = n ∧ dgA b = true) := Lib.hid ⟨hnn, hdg⟩
            by_cases h1 : 1 < b.length
            · have g1 : (1 : Int) < sb.size := by omega
              by_cases h9 : c0 = 48
              · have HD2 : Hid ((docC b).1 = 11) := Lib.hid (by unfold docC; rw [if_pos (.inr ⟨h1, h48.2 h9⟩)])
                subst h9
                clear hsl hsz hbn hpos hHD h48 h18 hc0 hn hdg hnn h1
                go_wp2
                go_ret
                exact HL11.out _ HB2.out HD2.out
              · have r9 : (c0 == 48) = false := beq_eq_false_iff_ne.2 h9
                have HD2 : Hid (docC b = if 254 < n then (1, 0) else (0, ((n : Nat) : Int))) := Lib.hid (by
                  unfold docC
                  rw [if_neg (fun h => by rcases h with h | h; rw [hdg] at h; cases h; exact h9 (h48.1 h.2)), hnn])
                clear hsl hsz hbn hpos hHD h48 h18 hc0 hn hdg hnn h1 h9
                by_cases h254 : 254 < n
                · have g254 : (254 : Int) < n := by omega
                  have HD3 : Hid ((docC b).1 = 1) := Lib.hid (by rw [HD2.out, if_pos h254])
                  clear h254
                  go_wp2
                  go_ret
                  exact HL1.out _ HB2.out HD3.out
                · have g254 : ¬ (254 : Int) < n := by omega
                  have HD3 : Hid (clsP b = (0, ((n : Nat) : Int))) := Lib.hid (by rw [HDC.out, HD2.out, if_neg h254])
                  have hP2 := HP.out.1.below HB2.out
                  obtain ⟨v', w3, hrun, f0, f1, ⟨ao9, n9, cp9, rfl⟩, hb9, hPX⟩ := hP2.appc HP.out.2.1 HP.out.2.2.1 (lo, hi, (n : Nat))
                  obtain ⟨ao8, cp8, hcv⟩ := own_slc hP2.c
                  have f2 : w2.cell? ⟨g, 0, none⟩ = some cv := by rw [Lib.cell_of_heap hP2.cell]; rfl
                  have HRun := Lib.hid hrun
                  have H9 := Lib.hid (And.intro hb9 hPX)
                  have HE : Hid ((takeP line S [wCls, a, b]).1 = 0 ∧ (takeP line S [wCls, a, b]).2 = { S with cs := S.cs ++ [(lo, hi, ((n : Nat) : Int))] }) := Lib.hid (by
                    have hy := row_yes (V := clsP) (a := a) (b := b) (by rw [HSP.out]) (by rw [HD3.out])
                    rw [HSP.out, HD3.out] at hy
                    rw [HT.out.1, HT.out.2, hy]
                    exact ⟨rfl, by simp⟩)
                  rw [hcv] at f0 f2 HRun
                  clear hrun hb9 hPX hP2 h254 hcv
                  go_wp2_with (first | (at_builtin; refine wpList_append_eq rfl rfl rfl rfl HRun.out ?_; clear HRun) | fail)
                  go_ret
                  rw [HE.out.1, HE.out.2]
                  obtain ⟨h1, ρ', X', cv', kv', fv', dv', h2, h3, h4, h5⟩ := H9.out
                  exact ⟨rfl, (HB2.out.mono HP.out.1.hB).trans h1, ρ', X', cv', kv', fv', dv', h2, fun _ => h3, by rw [h4, h5]; exact HN.out⟩
            · have g1 : ¬ (1 : Int) < sb.size := by omega
              have HD2 : Hid (docC b = if 254 < n then (1, 0) else (0, ((n : Nat) : Int))) := Lib.hid (by
                unfold docC
                rw [if_neg (fun h => by rcases h with h | h; rw [hdg] at h; cases h; exact h1 h.1), hnn])
              clear hsl hsz hbn hpos hHD h48 h18 hc0 hn hdg hnn h1 HI0
              by_cases h254 : 254 < n
              · have g254 : (254 : Int) < n := by omega
                have HD3 : Hid ((docC b).1 = 1) := Lib.hid (by rw [HD2.out, if_pos h254])
                clear h254
                go_wp2
                go_ret
                exact HL1.out _ HB2.out HD3.out
              · have g254 : ¬ (254 : Int) < n := by omega
                have HD3 : Hid (clsP b = (0, ((n : Nat) : Int))) := Lib.hid (by rw [HDC.out, HD2.out, if_neg h254])
                have hP2 := HP.out.1.below HB2.out
                obtain ⟨v', w3, hrun, f0, f1, ⟨ao9, n9, cp9, rfl⟩, hb9, hPX⟩ := hP2.appc HP.out.2.1 HP.out.2.2.1 (lo, hi, (n : Nat))
                obtain ⟨ao8, cp8, hcv⟩ := own_slc hP2.c
                have f2 : w2.cell? ⟨g, 0, none⟩ = some cv := by rw [Lib.cell_of_heap hP2.cell]; rfl
                have HRun := Lib.hid hrun
                have H9 := Lib.hid (And.intro hb9 hPX)
                have HE : Hid ((takeP line S [wCls, a, b]).1 = 0 ∧ (takeP line S [wCls, a, b]).2 = { S with cs := S.cs ++ [(lo, hi, ((n : Nat) : Int))] }) := Lib.hid (by
                  have hy := row_yes (V := clsP) (a := a) (b := b) (by rw [HSP.out]) (by rw [HD3.out])
                  rw [HSP.out, HD3.out] at hy
                  rw [HT.out.1, HT.out.2, hy]
                  exact ⟨rfl, by simp⟩)
                rw [hcv] at f0 f2 HRun
                clear hrun hb9 hPX hP2 h254 hcv
                go_wp2_with (first | (at_builtin; refine wpList_append_eq rfl rfl rfl rfl HRun.out ?_; clear HRun) | fail)
                go_ret
                rw [HE.out.1, HE.out.2]
                obtain ⟨h1, ρ', X', cv', kv', fv', dv', h2, h3, h4, h5⟩ := H9.out
                exact ⟨rfl, (HB2.out.mono HP.out.1.hB).trans h1, ρ', X', cv', kv', fv', dv', h2, fun _ => h3, by rw [h4, h5]; exact HN.out⟩
      · -- kind
        have HT := Lib.hid (rows_take line S (a := a) (b := b) kndZ (.inr ⟨rfl, rfl⟩))
        clear h12 hX
        go_enter Tryz.func38, Tryz.ntmps38
        go_wp2_with fail
        refine CE.out.mono ?_
        rintro e w1 ⟨rfl, hb1⟩
        obtain ⟨d0, d2⟩ := HC.out w1 hb1
        have HB1 := Lib.hid hb1
        clear hb1 c1
        go_wp2_with fail
        go_loopw [8] (fun v wr => ∃ k : Nat, v = .int .i64 (k : Nat) ∧ k ≤ 8 ∧ Hid (∀ j (hj : j < 8), j < k → kdN[j]'hj ≠ b) ∧ Below w1.heap.size w1 wr) (fun v _ => 8 - (RowKit.intOf v).toNat)
        case atStart => exact ⟨0, rfl, Nat.zero_le _, Lib.hid (fun j _ h => absurd h (by omega)), Below.refl _ _⟩
        case round =>
          obtain ⟨k, rfl, hk, hd, hbr⟩ := hrel
          by_cases hlt : k < 8
          · have e1 : (k : Int) < 8 := by omega
            have e0 : (0 : Int) ≤ (k : Int) := by omega
            have k1 : IntKind.i64.wrap ((k : Int) + 1) = ((k + 1 : Nat) : Int) := by rw [IntWalk.i64_in _ (by omega)]; omega
            have HBR := Lib.hid (HB1.out.trans (hbr.mono HB1.out.size))
            have ck := (HK.out.below HBR.out) k hlt
            obtain ⟨D0, D2⟩ := HC.out wr HBR.out
            obtain ⟨sk, hsk⟩ : ∃ sk : ByteArray, (⟨(kdN[k]'hlt).toArray⟩ : ByteArray) = sk := ⟨_, rfl⟩
            have hskl : sk.toList = kdN[k]'hlt := by rw [ByteArray.toList_eq, ← hsk]
            rw [hsk] at ck
            have hsbl : sb.toList = b := by rw [ByteArray.toList_eq]; exact HB.out.1
            have HBW := Lib.hid hbr
            by_cases hq : kdN[k]'hlt = b
            · have b1 : (sb.toList == sk.toList) = true := by rw [hskl, hsbl, hq]; simp
              have HD3 : Hid (kndZ b = (0, ((k : Nat) : Int))) := Lib.hid (by unfold kndZ; rw [kd_at hlt hd.out hq])
              have HE : Hid ((takeP line S [wKnd, a, b]).1 = 0 ∧ (takeP line S [wKnd, a, b]).2 = { S with ks := S.ks ++ [(lo, hi, ((k : Nat) : Int))] }) := Lib.hid (by
                have hy := row_yes (V := kndZ) (a := a) (b := b) (by rw [HSP.out]) (by rw [HD3.out])
                rw [HSP.out, HD3.out] at hy
                rw [HT.out.1, HT.out.2, hy]
                exact ⟨rfl, by rw [if_neg (by decide)]⟩)
              clear hd hbr hsk hskl hsbl hq hlt
              go_wp2_with fail
              go_quiet (fail)
              have hbq : Below w.heap.size w (wr.drewN nq) := below_drewN HBR.out nq
              have hP2 := HP.out.1.below hbq
              obtain ⟨v', w3, hrun, f0, f1, ⟨ao9, n9, cp9, rfl⟩, hb9, hPX⟩ := hP2.appk HP.out.2.1 HP.out.2.2.2 (lo, hi, (k : Nat))
              obtain ⟨ao8, cp8, hkv⟩ := own_slc hP2.k
              have f2 : (wr.drewN nq).cell? ⟨g, 1, none⟩ = some kv := by rw [Lib.cell_of_heap hP2.cell]; rfl
              have HRun := Lib.hid hrun
              have H9 := Lib.hid (And.intro ((hbq.mono HP.out.1.hB).trans hb9) hPX)
              rw [hkv] at f0 f2 HRun
              clear hrun hb9 hPX hP2 hkv hbq
              go_wp2_with (first | (at_builtin; refine wpList_append_eq rfl rfl rfl rfl HRun.out ?_; clear HRun) | fail)
              go_ret
              rw [HE.out.1, HE.out.2]
              obtain ⟨h1, ρ', X', cv', kv', fv', dv', h2, h3, h4, h5⟩ := H9.out
              exact ⟨rfl, h1, ρ', X', cv', kv', fv', dv', h2, fun _ => h3, by rw [h4, h5]; exact HN.out⟩
            · have b1 : (sb.toList == sk.toList) = false := by rw [hskl, hsbl]; exact beq_eq_false_iff_ne.2 (fun e => hq e.symm)
              have HD2 : Hid (∀ j (hj : j < 8), j < k + 1 → kdN[j]'hj ≠ b) := Lib.hid (fun j hj h => by
                rcases Nat.lt_or_ge j k with h3 | h3
                · exact hd.out j hj h3
                · obtain rfl : j = k := by omega
                  exact hq)
              clear hd hbr hsk hskl hsbl hq hlt
              go_wp2_with fail
              go_quiet (fail)
              go_wp2
              go_roundw
              case rel => exact ⟨k + 1, by go_num, by omega, HD2, below_drewN HBW.out _⟩
              case measure => simp [RowKit.intOf]; omega
          · have e1 : ¬ (k : Int) < 8 := by omega
            have HBR := Lib.hid (HB1.out.trans (hbr.mono HB1.out.size))
            have HE : Hid ((takeP line S [wKnd, a, b]).1 = 12) := Lib.hid (by
              have hq := kd_not (b := b) (fun j hj => hd.out j hj (by omega))
              have hz : (kndZ b).1 = 12 := by unfold kndZ; rw [hq]
              rw [HT.out.1, row_val (by rw [HSP.out]) (by rw [hz]; decide), hz])
            clear hd hbr hlt
            go_wp2
            go_ret
            rw [HE.out]
            exact HP.out.1.no HN.out (by decide) _ HBR.out
    · have h0' : ((no : Int) != 0) = true := by simp; omega
      have HT : Hid ((takeP line S [x, a, b]).1 = no) := Lib.hid (by
        rcases hx with rfl | rfl
        · rw [(rows_take line S clsP (.inl ⟨rfl, rfl⟩)).1, row_spn (by rw [HSP.out]; exact h0), HSP.out]
        · rw [(rows_take line S kndZ (.inr ⟨rfl, rfl⟩)).1, row_spn (by rw [HSP.out]; exact h0), HSP.out])
      have H0 := Lib.hid h0
      clear h12 hX hx h0
      go_enter Tryz.func38, Tryz.ntmps38
      go_wp2_with fail
      refine CE.out.mono ?_
      rintro e w1 ⟨rfl, hb1⟩
      have HB1 := Lib.hid hb1
      clear hb1
      go_wp2
      go_ret
      rw [HT.out]
      exact HP.out.1.no HN.out H0.out _ HB1.out
end Go.Proofs.YtfpfpaaojdodnaaGreatDoor
/- props: the document's full decompositions, its flags of what ends, its least pair: mathematics. -/
namespace Go.Proofs.YtfpfpaaojdodnaaGreatDoor
open Go Go.RowKit Go.Kt Go.Kt.Rg Go.Maps

def xdcpV (l : List Ln3) (r : Int) : List Nat := if sylP r then partsP (r - 44032).toNat else (ofL l r).getD []
theorem XRel.dcpX {X : XdS} {S : RdS} (h : XRel X S) (r : Int) : xdcpV X.dl r = dcpV S r := by
  unfold xdcpV dcpV
  rw [h.dcp]
def fullD (dl : List Ln3) : Nat → Nat → Option Nat
  | 0, _ => none
  | f + 1, r => if xdcpV dl (r : Int) = [] then some 1 else sumO (fullD dl f) (xdcpV dl (r : Int))
variable {X : XdS} {S : RdS} {k : Nat}
theorem sumO_ones {g : Nat → Option Nat} : ∀ {l : List Nat}, (∀ y ∈ l, g y = some 1) → sumO g l = some l.length
  | [], _ => rfl
  | y :: t, h => by
    rw [sumO, h y List.mem_cons_self, sumO_ones (fun z hz => h z (List.mem_cons_of_mem _ hz)), List.length_cons, Nat.add_comm]
theorem parts_jam {n : Nat} (hn : n < 11172) : ∀ y ∈ partsP n, hanP (y : Int) = true ∧ sylP (y : Int) = false := by
  intro y hy
  have h : jamP (y : Int) = true := by
    rw [jam_iff]
    unfold partsP at hy
    simp only [List.mem_append, List.mem_cons, List.not_mem_nil, or_false] at hy
    rcases hy with (rfl | rfl) | hy
    · simp; omega
    · simp; omega
    · split at hy
      · cases hy
      · rename_i h0
        rw [List.mem_singleton] at hy
        subst hy
        simp; omega
  refine ⟨by rw [han_two, h, Bool.or_true], ?_⟩
  rw [jam_iff] at h
  rw [syl_iff]
  simp at h ⊢
  omega
theorem syl_rng {x : Nat} (h : sylP (x : Int) = true) : 44032 ≤ x ∧ x - 44032 < 11172 := by
  rw [syl_iff] at h
  simp at h
  omega
theorem XRel.of_none (h : XRel X S) (hS : RdOk k S) {x : Nat} (hx : hanP (x : Int) = true) : (ofL X.dl (x : Int)).getD [] = [] := by
  rw [h.dcp, atZ_nat]
  cases hd : S.ds x with
  | none => rfl
  | some l =>
    have := (hS.ds x l hd).1.2
    rw [hx] at this; cases this
theorem XRel.full (h : XRel X S) (hS : RdOk k S) : ∀ (f x n : Nat), fullN S.ds f x = some n → fullD X.dl (f + 1) x = some n
  | 0, x, n, e => by cases e
  | f + 1, x, n, e => by
    rw [fullN] at e
    rw [fullD]
    cases hs : sylP (x : Int) with
    | true =>
      rw [if_pos hs] at e
      obtain ⟨h1, h2⟩ := syl_rng hs
      have hx : xdcpV X.dl (x : Int) = partsP (x - 44032) := by
        unfold xdcpV
        rw [if_pos hs, show ((x : Int) - 44032).toNat = x - 44032 by omega]
      rw [hx, if_neg (by unfold partsP; simp), sumO_ones (fun y hy => ?_)]
      · exact e
      · rw [fullD, if_pos]
        unfold xdcpV
        obtain ⟨q1, q2⟩ := parts_jam h2 y hy
        rw [if_neg (by rw [q2]; decide)]
        exact h.of_none hS q1
    | false =>
      rw [if_neg (by rw [hs]; decide)] at e
      have hx : xdcpV X.dl (x : Int) = (S.ds x).getD [] := by
        unfold xdcpV
        rw [if_neg (by rw [hs]; decide), h.dcp, atZ_nat]
      rw [hx]
      cases hd : S.ds x with
      | none => rw [hd] at e; rw [if_pos (by rfl)]; exact e
      | some l =>
        rw [hd] at e
        have hl := (hS.ds x l hd).2.1.1
        simp only [Option.getD_some]
        rw [if_neg (fun e2 => by rw [e2] at hl; simp at hl)]
        exact sumO_mono (fun y a ha => h.full hS f y a ha) e

/-! ### Flags of what ends -/
def OkZ (dl : List Ln3) (kn : List Bool) (z : Nat) : Prop := ∀ (m : Nat) (x : Ln3), dl[m]? = some x → x.1 = z → kn[m]? = some true
def SoundK (ds : DsT) (dl : List Ln3) (kn : List Bool) : Prop := kn.length = dl.length ∧ ∀ (i : Nat) (y : Ln3), dl[i]? = some y → kn[i]? = some true → ∃ n, EndA ds y.1 n
theorem soundK0 (ds : DsT) (dl : List Ln3) : SoundK ds dl (List.replicate dl.length false) := ⟨by simp, fun i y hy h => by
  rw [List.getElem?_replicate] at h
  split at h <;> cases h⟩
theorem XRel.ends (h : XRel X S) (hS : RdOk k S) {kn : List Bool} (hk : SoundK S.ds X.dl kn) {i : Nat} {y : Ln3} (hy : X.dl[i]? = some y) (ha : ∀ z ∈ y.2.1, OkZ X.dl kn z) : ∃ n, EndA S.ds y.1 n := by
  have hd := (h.at (List.mem_of_getElem? hy)).1
  have key : ∀ (l : List Nat), (∀ z ∈ l, OkZ X.dl kn z) → ∃ n, EndS S.ds l n := by
    intro l
    induction l with
    | nil => intro _; exact ⟨0, ends_nil _⟩
    | cons z t ih =>
      intro hz
      obtain ⟨b, hb⟩ := ih (fun u hu => hz u (List.mem_cons_of_mem _ hu))
      obtain ⟨a, ha⟩ : ∃ a, EndA S.ds z a := by
        cases hs : sylP (z : Int) with
        | true => exact ⟨_, EndA.syl hs⟩
        | false =>
          cases hdz : S.ds z with
          | none => exact ⟨1, EndA.ofN hs hdz⟩
          | some l =>
            obtain ⟨u, hu, rfl⟩ := (h.mem z).1 (by rw [hdz]; rfl)
            obtain ⟨m, hm⟩ := List.getElem?_of_mem hu
            exact hk.2 m u hm (hz u.1 List.mem_cons_self m u hm rfl)
      exact ⟨a + b, EndS.cons ha hb⟩
  obtain ⟨n, hn⟩ := key y.2.1 ha
  have hs : sylP (y.1 : Int) = false := by
    have := (hS.ds _ _ hd).1.2
    rw [han_two, Bool.or_eq_false_iff] at this
    exact this.1
  exact ⟨n, EndA.ofL hs hd hn⟩
theorem XRel.known (h : XRel X S) (hS : RdOk k S) {kn : List Bool} (hk : SoundK S.ds X.dl kn) (hc : ∀ (i : Nat) (y : Ln3), X.dl[i]? = some y → (∀ z ∈ y.2.1, OkZ X.dl kn z) → kn[i]? = some true) {i : Nat} {y : Ln3} (hy : X.dl[i]? = some y) :
    (kn[i]? = some true ∧ ∃ n, EndA S.ds y.1 n) ∨ (kn[i]? = some false ∧ NoEnd S.ds y.1) := by
  have key : ∀ (f : Nat) (i : Nat) (y : Ln3) (n : Nat), X.dl[i]? = some y → fullN S.ds f y.1 = some n → kn[i]? = some true := by
    intro f
    induction f with
    | zero => intro i y n _ e; cases e
    | succ f ih =>
      intro i y n hy e
      have hd := (h.at (List.mem_of_getElem? hy)).1
      have hs : sylP (y.1 : Int) = false := by
        have := (hS.ds _ _ hd).1.2
        rw [han_two, Bool.or_eq_false_iff] at this
        exact this.1
      rw [fullN, if_neg (by rw [hs]; decide), hd] at e
      refine hc i y hy fun z hz m x hx ex => ?_
      obtain ⟨a, ha⟩ := sumO_some e z hz
      exact ih m x a hx (by rw [ex]; exact ha)
  have hl : i < kn.length := by rw [hk.1]; exact (List.getElem?_eq_some_iff.1 hy).1
  cases hb : kn[i]'hl with
  | true =>
    have hb' : kn[i]? = some true := by rw [List.getElem?_eq_getElem hl, hb]
    exact .inl ⟨hb', hk.2 i y hy hb'⟩
  | false =>
    have hb' : kn[i]? = some false := by rw [List.getElem?_eq_getElem hl, hb]
    refine .inr ⟨hb', ?_⟩
    rcases end_or S.ds y.1 with h1 | ⟨n, f, h1⟩
    · exact h1
    · have := key f i y n hy h1
      rw [hb'] at this; cases this

/-! ### The least pair -/
def LeastI (l : List Ln3) (a b : Int) : Option Nat → Prop
  | none => ∀ y ∈ l, toZ y.2.1 ≠ [a, b]
  | some x => (∃ y ∈ l, y.1 = x ∧ toZ y.2.1 = [a, b]) ∧ ∀ z ∈ l, toZ z.2.1 = [a, b] → x ≤ z.1
theorem leastI_nil (a b : Int) : LeastI [] a b none := fun y h => by cases h
theorem LeastI.skip {l : List Ln3} {a b : Int} {o : Option Nat} {x : Ln3} (h : LeastI l a b o) (hx : toZ x.2.1 ≠ [a, b]) : LeastI (l ++ [x]) a b o := by
  cases o with
  | none =>
    intro y hy
    rcases List.mem_append.1 hy with hy | hy
    · exact h y hy
    · rw [List.mem_singleton.1 hy]; exact hx
  | some m =>
    obtain ⟨⟨y, h1, h2⟩, h3⟩ := h
    refine ⟨⟨y, List.mem_append_left _ h1, h2⟩, fun z hz e => ?_⟩
    rcases List.mem_append.1 hz with hz | hz
    · exact h3 z hz e
    · rw [List.mem_singleton.1 hz] at e; exact absurd e hx
theorem LeastI.far {l : List Ln3} {a b : Int} {m : Nat} {x : Ln3} (h : LeastI l a b (some m)) (hx : m ≤ x.1) : LeastI (l ++ [x]) a b (some m) := by
  obtain ⟨⟨y, h1, h2⟩, h3⟩ := h
  refine ⟨⟨y, List.mem_append_left _ h1, h2⟩, fun z hz e => ?_⟩
  rcases List.mem_append.1 hz with hz | hz
  · exact h3 z hz e
  · rw [List.mem_singleton.1 hz]; exact hx
theorem LeastI.new {l : List Ln3} {a b : Int} {o : Option Nat} {x : Ln3} (h : LeastI l a b o) (hx : toZ x.2.1 = [a, b]) (ho : ∀ m, o = some m → x.1 < m) : LeastI (l ++ [x]) a b (some x.1) := by
  refine ⟨⟨x, List.mem_append_right _ (List.mem_singleton_self _), rfl, hx⟩, fun z hz e => ?_⟩
  rcases List.mem_append.1 hz with hz | hz
  · cases o with
    | none => exact absurd e (h z hz)
    | some m => have := h.2 z hz e; have := ho m rfl; omega
  · rw [List.mem_singleton.1 hz]; exact Nat.le_refl _
theorem XRel.pair (h : XRel X S) {L : List Nat} (hp : L.Pairwise (· < ·)) (hm : ∀ x, x ∈ L ↔ (S.ds x).isSome = true) {a b : Int} {o : Option Nat} (ho : LeastI X.dl a b o) (hc : clsV S a = 0) : mdOf S L a b = o := by
  obtain ⟨h1, h2⟩ := mdOf_spec S hp L.length (Nat.le_refl _)
  rw [List.take_length] at h1 h2
  cases o with
  | none =>
    cases hq : mdOf S L a b with
    | none => rfl
    | some r =>
      obtain ⟨u, v, j, rfl, rfl, e3, _, _, e5⟩ := h1 a b r hq
      obtain ⟨y, hy, rfl⟩ := (h.mem r).1 (by rw [e3]; rfl)
      have := (h.at hy).1
      rw [e3] at this
      exact absurd (by rw [← Option.some.inj this]; rfl) (ho y hy)
  | some m =>
    obtain ⟨⟨y, hy, rfl, e⟩, h3⟩ := ho
    have hd := (h.at hy).1
    obtain ⟨u, v, hl, rfl, rfl⟩ : ∃ u v : Nat, y.2.1 = [u, v] ∧ a = u ∧ b = v := by
      match hq : y.2.1, e with
      | [u, v], e =>
        simp only [toZ, List.map_cons, List.map_nil, List.cons.injEq, and_true] at e
        exact ⟨u, v, rfl, e.1.symm, e.2.symm⟩
      | [], e => simp [toZ] at e
      | [_], e => simp [toZ] at e
      | _ :: _ :: _ :: _, e => simp [toZ] at e
    rw [hl] at hd
    obtain ⟨j, hj⟩ := List.getElem?_of_mem ((hm y.1).2 (by rw [hd]; rfl))
    obtain ⟨c, hc1, hc2⟩ := h2 j y.1 u v (List.getElem?_eq_some_iff.1 hj).1 hj hd hc
    rw [hc1]
    obtain ⟨u', v', j', e1, e2, e3, _, _, e5⟩ := h1 _ _ c hc1
    obtain ⟨z, hz, rfl⟩ := (h.mem c).1 (by rw [e3]; rfl)
    have hz2 := (h.at hz).1
    rw [e3] at hz2
    have := h3 z hz (by rw [← Option.some.inj hz2, e1, e2]; rfl)
    exact congrArg some (by omega)
theorem mdOf_cls (S : RdS) {L : List Nat} (hp : L.Pairwise (· < ·)) {a b : Int} (hc : clsV S a ≠ 0) : mdOf S L a b = none := by
  obtain ⟨h1, _⟩ := mdOf_spec S hp L.length (Nat.le_refl _)
  rw [List.take_length] at h1
  cases hq : mdOf S L a b with
  | none => rfl
  | some r =>
    obtain ⟨u, v, j, rfl, rfl, _, e4, _⟩ := h1 a b r hq
    exact absurd e4 hc
end Go.Proofs.YtfpfpaaojdodnaaGreatDoor
