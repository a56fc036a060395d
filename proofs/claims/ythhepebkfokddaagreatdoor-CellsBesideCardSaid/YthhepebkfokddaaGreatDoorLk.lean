/- The document's answer for props: lines. -/
import Derived.Test.YthhepebkfokddaaGreatDoorLj
import Derived.Test.YthhepebkfokddaaGreatDoorGy22
namespace Go.Proofs.YthhepebkfokddaaGreatDoor
open Go Go.RowKit Go.Kt Go.Kt.Rg Go.Maps

def lnT (l : List UInt8) : List UInt8 := Lib.trimSuffix (Lib.trimSuffix l [10]) [13]
theorem words_lnT (l : List UInt8) : wordsH [] (lnT l) = wrdP l := (wrdP_H l).symm
def lnsP (l : List UInt8) : List (List UInt8) := (linesP l).map lnT
def LnI (s : ByteArray) (ws : List (List UInt8)) (f i : Nat) : Prop :=
  (f ≤ i ∧ i ≤ s.size ∧ lnsP s.data.toList = ws ++ lnsP (s.data.toList.drop f) ∧ (∀ j, f ≤ j → j < i → yAt s j ≠ 10) ∧ ws.length ≤ f) ∨ (i = s.size + 1 ∧ f ≤ i ∧ lnsP s.data.toList = ws ∧ ws.length ≤ i)
def lnC' (s : ByteArray) (f i : Nat) : List UInt8 := (s.data.toList.drop f).take (i - f)
theorem lnC_no {s : ByteArray} {f i : Nat} (h : ∀ j, f ≤ j → j < i → yAt s j ≠ 10) : ∀ x ∈ lnC' s f i, x ≠ 10 := by
  intro x hx
  obtain ⟨k, hk⟩ := List.getElem?_of_mem hx
  unfold lnC' at hk
  rw [List.getElem?_take] at hk
  split at hk
  · rename_i hlt
    rw [List.getElem?_drop] at hk
    have := h (f + k) (by omega) (by omega)
    unfold yAt at this
    rw [List.getD_eq_getElem?_getD, hk] at this
    exact this
  · cases hk
theorem lnC_drop {s : ByteArray} {f i : Nat} (h : f ≤ i) : s.data.toList.drop f = lnC' s f i ++ s.data.toList.drop i := by
  unfold lnC'
  conv => lhs; rw [← List.take_append_drop (i - f) (s.data.toList.drop f)]
  rw [List.drop_drop, show f + (i - f) = i by omega]
theorem LnI.skip {s : ByteArray} {ws : List (List UInt8)} {f i : Nat} (h : LnI s ws f i) (hi : i < s.size) (hb : yAt s i ≠ 10) : LnI s ws f (i + 1) := by
  rcases h with ⟨h1, h2, h3, h4, h5⟩ | ⟨h, _⟩
  · refine .inl ⟨by omega, by omega, h3, fun j hj hj2 => ?_, h5⟩
    by_cases e : j = i
    · subst e; exact hb
    · exact h4 j hj (by omega)
  · omega
theorem LnI.none {s : ByteArray} {ws : List (List UInt8)} (h : LnI s ws s.size s.size) : LnI s ws s.size (s.size + 1) := by
  rcases h with ⟨h1, h2, h3, h4, h5⟩ | ⟨h, _⟩
  · rw [List.drop_eq_nil_of_le (by rw [← Lib.size_eq]; exact Nat.le_refl _)] at h3
    exact .inr ⟨rfl, by omega, by rw [h3]; simp [lnsP, linesP_nil], by omega⟩
  · omega
theorem LnI.cut {s : ByteArray} {ws : List (List UInt8)} {f i : Nat} (h : LnI s ws f i) (hi : i < s.size) (hb : yAt s i = 10) : LnI s (ws ++ [Lib.trimSuffix (lnC' s f i) [13]]) (i + 1) (i + 1) := by
  rcases h with ⟨h1, h2, h3, h4, h5⟩ | ⟨h, _⟩
  · refine .inl ⟨Nat.le_refl _, by omega, ?_, fun j hj hj2 => by omega, by simp; omega⟩
    rw [h3, lnC_drop h1, yAt_drop s i hi, hb]
    unfold lnsP
    rw [lines_cons _ _ (lnC_no h4), List.map_cons, lnT, trims_end, List.append_assoc]
    rfl
  · omega
theorem LnI.last {s : ByteArray} {ws : List (List UInt8)} {f : Nat} (h : LnI s ws f s.size) (hf : f < s.size) : LnI s (ws ++ [Lib.trimSuffix (lnC' s f s.size) [13]]) (s.size + 1) (s.size + 1) := by
  rcases h with ⟨h1, h2, h3, h4, h5⟩ | ⟨h, _⟩
  · refine .inr ⟨rfl, Nat.le_refl _, ?_, by simp; omega⟩
    rw [h3, lnC_drop h1, List.drop_eq_nil_of_le (by rw [← Lib.size_eq]; exact Nat.le_refl _), List.append_nil]
    have hne : lnC' s f s.size ≠ [] := fun e => by
      have := congrArg List.length e
      have hln : s.data.toList.length = s.size := (Lib.size_eq s).symm
      simp only [lnC', List.length_take, List.length_drop, List.length_nil] at this
      omega
    unfold lnsP
    rw [lines_one _ (lnC_no h4), if_neg hne, List.map_singleton, lnT, trims10 _ (lnC_no h4)]
  · omega
theorem lnC_ext (s : ByteArray) (f i : Nat) : (s.extract f i).data.toList = lnC' s f i := by
  have := Lib.extract_toList s f i
  rw [ByteArray.toList_eq] at this
  exact this
theorem trim_yes {t : ByteArray} {n : Nat} (hn : t.size = n + 1) (hb : yAt t n = 13) : (t.extract 0 n).data.toList = Lib.trimSuffix t.data.toList [13] := by
  have h1 : t.data.toList = t.data.toList.take n ++ [13] := by
    have h := List.take_append_drop n t.data.toList
    rw [yAt_drop t n (by omega), hb, List.drop_eq_nil_of_le (by rw [← Lib.size_eq]; omega)] at h
    exact h.symm
  have h2 := Lib.extract_toList t 0 n
  rw [ByteArray.toList_eq] at h2
  rw [h2, List.drop_zero, Nat.sub_zero]
  conv => rhs; rw [h1]
  rw [trims_end]
theorem trim_no {t : ByteArray} {n : Nat} (hn : t.size = n + 1) (hb : yAt t n ≠ 13) : t.data.toList = Lib.trimSuffix t.data.toList [13] := by
  refine (trims_not 13 _ fun e => hb ?_).symm
  rw [List.getLast?_eq_getElem?, ← Lib.size_eq, hn, Nat.add_sub_cancel] at e
  unfold yAt
  rw [List.getD_eq_getElem?_getD, e]; rfl

theorem slFT (s : ByteArray) (f i : Nat) (h1 : f ≤ i) (h2 : i ≤ s.size) (X : World) : (Instr.sliceAt 9 (.string s) (some (.int .i64 (f : Nat))) (some (.int .i64 (i : Nat))) none).run Tryz.prog X = .ok (.string (s.extract f i)) X := by
  have q0 : (0 : Int) ≤ f := by omega
  have q1 : (f : Int) ≤ i := by omega
  have q2 : (i : Int) ≤ s.size := by omega
  go_simp
theorem slT0 (T : ByteArray) (i : Nat) (hT : i ≤ T.size) (X : World) : (Instr.sliceAt 9 (.string T) none (some (.int .i64 (i : Nat))) none).run Tryz.prog X = .ok (.string (T.extract 0 i)) X := by
  have q : (i : Int) ≤ T.size := by omega
  go_simp
set_option maxRecDepth 100000 in
set_option maxHeartbeats 4000000 in
theorem ylines (s : ByteArray) (w : World) (hs : s.size ≤ 1048000) :
    Calls Tryz.prog 60 #[.string s] w fun e w' => ∃ v, e = .returned v ∧ TxO w.heap.size v (lnsP s.data.toList) w' ∧ Below w.heap.size w w' := by
  go_enter Tryz.func60, Tryz.ntmps60
  go_wp2_with fail
  go_loopw [3, 4, 5] (fun u v x wr => ∃ (f i : Nat) (ws : List (List UInt8)), v = .int .i64 (f : Nat) ∧ x = .int .i64 (i : Nat) ∧ i ≤ s.size + 1 ∧ Hid (LnI s ws f i ∧ TxO w.heap.size u ws wr ∧ Below w.heap.size w wr)) (fun _ _ x _ => s.size + 1 - (RowKit.intOf x).toNat)
  case atStart => exact ⟨0, 0, [], rfl, rfl, Nat.zero_le _, Lib.hid ⟨.inl ⟨Nat.le_refl _, Nat.zero_le _, by rw [List.drop_zero]; rfl, fun j h1 h2 => by omega, Nat.le_refl _⟩, txo_nil _ _, Below.refl _ _⟩⟩
  case round =>
    obtain ⟨f, i, ws, rfl, rfl, hi, H⟩ := hrel
    by_cases hlt : i ≤ s.size
    · have e1 : (i : Int) ≤ s.size := by omega
      have hk1 : IntKind.i64.wrap ((i : Int) + 1) = ((i + 1 : Nat) : Int) := by rw [IntWalk.i64_in _ (by omega)]; omega
      have hfi : f ≤ i := by rcases H.out.1 with ⟨h, _⟩ | ⟨h, _⟩ <;> omega
      have hwl : ws.length ≤ 1048576 := by rcases H.out.1 with ⟨_, _, _, _, h⟩ | ⟨_, _, _, h⟩ <;> omega
      have APP := Lib.hid (fun c => H.out.2.1.app H.out.2.2.size hwl c)
      clear hwl
      by_cases hend : i = s.size
      · by_cases hf : f = i
        · subst hf
          have q1 : ((f : Int) == (s.size : Int)) = true := by simp; omega
          have q2 : ¬ (f : Int) < s.size := by omega
          have HE := Lib.hid (show LnI s ws f (f + 1) by rw [hend] at H ⊢; exact H.out.1.none)
          clear hend hlt hfi
          go_wp2
          go_roundw
          case rel => exact ⟨f, f + 1, ws, rfl, by go_num, by omega, Lib.hid ⟨HE.out, H.out.2.1, H.out.2.2⟩⟩
          case measure => simp [RowKit.intOf]; omega
        · have q1 : ((i : Int) == (s.size : Int)) = true := by simp; omega
          have q2 : ¬ (i : Int) < s.size := by omega
          have q3 : ((f : Int) == (i : Int)) = false := by rw [beq_eq_false_iff_ne]; omega
          have HE := Lib.hid (show LnI s (ws ++ [Lib.trimSuffix (lnC' s f i) [13]]) (i + 1) (i + 1) by rw [hend] at H ⊢; exact H.out.1.last (by omega))
          have HS := fun W => slFT s f i hfi hlt W
          obtain ⟨T, hT⟩ : ∃ T, s.extract f i = T := ⟨_, rfl⟩
          have hTl : T.data.toList = lnC' s f i := by rw [← hT]; exact lnC_ext s f i
          have hTz : T.size ≤ s.size := by rw [← hT, ByteArray.size_extract]; omega
          rw [hT] at HS
          have HTL := Lib.hid hTl
          clear hT hTl hlt hfi hend hf
          rcases Nat.eq_zero_or_pos T.size with hz | hz
          · have hT0 : T.data.toList = [] := List.length_eq_zero_iff.1 (by rw [← Lib.size_eq]; exact hz)
            obtain rfl := byt_nil hT0
            obtain ⟨v', W', hrun, ht', hb'⟩ := APP.out ⟨#[]⟩
            have HRun := Lib.hid hrun
            have HN : Hid (Lib.trimSuffix (lnC' s f i) [13] = []) := Lib.hid (by rw [← HTL.out]; rfl)
            have HB' := Lib.hid (And.intro ht' (H.out.2.2.trans hb'))
            clear hrun ht' hb' hz hT0 hTz
            go_wp2_with (first | (at_builtin; refine wpList_append_eq rfl rfl rfl rfl HRun.out ?_; clear HRun) | fail)
            go_roundw
            case rel => exact ⟨i + 1, i + 1, _, by go_num, by go_num, by omega, Lib.hid ⟨by have := HE.out; rwa [HN.out] at this, HB'.out.1, HB'.out.2⟩⟩
            case measure => simp [RowKit.intOf]; omega
          · obtain ⟨n, hn⟩ : ∃ n, T.size = n + 1 := ⟨T.size - 1, by omega⟩
            have hie : T.toList.isEmpty = false := by
              rw [ByteArray.toList_eq]
              cases h9 : T.data.toList with
              | nil => exact absurd ((Lib.size_eq T).trans (congrArg List.length h9)) (by rw [hn]; simp)
              | cons _ _ => rfl
            have hw2 : IntKind.i64.wrap ((T.size : Int) - 1) = (n : Nat) := by rw [IntWalk.i64_in _ (by omega)]; omega
            have HI2 := fun W => yAt_run T n (by omega) W
            obtain ⟨c, hc⟩ : ∃ c : Int, ((yAt T n).toNat : Int) = c := ⟨_, rfl⟩
            rw [hc] at HI2
            by_cases h13 : c = 13
            · subst h13
              have HS2 := fun W => slT0 T n (by omega) W
              have hT2 := trim_yes hn (byt_is (k := 13) (by decide) hc)
              obtain ⟨T2, hTT⟩ : ∃ T2, T.extract 0 n = T2 := ⟨_, rfl⟩
              rw [hTT] at HS2 hT2
              obtain ⟨v', W', hrun, ht', hb'⟩ := APP.out T2
              have HRun := Lib.hid hrun
              have HN : Hid (Lib.trimSuffix (lnC' s f i) [13] = T2.data.toList) := Lib.hid (by rw [← HTL.out, hT2])
              have HB' := Lib.hid (And.intro ht' (H.out.2.2.trans hb'))
              clear hrun ht' hb' hz hc hTT hT2 hn hTz
              go_wp2_with (first | (at_builtin; refine wpList_append_eq rfl rfl rfl rfl HRun.out ?_; clear HRun) | fail)
              go_roundw
              case rel => exact ⟨i + 1, i + 1, _, by go_num, by go_num, by omega, Lib.hid ⟨by have := HE.out; rwa [HN.out] at this, HB'.out.1, HB'.out.2⟩⟩
              case measure => simp [RowKit.intOf]; omega
            · have r13 : (c == 13) = false := beq_eq_false_iff_ne.2 h13
              have hT2 := trim_no hn (fun e => h13 (by rw [← hc, e]; rfl))
              obtain ⟨v', W', hrun, ht', hb'⟩ := APP.out T
              have HRun := Lib.hid hrun
              have HN : Hid (Lib.trimSuffix (lnC' s f i) [13] = T.data.toList) := Lib.hid (by rw [← HTL.out]; exact hT2.symm)
              have HB' := Lib.hid (And.intro ht' (H.out.2.2.trans hb'))
              clear hrun ht' hb' hz hc hT2 hn hTz
              go_wp2_with (first | (at_builtin; refine wpList_append_eq rfl rfl rfl rfl HRun.out ?_; clear HRun) | fail)
              go_roundw
              case rel => exact ⟨i + 1, i + 1, _, by go_num, by go_num, by omega, Lib.hid ⟨by have := HE.out; rwa [HN.out] at this, HB'.out.1, HB'.out.2⟩⟩
              case measure => simp [RowKit.intOf]; omega
      · have hlt2 : i < s.size := by omega
        have q1 : ((i : Int) == (s.size : Int)) = false := by rw [beq_eq_false_iff_ne]; omega
        have q2 : (i : Int) < s.size := by omega
        have HI := fun W => yAt_run s i hlt2 W
        obtain ⟨b, hb⟩ : ∃ b : Int, ((yAt s i).toNat : Int) = b := ⟨_, rfl⟩
        rw [hb] at HI
        by_cases h10 : b = 10
        · subst h10
          have HE := Lib.hid (H.out.1.cut hlt2 (byt_is (k := 10) (by decide) hb))
          clear hb
          have HS := fun W => slFT s f i hfi hlt W
          obtain ⟨T, hT⟩ : ∃ T, s.extract f i = T := ⟨_, rfl⟩
          have hTl : T.data.toList = lnC' s f i := by rw [← hT]; exact lnC_ext s f i
          have hTz : T.size ≤ s.size := by rw [← hT, ByteArray.size_extract]; omega
          rw [hT] at HS
          have HTL := Lib.hid hTl
          clear hT hTl hlt hfi hend
          rcases Nat.eq_zero_or_pos T.size with hz | hz
          · have hT0 : T.data.toList = [] := List.length_eq_zero_iff.1 (by rw [← Lib.size_eq]; exact hz)
            obtain rfl := byt_nil hT0
            obtain ⟨v', W', hrun, ht', hb'⟩ := APP.out ⟨#[]⟩
            have HRun := Lib.hid hrun
            have HN : Hid (Lib.trimSuffix (lnC' s f i) [13] = []) := Lib.hid (by rw [← HTL.out]; rfl)
            have HB' := Lib.hid (And.intro ht' (H.out.2.2.trans hb'))
            clear hrun ht' hb' hz hT0 hTz
            go_wp2_with (first | (at_builtin; refine wpList_append_eq rfl rfl rfl rfl HRun.out ?_; clear HRun) | fail)
            go_roundw
            case rel => exact ⟨i + 1, i + 1, _, by go_num, by go_num, by omega, Lib.hid ⟨by have := HE.out; rwa [HN.out] at this, HB'.out.1, HB'.out.2⟩⟩
            case measure => simp [RowKit.intOf]; omega
          · obtain ⟨n, hn⟩ : ∃ n, T.size = n + 1 := ⟨T.size - 1, by omega⟩
            have hie : T.toList.isEmpty = false := by
              rw [ByteArray.toList_eq]
              cases h9 : T.data.toList with
              | nil => exact absurd ((Lib.size_eq T).trans (congrArg List.length h9)) (by rw [hn]; simp)
              | cons _ _ => rfl
            have hw2 : IntKind.i64.wrap ((T.size : Int) - 1) = (n : Nat) := by rw [IntWalk.i64_in _ (by omega)]; omega
            have HI2 := fun W => yAt_run T n (by omega) W
            obtain ⟨c, hc⟩ : ∃ c : Int, ((yAt T n).toNat : Int) = c := ⟨_, rfl⟩
            rw [hc] at HI2
            by_cases h13 : c = 13
            · subst h13
              have HS2 := fun W => slT0 T n (by omega) W
              have hT2 := trim_yes hn (byt_is (k := 13) (by decide) hc)
              obtain ⟨T2, hTT⟩ : ∃ T2, T.extract 0 n = T2 := ⟨_, rfl⟩
              rw [hTT] at HS2 hT2
              obtain ⟨v', W', hrun, ht', hb'⟩ := APP.out T2
              have HRun := Lib.hid hrun
              have HN : Hid (Lib.trimSuffix (lnC' s f i) [13] = T2.data.toList) := Lib.hid (by rw [← HTL.out, hT2])
              have HB' := Lib.hid (And.intro ht' (H.out.2.2.trans hb'))
              clear hrun ht' hb' hz hc hTT hT2 hn hTz
              go_wp2_with (first | (at_builtin; refine wpList_append_eq rfl rfl rfl rfl HRun.out ?_; clear HRun) | fail)
              go_roundw
              case rel => exact ⟨i + 1, i + 1, _, by go_num, by go_num, by omega, Lib.hid ⟨by have := HE.out; rwa [HN.out] at this, HB'.out.1, HB'.out.2⟩⟩
              case measure => simp [RowKit.intOf]; omega
            · have r13 : (c == 13) = false := beq_eq_false_iff_ne.2 h13
              have hT2 := trim_no hn (fun e => h13 (by rw [← hc, e]; rfl))
              obtain ⟨v', W', hrun, ht', hb'⟩ := APP.out T
              have HRun := Lib.hid hrun
              have HN : Hid (Lib.trimSuffix (lnC' s f i) [13] = T.data.toList) := Lib.hid (by rw [← HTL.out]; exact hT2.symm)
              have HB' := Lib.hid (And.intro ht' (H.out.2.2.trans hb'))
              clear hrun ht' hb' hz hc hT2 hn hTz
              go_wp2_with (first | (at_builtin; refine wpList_append_eq rfl rfl rfl rfl HRun.out ?_; clear HRun) | fail)
              go_roundw
              case rel => exact ⟨i + 1, i + 1, _, by go_num, by go_num, by omega, Lib.hid ⟨by have := HE.out; rwa [HN.out] at this, HB'.out.1, HB'.out.2⟩⟩
              case measure => simp [RowKit.intOf]; omega
        · have r10 : (b == 10) = false := beq_eq_false_iff_ne.2 h10
          have HE := Lib.hid (H.out.1.skip hlt2 (fun e => h10 (by rw [← hb, e]; rfl)))
          clear hb hend hlt hfi
          go_wp2
          go_roundw
          case rel => exact ⟨f, i + 1, ws, rfl, by go_num, by omega, Lib.hid ⟨HE.out, H.out.2.1, H.out.2.2⟩⟩
          case measure => simp [RowKit.intOf]; omega
    · have e1 : ¬ (i : Int) ≤ s.size := by omega
      have HE : Hid (lnsP s.data.toList = ws) := Lib.hid (by rcases H.out.1 with ⟨_, h, _⟩ | ⟨_, _, h, _⟩; omega; exact h)
      clear hlt
      go_wp2
      go_ret
      exact ⟨_, rfl, by rw [HE.out]; exact H.out.2.1, H.out.2.2⟩
end Go.Proofs.YthhepebkfokddaaGreatDoor
