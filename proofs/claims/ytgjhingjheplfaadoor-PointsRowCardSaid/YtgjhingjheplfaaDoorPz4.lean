/- Of every list of runes, PointsRow answers true: Go's own conversions of characters agree with the points, there and back; any world in which the package's variables are laid. -/
import Derived.Test.YtgjhingjheplfaaDoorCj
import Derived.Test.YtgjhingjheplfaaDoorCe
import Derived.Test.YtgjhingjheplfaaDoorPi
import Derived.Test.YtgjhingjheplfaaDoorCards
import Derived.Test.YtgjhingjheplfaaDoorWb
/- Go's own conversion of a text to runes, as it lies in memory. -/
namespace Go.Proofs.YtgjhingjheplfaaDoor
open Go Go.RowKit Go.Kt Go.Shelf

/-- What '[]rune(s)' leaves behind. -/
def rcap (s : ByteArray) (w : World) : Nat := grownCap w (units s).length 0 21
def rworld (s : ByteArray) (w : World) : World := w.drew.alloc (.cells ((runeCells s).toArray ++ Array.replicate (grownCap w (units s).length 0 21 - (units s).length) (.int .i32 0)) 21)
theorem runes_conv (s : ByteArray) (h46 : (units s).length ≤ 70368744177664) (w : World) :
    (convert 9 23 (.string s)).run Tryd.prog w = .ok (.slice (some ⟨w.heap.size, 0, none⟩) (units s).length (rcap s w)) (rworld s w) := by
  have hr := run_runes_of_string (P := Tryd.prog) w 9 23 21 s Tryd.underlying9 Tryd.underlying23 Tryd.underlying21 (by rw [runesFrom_units]; simp [runeCells_len]; omega)
  rw [runesFrom_units] at hr
  have hl : (runeCells s).toArray.size = (units s).length := by simp [runeCells_len]
  rw [hl] at hr
  exact hr
theorem rworld_below (s : ByteArray) (w : World) : Below w.heap.size w (rworld s w) := (Below.refl _ w).drew.alloc (Nat.le_refl _) _
theorem rworld_sl (s : ByteArray) (h46 : (units s).length ≤ 70368744177664) (w : World) : Sl .i32 (rworld s w) (.slice (some ⟨w.heap.size, 0, none⟩) (units s).length (rcap s w)) (numsI s) := by
  have hge := grownCap_ge w (units s).length 0 21
  have := ownsRow_laid w.drew (runeCells s) (List.replicate (grownCap w (units s).length 0 21 - (units s).length) (.int .i32 0)) 21 (units s).length (runeCells_len s) (by
      have := grownCap_le_maxLen w (units s).length 0 21 (by unfold maxLen; omega)
      simp; omega)
  rw [runeCells_I] at this
  refine sl_of_own (Y := fun b => b = w.heap.size) (e := 21) (n := (units s).length) ?_ (numsI_len s)
  unfold rworld rcap
  rw [runeCells_I]
  simpa [Nat.add_sub_cancel' hge] using this
theorem runes_back (s : ByteArray) (h46 : (units s).length ≤ 70368744177664) (w : World) :
    (convert 23 9 (.slice (some ⟨w.heap.size, 0, none⟩) (units s).length (rcap s w))).run Tryd.prog (rworld s w) = .ok (.string (runesBytes (numsI s))) (rworld s w) :=
  text_run _ _ _ (rworld_sl s h46 w)

end Go.Proofs.YtgjhingjheplfaaDoor
/- The walk of PointsRow. -/
namespace Go.Proofs.YtgjhingjheplfaaDoor
open Go Go.RowKit Go.Kt Go.Shelf

theorem char_point {x : Int} (h : charB x = true) : pointB x = true := by unfold pointB; rw [h]; rfl
theorem runesB_eq (l : List Int) (h : ∀ x ∈ l, charB x = true) : (⟨(textP l).toArray⟩ : ByteArray) = runesBytes l := by
  rw [textP_chars l h]

set_option maxRecDepth 100000 in
set_option maxHeartbeats 1000000 in
theorem prow_walk (v : Value) (l : List Int) (w : World) (hE : Env w) (h : Slg .i32 w v l) (hw : ∀ x ∈ l, -2147483648 ≤ x ∧ x ≤ 2147483647) (hl : l.length ≤ 35184372087808) :
    Calls Tryd.prog 12 #[v] w fun e w' => e = .returned (.bool true) ∧ Below w.heap.size w w' := by
  have HE := Lib.hid hE
  have CW := Lib.hid (works2_any w hE)
  have H := Lib.hid h
  have HW := Lib.hid hw
  obtain ⟨av, cv, rfl, h0⟩ := h
  clear hE hw
  go_enter Tryd.func12, Tryd.ntmps12
  go_wp2
  go_loop [3] (fun i => ∃ k : Nat, k ≤ l.length ∧ i = .int .i64 k ∧ ∀ j x, j < k → l[j]? = some x → charB x = true) (fun i => l.length - (RowKit.intOf i).toNat)
  case atStart => exact ⟨0, by omega, rfl, fun j x hj => by omega⟩
  case round =>
    obtain ⟨k, hk, rfl, hgood⟩ := hrel
    have HG := Lib.hid hgood
    clear hgood
    by_cases hlt : k < l.length
    · obtain ⟨a, rfl, ha⟩ : ∃ a : Addr, av = some a ∧ ∀ i x, l[i]? = some x → w.cell? (a.add i) = some (.int .i32 x) := by
        rcases h0 with h | h
        · subst h; simp at hlt
        · exact h
      obtain ⟨x, hx⟩ : ∃ x, l[k]? = some x := ⟨l[k], List.getElem?_eq_getElem hlt⟩
      have p1 := ha k x hx
      have hxr := HW.out x (List.mem_of_getElem? hx)
      have HX := Lib.hid hx
      clear ha hx h0
      have next : charB x = true → ∀ j y, j < k + 1 → l[j]? = some y → charB y = true := fun hc j y hj hy => by
        rcases Nat.lt_or_ge j k with h | h
        · exact HG.out j y h hy
        · obtain rfl : j = k := by omega
          rw [HX.out] at hy
          rw [← Option.some.inj hy]; exact hc
      have NX := Lib.hid next
      clear next
      by_cases x1 : x < 0
      · go_wp2_with fail
        refine CW.out.mono ?_
        rintro e w1 ⟨rfl, hb1⟩
        go_wp2
        go_ret
        exact ⟨rfl, hb1⟩
      by_cases x2 : 1114111 < x
      · go_wp2_with fail
        refine CW.out.mono ?_
        rintro e w1 ⟨rfl, hb1⟩
        go_wp2
        go_ret
        exact ⟨rfl, hb1⟩
      by_cases x3 : x < 55296
      · have hc := Lib.hid ((charB_iff x).2 (by omega))
        go_wp2
        go_round
        case rel => exact ⟨k + 1, by omega, by go_num, NX.out hc.out⟩
        case measure => simp [RowKit.intOf]; omega
      by_cases x4 : x ≤ 57343
      · go_wp2_with fail
        refine CW.out.mono ?_
        rintro e w1 ⟨rfl, hb1⟩
        go_wp2
        go_ret
        exact ⟨rfl, hb1⟩
      · have hc := Lib.hid ((charB_iff x).2 (by omega))
        go_wp2
        go_round
        case rel => exact ⟨k + 1, by omega, by go_num, NX.out hc.out⟩
        case measure => simp [RowKit.intOf]; omega
    · have hke : k = l.length := by omega
      have hall : ∀ x ∈ l, charB x = true := fun x hx => by
        obtain ⟨j, hj⟩ := List.mem_iff_getElem?.1 hx
        exact HG.out j x (by have := (List.getElem?_eq_some_iff.1 hj).1; omega) hj
      have C1 := Lib.hid (ptsText_any _ l l.length w H.out HW.out hl (firstBad_all fun x hx => char_point (hall x hx)))
      have HT := Lib.hid (runesB_eq l hall)
      have hun : (units (runesBytes l)).length = l.length := by rw [← pts_len, row_pts l hall]
      have hsz := runesBytes_size_le l
      have HP := Lib.hid (row_pts l hall)
      have HN := Lib.hid (row_ok l hall).2
      have HU := Lib.hid hun
      clear hke hall h0 hun
      go_wp2_with fail
      refine C1.out.mono ?_
      rintro e w1 ⟨(⟨_, rfl⟩ | ⟨h, _⟩), hb1⟩
      · rw [HT.out]
        have hz1 := hb1.size
        have H1 := H.out.below hb1
        have cV := textg_run _ l w1 H1
        have C2 := Lib.hid (ptsOf_any (runesBytes l) w1 (HE.out.below HE.out.lt hb1).tabs (by have := HE.out.lt; omega) (by omega) (by rw [HU.out]; exact hl))
        generalize hTx : runesBytes l = T at *
        have e1 : (T.toList != T.toList) = false := by simp
        have HB1 := Lib.hid (And.intro hb1 H1)
        clear hb1 H1
        go_wp2_with fail
        refine C2.out.mono ?_
        rintro e w2 ⟨ao, cap, rfl, hown2, hb2⟩
        clear cV
        rw [HP.out] at hown2 ⊢
        have hS2 : Sl .i32 w2 (.slice ao l.length cap) l := sl_of_own hown2 rfl
        have hb02 := HB1.out.1.trans (hb2.mono hz1)
        have hz2 := hb02.size
        have C3 := Lib.hid (sameRunes_g _ _ l l w2 hS2 (H.out.below hb02) (by omega) (by omega))
        have HB2 := Lib.hid hb02
        clear hS2 hown2 hb2 hb02
        go_wp2_with fail
        refine C3.out.mono ?_
        rintro e w3 ⟨rfl, hd3⟩
        have ed : decide (l = l) = true := by simp
        rw [ed]
        clear ed
        have hb03 := HB2.out.trans (hd3.below.mono hz2)
        have hz3 := hb03.size
        have hcv := runes_conv T (by rw [HU.out]; omega) w3
        have hr4 := (rworld_below T w3)
        have hS4 := rworld_sl T (by rw [HU.out]; omega) w3
        rw [HN.out] at hS4
        rw [HU.out] at hS4 hcv
        have hb04 := hb03.trans (hr4.mono hz3)
        have hz4 := hb04.size
        have C4 := Lib.hid (sameRunes_g _ _ l l (rworld T w3) hS4 (H.out.below hb04) (by omega) (by omega))
        have HB4 := Lib.hid hb04
        clear hS4 hr4 hd3 hb03 hb04
        generalize rworld T w3 = w4 at *
        generalize rcap T w3 = cp4 at *
        go_wp2_with fail
        refine C4.out.mono ?_
        rintro e w5 ⟨rfl, hd5⟩
        have ed : decide (l = l) = true := by simp
        rw [ed]
        clear ed hcv
        have hb05 := HB4.out.trans (hd5.below.mono hz4)
        have C5 := Lib.hid (works2_any w5 (HE.out.below HE.out.lt hb05))
        have HB5 := Lib.hid hb05
        clear hb05 hd5
        go_wp2_with fail
        refine C5.out.mono ?_
        rintro e w6 ⟨rfl, hb6⟩
        go_wp2
        go_ret
        exact ⟨rfl, HB5.out.trans (hb6.mono HB5.out.size)⟩
      · omega
end Go.Proofs.YtgjhingjheplfaaDoor
/- PointsRow: the row and the card. -/
namespace Go.Proofs.YtgjhingjheplfaaDoor
open Go.ChangeShapes Go.WideShapes Go.ChangeAt Go.RowKit Go.Kt
set_option maxRecDepth 100000

theorem cells_l_pointsRow : Tryd.prog.cellsOf 21 = 1 := by kernel_rfl
theorem bytes_l_pointsRow : Tryd.prog.bytesOf 21 = 4 := by kernel_rfl
theorem laidOut_pointsRow : laidOutB Tryd.prog = true := by kernel_rfl

theorem pointsRow_lifted (os : Os) (started : os.Started) (H : Type) (enc : TypeId × Value → H) (F : Stop.Interp) :
    ReturnsInHanded {} Tryd.checked os 12 .any ((OpenSpec.ofChange Rows.pointsRowSpec).preRow enc Tryd.prog Tryd.f12 Rows.pointsRowRow.domain false Rows.pointsRowRow.laid) (((OpenSpec.ofChange Rows.pointsRowSpec).at F).post enc Tryd.prog Tryd.f12 false true false false) := by
  refine returnsInHanded_of_row (C := Tryd.checked) (s := OpenSpec.ofChange Rows.pointsRowSpec) own started (by kernel_rfl) Tryd.func12
    (witness_row_at (enc := enc) (C := Tryd.checked) false (world3 os) #[.slice none 0 0] (world3_os _) (by kernel_rfl) (by kernel_rfl) (by kernel_rfl)
      (OpenSpec.preRow_of_cond (x := ([.nil], [], [])) 8 (by kernel_rfl) (by kernel_rfl) (fun k hk => by cases hk) (by kernel_rfl) (laid_met3 os _))) ?_
  intro W base args ds gs before hval0 hW _ _ hz hL _ _
  have hval : ∀ (j : Nat) t v, Tryd.f12.params[j]? = some t → args[j]? = some v → Value.okWide Tryd.prog W .any base t v := hval0
  have hW' := hW
  obtain ⟨p, q, hA0, hV, rfl, _, _⟩ := hW
  have hA : DataW.TrodAll enc Tryd.prog W 0 (fun _ => true) true Tryd.f12.params.toList args.toList ds p := hA0
  rw [Tryd.params12] at hA hval
  obtain ⟨v0, d0, rfl, rfl, h0⟩ := trodAll_one hA
  obtain ⟨rfl, rfl⟩ := trodVars_none hV
  have hltp : ∀ x ∈ p, x.block < W.heap.size := fun x hx => by simpa using hW'.lt x (by simp [hx])
  have hk0 := h0
  obtain ⟨fuel0, hf0⟩ := h0
  obtain ⟨ad0, len0, cap0, rfl⟩ := okWide_slice Tryd.underlying23 (hval 0 23 v0 rfl rfl)
  obtain ⟨l0, hS0, hw0, hlen0, hd0⟩ : ∃ l : List Int, Slg .i32 W (.slice ad0 len0 cap0) l ∧ (∀ x ∈ l, -2147483648 ≤ x ∧ x ≤ 2147483647) ∧ l.length ≤ 35184372087808 ∧ l.length = len0 := by
    rcases open_ints Tryd.underlying23 Tryd.underlying21 cells_l_pointsRow hf0 with ⟨hcs, hx⟩ | ⟨a, len', cap', zs, hcs, _, hl, hm, hz', hx, hcell, hwz⟩
    · simp [Value.cells] at hcs
      obtain ⟨rfl, rfl, rfl⟩ := hcs
      exact ⟨[], ⟨none, 0, rfl, .inl rfl⟩, by simp, by simp, rfl⟩
    · simp [Value.cells] at hcs
      obtain ⟨rfl, rfl, rfl⟩ := hcs
      simp only [Prod.mk.injEq] at hx
      obtain ⟨rfl, rfl⟩ := hx
      simp only [if_true] at hz'
      have hreach := sized_slice hz (j := 0) (t := 23) (e := 21) rfl rfl Tryd.underlying23
      rw [show Tryd.checked.prog.bytesOf 21 = 4 from bytes_l_pointsRow] at hreach
      have hlz : len0 ≤ zs.length := by omega
      have htl : (zs.take len0).length = len0 := by rw [List.length_take]; omega
      have h2l : (lits (H := H) .i32 (zs.take len0)).length = len0 := by simp [lits]; omega
      rw [h2l] at hreach
      unfold reachBytes at hreach
      refine ⟨zs.take len0, ⟨some a, cap0, by rw [htl], .inr ⟨a, rfl, fun i x hx => ?_⟩⟩, fun x hx => ?_, by omega, htl⟩
      · have hi : i < len0 := by have := (List.getElem?_eq_some_iff.1 hx).1; omega
        rw [List.getElem?_take, if_pos hi] at hx
        rw [hcell i (by omega), List.getD_eq_getElem?_getD, hx]
        rfl
      · have := hwz x (List.mem_of_mem_take hx)
        simpa [Lit.wf, IntKind.min, IntKind.max, IntKind.signed, IntKind.bits] using this
  have hE := of_laid3 hL
  clear hA0 hval0
  simp only [List.append_nil] at hW'
  refine (prow_walk _ l0 W hE hS0 hw0 hlen0).mono fun e W' ⟨he, hb⟩ => ?_
  subst he
  have hargs0 : DataW.Trod enc Tryd.prog W' 0 (fun b => decide (b < W.heap.size)) true 23 (.slice ad0 len0 cap0) d0 p :=
    Below.trod laidOut_pointsRow (by kernel_rfl) (of_decide_eq_true (by kernel_rfl)) hk0 hb (fun x hx => hltp x (by simp [hx]))
  exact ⟨_, rfl, _, _, _, [], _, [], hW', trodAll_mk1 (shut_bool Tryd.underlying4 _), (trodAll_mk1 hargs0), rfl, hb.frame _, fun h => by cases h⟩

theorem pointsRow_said : Rows.PointsRowSaid :=
  OpenClaim.holds_of_cond 12 Tryd.f12 rfl rfl rfl rfl rfl rfl rfl ⟨rfl, rfl, rfl, rfl, rfl⟩ rfl rfl rfl rfl rfl (by kernel_rfl) Tryd.func12 (by kernel_rfl)
    (of_decide_eq_true (by kernel_rfl)) (by unfold Func.isWrapper; first | (rw [if_pos (by decide +kernel)]; kernel_rfl) | (rw [if_neg (by decide +kernel)]; exact ⟨rfl, rfl⟩))
    (fun os started H enc _ F => by rw [OpenClaim.pre_eq_preRow]; exact pointsRow_lifted os started H enc F)

theorem pointsRow_plain (f : FuncId) (fn : Func) (hf : Tryd.pinned.checked.prog.funcNamed "glossary/glossarylaw02.PointsRow" = some f) (hfn : Tryd.pinned.checked.prog.funcs[f]? = some fn) :
    true = Tryd.pinned.checked.prog.looks [] ∧ ∀ (j : Nat) t, fn.params[j]? = some t → Tryd.pinned.checked.prog.wantsStandIn t = false := by
  obtain rfl : f = 12 := Option.some.inj ((show Tryd.prog.funcNamed "glossary/glossarylaw02.PointsRow" = some 12 by kernel_rfl).symm.trans hf) |>.symm
  obtain rfl : fn = Tryd.f12 := (Option.some.inj (Tryd.func12.symm.trans hfn)).symm
  refine ⟨by kernel_rfl, fun j t ht => ?_⟩
  rw [Tryd.params12] at ht
  have hm : t ∈ [23] := by simpa using Array.mem_of_getElem? ht
  have hall : ([23].all fun u => !Tryd.prog.wantsStandIn u) = true := by kernel_rfl
  exact (show Tryd.prog.wantsStandIn t = false by simpa using List.all_eq_true.1 hall t hm)

theorem pointsRow_card : Rows.PointsRowCardSaid :=
  Claim7.holds_tied_plain_at .later [] _ _ _ _ pointsRow_said (fun _ h => by cases h) (by kernel_rfl) (fun _ h => by cases h) pointsRow_row_tie rfl ⟨rfl, rfl⟩ (by kernel_rfl) rfl pointsRow_plain (by kernel_rfl)

end Go.Proofs.YtgjhingjheplfaaDoor
