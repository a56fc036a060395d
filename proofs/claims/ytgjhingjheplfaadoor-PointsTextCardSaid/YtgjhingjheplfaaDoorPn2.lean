/- Of every list of numbers, PointsText answers true (the text, or the error and its place; what was handed in is as it was), in any world in which the package's variables are laid: the row and the card. -/
import Derived.Test.YtgjhingjheplfaaDoorCards
import Derived.Test.YtgjhingjheplfaaDoorWb
import Derived.Test.YtgjhingjheplfaaDoorPi
namespace Go.Proofs.YtgjhingjheplfaaDoor
open Go.ChangeShapes Go.WideShapes Go.ChangeAt Go.RowKit Go.Kt
set_option maxRecDepth 100000

theorem cells_l_pointsText : Tryd.prog.cellsOf 21 = 1 := by kernel_rfl
theorem bytes_l_pointsText : Tryd.prog.bytesOf 21 = 4 := by kernel_rfl
theorem laidOut_pointsText : laidOutB Tryd.prog = true := by kernel_rfl

theorem pointsText_lifted (os : Os) (started : os.Started) (H : Type) (enc : TypeId × Value → H) (F : Stop.Interp) :
    ReturnsInHanded {} Tryd.checked os 7 .any ((OpenSpec.ofChange Rows.pointsTextSpec).preRow enc Tryd.prog Tryd.f7 Rows.pointsTextRow.domain false Rows.pointsTextRow.laid) (((OpenSpec.ofChange Rows.pointsTextSpec).at F).post enc Tryd.prog Tryd.f7 false true false false) := by
  refine returnsInHanded_of_row (C := Tryd.checked) (s := OpenSpec.ofChange Rows.pointsTextSpec) own started (by kernel_rfl) Tryd.func7
    (witness_row_at (enc := enc) (C := Tryd.checked) false (world3 os) #[.slice none 0 0] (world3_os _) (by kernel_rfl) (by kernel_rfl) (by kernel_rfl)
      (OpenSpec.preRow_of_cond (x := ([.nil], [], [])) 8 (by kernel_rfl) (by kernel_rfl) (fun k hk => by cases hk) (by kernel_rfl) (laid_met3 os _))) ?_
  intro W base args ds gs before hval0 hW _ _ hz hL _ _
  have hval : ∀ (j : Nat) t v, Tryd.f7.params[j]? = some t → args[j]? = some v → Value.okWide Tryd.prog W .any base t v := hval0
  have hW' := hW
  obtain ⟨p, q, hA0, hV, rfl, _, _⟩ := hW
  have hA : DataW.TrodAll enc Tryd.prog W 0 (fun _ => true) true Tryd.f7.params.toList args.toList ds p := hA0
  rw [Tryd.params7] at hA hval
  obtain ⟨v0, d0, rfl, rfl, h0⟩ := trodAll_one hA
  obtain ⟨rfl, rfl⟩ := trodVars_none hV
  have hltp : ∀ x ∈ p, x.block < W.heap.size := fun x hx => by simpa using hW'.lt x (by simp [hx])
  have hk0 := h0
  obtain ⟨fuel0, hf0⟩ := h0
  obtain ⟨ad0, len0, cap0, rfl⟩ := okWide_slice Tryd.underlying23 (hval 0 23 v0 rfl rfl)
  obtain ⟨l0, hS0, hw0, hlen0, hd0⟩ : ∃ l : List Int, Slg .i32 W (.slice ad0 len0 cap0) l ∧ (∀ x ∈ l, -2147483648 ≤ x ∧ x ≤ 2147483647) ∧ l.length ≤ 35184372087808 ∧ l.length = len0 := by
    rcases open_ints Tryd.underlying23 Tryd.underlying21 cells_l_pointsText hf0 with ⟨hcs, hx⟩ | ⟨a, len', cap', zs, hcs, _, hl, hm, hz', hx, hcell, hwz⟩
    · simp [Value.cells] at hcs
      obtain ⟨rfl, rfl, rfl⟩ := hcs
      exact ⟨[], ⟨none, 0, rfl, .inl rfl⟩, by simp, by simp, rfl⟩
    · simp [Value.cells] at hcs
      obtain ⟨rfl, rfl, rfl⟩ := hcs
      simp only [Prod.mk.injEq] at hx
      obtain ⟨rfl, rfl⟩ := hx
      simp only [if_true] at hz'
      have hreach := sized_slice hz (j := 0) (t := 23) (e := 21) rfl rfl Tryd.underlying23
      rw [show Tryd.checked.prog.bytesOf 21 = 4 from bytes_l_pointsText] at hreach
      have hlz : len0 ≤ zs.length := by omega
      have htl : (zs.take len0).length = len0 := by rw [List.length_take]; omega
      have h2l : (lits (H := H) .i32 (zs.take len0)).length = len0 := by simp [lits]; omega
      rw [h2l] at hreach
      unfold reachBytes at hreach
      refine ⟨zs.take len0, ⟨some a, cap0, by rw [htl], .inr ⟨a, rfl, fun i x hx => ?_⟩⟩, fun x hx => ?_, by omega, htl⟩
      · have hi : i < len0 := by have := (List.getElem?_eq_some_iff.1 hx).1; omega
        rw [List.getElem?_take, if_pos hi] at hx
        rw [hcell i (by omega), List.getD_eq_getElem?_getD, hx]
        rfl
      · have := hwz x (List.mem_of_mem_take hx)
        simpa [Lit.wf, IntKind.min, IntKind.max, IntKind.signed, IntKind.bits] using this
  have hE := of_laid3 hL
  clear hA0 hval0
  simp only [List.append_nil] at hW'
  refine (ptext_walk _ l0 W hE hS0 hw0 hlen0).mono fun e W' ⟨he, hb⟩ => ?_
  subst he
  have hargs0 : DataW.Trod enc Tryd.prog W' 0 (fun b => decide (b < W.heap.size)) true 23 (.slice ad0 len0 cap0) d0 p :=
    Below.trod laidOut_pointsText (by kernel_rfl) (of_decide_eq_true (by kernel_rfl)) hk0 hb (fun x hx => hltp x (by simp [hx]))
  exact ⟨_, rfl, _, _, _, [], _, [], hW', trodAll_mk1 (shut_bool Tryd.underlying4 _), (trodAll_mk1 hargs0), rfl, hb.frame _, fun h => by cases h⟩

theorem pointsText_said : Rows.PointsTextSaid :=
  OpenClaim.holds_of_cond 7 Tryd.f7 rfl rfl rfl rfl rfl rfl rfl ⟨rfl, rfl, rfl, rfl, rfl⟩ rfl rfl rfl rfl rfl (by kernel_rfl) Tryd.func7 (by kernel_rfl)
    (of_decide_eq_true (by kernel_rfl)) (by unfold Func.isWrapper; first | (rw [if_pos (by decide +kernel)]; kernel_rfl) | (rw [if_neg (by decide +kernel)]; exact ⟨rfl, rfl⟩))
    (fun os started H enc _ F => by rw [OpenClaim.pre_eq_preRow]; exact pointsText_lifted os started H enc F)

theorem pointsText_plain (f : FuncId) (fn : Func) (hf : Tryd.pinned.checked.prog.funcNamed "glossary/glossarylaw02.PointsText" = some f) (hfn : Tryd.pinned.checked.prog.funcs[f]? = some fn) :
    true = Tryd.pinned.checked.prog.looks [] ∧ ∀ (j : Nat) t, fn.params[j]? = some t → Tryd.pinned.checked.prog.wantsStandIn t = false := by
  obtain rfl : f = 7 := Option.some.inj ((show Tryd.prog.funcNamed "glossary/glossarylaw02.PointsText" = some 7 by kernel_rfl).symm.trans hf) |>.symm
  obtain rfl : fn = Tryd.f7 := (Option.some.inj (Tryd.func7.symm.trans hfn)).symm
  refine ⟨by kernel_rfl, fun j t ht => ?_⟩
  rw [Tryd.params7] at ht
  have hm : t ∈ [23] := by simpa using Array.mem_of_getElem? ht
  have hall : ([23].all fun u => !Tryd.prog.wantsStandIn u) = true := by kernel_rfl
  exact (show Tryd.prog.wantsStandIn t = false by simpa using List.all_eq_true.1 hall t hm)

theorem pointsText_card : Rows.PointsTextCardSaid :=
  Claim7.holds_tied_plain_at .later [] _ _ _ _ pointsText_said (fun _ h => by cases h) (by kernel_rfl) (fun _ h => by cases h) pointsText_row_tie rfl ⟨rfl, rfl⟩ (by kernel_rfl) rfl pointsText_plain (by kernel_rfl)

end Go.Proofs.YtgjhingjheplfaaDoor
