/- Of every two lists of spans and every list of runes, RangesMade answers true (what two sets make together is what the document says, and what they are made of stays as it was), in any world in which the package's variables are laid: the row and the card. -/
import Derived.Test.YtmpjlenfnlijfaaGreatDoorCards
import Derived.Test.YtmpjlenfnlijfaaGreatDoorCm4
import Derived.Test.YtmpjlenfnlijfaaGreatDoorYe
namespace Go.Proofs.YtmpjlenfnlijfaaGreatDoor
open Go.ChangeShapes Go.WideShapes Go.ChangeAt Go.RowKit Go.Kt
set_option maxRecDepth 100000

theorem laidOut_rangesMade : laidOutB Tryz.prog = true := by kernel_rfl
theorem cells_l_rangesMade : Tryz.prog.cellsOf 21 = 1 := by kernel_rfl
theorem bytes_l_rangesMade : Tryz.checked.prog.bytesOf 21 = 4 := by kernel_rfl

theorem rangesMade_lifted (os : Os) (started : os.Started) (H : Type) (enc : TypeId × Value → H) (F : Stop.Interp) :
    ReturnsInHanded {} Tryz.checked os 4 .any ((OpenSpec.ofChange Rows.rangesMadeSpec).preRow enc Tryz.prog Tryz.f4 Rows.rangesMadeRow.domain false Rows.rangesMadeRow.laid) (((OpenSpec.ofChange Rows.rangesMadeSpec).at F).post enc Tryz.prog Tryz.f4 false true false false) := by
  refine returnsInHanded_of_row (C := Tryz.checked) (s := OpenSpec.ofChange Rows.rangesMadeSpec) own started (by kernel_rfl) Tryz.func4
    (witness_row_at (enc := enc) (C := Tryz.checked) false (world10 os) #[.slice none 0 0, .slice none 0 0, .slice none 0 0] (world10_os _) (by kernel_rfl) (by kernel_rfl) (by kernel_rfl)
      (OpenSpec.preRow_of_cond (x := ([.nil, .nil, .nil], [], [])) 8 (by kernel_rfl) (by kernel_rfl) (fun k hk => by cases hk) (by kernel_rfl) (laid_met10 os _))) ?_
  intro W base args ds gs before hval0 hW _ _ hz hL _ _
  have hval : ∀ (j : Nat) t v, Tryz.f4.params[j]? = some t → args[j]? = some v → Value.okWide Tryz.prog W .any base t v := hval0
  have hW' := hW
  obtain ⟨p, q, hA0, hV, rfl, _, _⟩ := hW
  have hA : DataW.TrodAll enc Tryz.prog W 0 (fun _ => true) true Tryz.f4.params.toList args.toList ds p := hA0
  rw [Tryz.params4] at hA hval
  obtain ⟨v0, v1, v2, d0, d1, d2, p0, p1, p2, rfl, rfl, rfl, h0, h1, h2⟩ := trodAll_three hA
  obtain ⟨rfl, rfl⟩ := trodVars_none hV
  have hltp : ∀ x ∈ p0 ++ p1 ++ p2, x.block < W.heap.size := fun x hx => by simpa using hW'.lt x (by simpa using hx)
  have hk0 := h0
  obtain ⟨fuel0, hf0⟩ := h0
  obtain ⟨ad0, len0, cap0, rfl⟩ := okWide_slice Tryz.underlying22 (hval 0 22 v0 rfl rfl)
  have hk1 := h1
  obtain ⟨fuel1, hf1⟩ := h1
  obtain ⟨ad1, len1, cap1, rfl⟩ := okWide_slice Tryz.underlying22 (hval 1 22 v1 rfl rfl)
  have hk2 := h2
  obtain ⟨fuel2, hf2⟩ := h2
  obtain ⟨ad2, len2, cap2, rfl⟩ := okWide_slice Tryz.underlying23 (hval 2 23 v2 rfl rfl)
  obtain ⟨l0, hS0, hw0, hlen0, hd0⟩ := open_spans (ad := ad0) (len := len0) (cap := cap0) hf0 (by simp [Value.cells])
  obtain ⟨l1, hS1, hw1, hlen1, hd1⟩ := open_spans (ad := ad1) (len := len1) (cap := cap1) hf1 (by simp [Value.cells])
  obtain ⟨l2, hS2, hw2, hlen2, hd2⟩ : ∃ l : List Int, Slg .i32 W (.slice ad2 len2 cap2) l ∧ (∀ x ∈ l, -2147483648 ≤ x ∧ x ≤ 2147483647) ∧ l.length ≤ 35184372087808 ∧ l.length = len2 := by
    rcases open_ints Tryz.underlying23 Tryz.underlying21 cells_l_rangesMade hf2 with ⟨hcs, hx⟩ | ⟨a, len', cap', zs, hcs, _, hl, hm, hz', hx, hcell, hwz⟩
    · simp [Value.cells] at hcs
      obtain ⟨rfl, rfl, rfl⟩ := hcs
      exact ⟨[], ⟨none, 0, rfl, .inl rfl⟩, by simp, by simp, rfl⟩
    · simp [Value.cells] at hcs
      obtain ⟨rfl, rfl, rfl⟩ := hcs
      simp only [Prod.mk.injEq] at hx
      obtain ⟨rfl, rfl⟩ := hx
      simp only [if_true] at hz'
      have hreach := sized_slice hz (j := 2) (t := 23) (e := 21) rfl rfl Tryz.underlying23
      rw [show Tryz.checked.prog.bytesOf 21 = 4 from bytes_l_rangesMade] at hreach
      have hlz : len2 ≤ zs.length := by omega
      have htl : (zs.take len2).length = len2 := by rw [List.length_take]; omega
      have h2l : (lits (H := H) .i32 (zs.take len2)).length = len2 := by simp [lits]; omega
      rw [h2l] at hreach
      unfold reachBytes at hreach
      refine ⟨zs.take len2, ⟨some a, cap2, by rw [htl], .inr ⟨a, rfl, fun i x hx => ?_⟩⟩, fun x hx => ?_, by omega, htl⟩
      · have hi : i < len2 := by have := (List.getElem?_eq_some_iff.1 hx).1; omega
        rw [List.getElem?_take, if_pos hi] at hx
        rw [hcell i (by omega), List.getD_eq_getElem?_getD, hx]
        rfl
      · have := hwz x (List.mem_of_mem_take hx)
        simpa [Lit.wf, IntKind.min, IntKind.max, IntKind.signed, IntKind.bits] using this
  have hE := of_laid10 hL
  clear hA0 hval0
  simp only [List.append_nil, List.append_assoc] at hW'
  refine (rmade_c l0 l1 l2 _ _ _ W hE hS0 hS1 hS2 hw0 hw1 hw2 (by omega)).mono fun e W' ⟨he, hb⟩ => ?_
  subst he
  have hargs0 : DataW.Trod enc Tryz.prog W' 0 (fun b => decide (b < W.heap.size)) true 22 (.slice ad0 len0 cap0) d0 p0 :=
    Below.trod laidOut_rangesMade (by kernel_rfl) (of_decide_eq_true (by kernel_rfl)) hk0 hb (fun x hx => hltp x (by simp [hx]))
  have hargs1 : DataW.Trod enc Tryz.prog W' 0 (fun b => decide (b < W.heap.size)) true 22 (.slice ad1 len1 cap1) d1 p1 :=
    Below.trod laidOut_rangesMade (by kernel_rfl) (of_decide_eq_true (by kernel_rfl)) hk1 hb (fun x hx => hltp x (by simp [hx]))
  have hargs2 : DataW.Trod enc Tryz.prog W' 0 (fun b => decide (b < W.heap.size)) true 23 (.slice ad2 len2 cap2) d2 p2 :=
    Below.trod laidOut_rangesMade (by kernel_rfl) (of_decide_eq_true (by kernel_rfl)) hk2 hb (fun x hx => hltp x (by simp [hx]))
  have hmk := trodAll_mk3 hargs0 hargs1 hargs2
  try simp only [List.append_nil] at hmk
  exact ⟨_, rfl, _, _, _, [], _, [], hW', trodAll_mk1 (shut_bool Tryz.underlying4 _), hmk, rfl, hb.frame _, fun h => by cases h⟩

theorem rangesMade_said : Rows.RangesMadeSaid :=
  OpenClaim.holds_of_cond 4 Tryz.f4 rfl rfl rfl rfl rfl rfl rfl ⟨rfl, rfl, rfl, rfl, rfl⟩ rfl rfl rfl rfl rfl (by kernel_rfl) Tryz.func4 (by kernel_rfl)
    (of_decide_eq_true (by kernel_rfl)) (by unfold Func.isWrapper; first | (rw [if_pos (by decide +kernel)]; kernel_rfl) | (rw [if_neg (by decide +kernel)]; exact ⟨rfl, rfl⟩))
    (fun os started H enc _ F => by rw [OpenClaim.pre_eq_preRow]; exact rangesMade_lifted os started H enc F)

theorem rangesMade_plain (f : FuncId) (fn : Func) (hf : Tryz.pinned.checked.prog.funcNamed "glossary/glossarylaw03.RangesMade" = some f) (hfn : Tryz.pinned.checked.prog.funcs[f]? = some fn) :
    true = Tryz.pinned.checked.prog.looks [] ∧ ∀ (j : Nat) t, fn.params[j]? = some t → Tryz.pinned.checked.prog.wantsStandIn t = false := by
  obtain rfl : f = 4 := Option.some.inj ((show Tryz.prog.funcNamed "glossary/glossarylaw03.RangesMade" = some 4 by kernel_rfl).symm.trans hf) |>.symm
  obtain rfl : fn = Tryz.f4 := (Option.some.inj (Tryz.func4.symm.trans hfn)).symm
  refine ⟨by kernel_rfl, fun j t ht => ?_⟩
  rw [Tryz.params4] at ht
  have hm : t ∈ [22, 22, 23] := by simpa using Array.mem_of_getElem? ht
  have hall : ([22, 22, 23].all fun u => !Tryz.prog.wantsStandIn u) = true := by kernel_rfl
  exact (show Tryz.prog.wantsStandIn t = false by simpa using List.all_eq_true.1 hall t hm)

theorem rangesMade_card : Rows.RangesMadeCardSaid :=
  Claim7.holds_tied_plain_at .later [] _ _ _ _ rangesMade_said (fun _ h => by cases h) (by kernel_rfl) (fun _ h => by cases h) rangesMade_row_tie rfl ⟨rfl, rfl⟩ (by kernel_rfl) rfl rangesMade_plain (by kernel_rfl)

end Go.Proofs.YtmpjlenfnlijfaaGreatDoor
