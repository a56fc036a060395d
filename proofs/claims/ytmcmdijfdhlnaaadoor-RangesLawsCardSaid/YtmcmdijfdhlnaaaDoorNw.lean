/- Of every three lists of spans and every rune, RangesLaws answers true, in any world in which the package's variables are laid: the row and the card. -/
import Derived.Test.YtmcmdijfdhlnaaaDoorCards
import Derived.Test.YtmcmdijfdhlnaaaDoorWe
import Derived.Test.YtmcmdijfdhlnaaaDoorWf
import Derived.Test.YtmcmdijfdhlnaaaDoorNv
namespace Go.Proofs.YtmcmdijfdhlnaaaDoor
open Go.ChangeShapes Go.WideShapes Go.ChangeAt Go.RowKit Go.Kt
set_option maxRecDepth 100000

theorem laidOut_rangesLaws : laidOutB Tryd.prog = true := by kernel_rfl

theorem rangesLaws_lifted (os : Os) (started : os.Started) (H : Type) (enc : TypeId × Value → H) (F : Stop.Interp) :
    ReturnsInHanded {} Tryd.checked os 3 .any ((OpenSpec.ofChange Rows.rangesLawsSpec).preRow enc Tryd.prog Tryd.f3 Rows.rangesLawsRow.domain false Rows.rangesLawsRow.laid) (((OpenSpec.ofChange Rows.rangesLawsSpec).at F).post enc Tryd.prog Tryd.f3 false true false false) := by
  refine returnsInHanded_of_row (C := Tryd.checked) (s := OpenSpec.ofChange Rows.rangesLawsSpec) own started (by kernel_rfl) Tryd.func3
    (witness_row_at (enc := enc) (C := Tryd.checked) false (world5 os) #[.slice none 0 0, .slice none 0 0, .slice none 0 0, .int .i32 0] (world5_os _) (by kernel_rfl) (by kernel_rfl) (by kernel_rfl)
      (OpenSpec.preRow_of_cond (x := ([.nil, .nil, .nil, .lit (.int .i32 0)], [], [])) 8 (by kernel_rfl) (by kernel_rfl) (fun k hk => by cases hk) (by kernel_rfl) (laid_met5 os _))) ?_
  intro W base args ds gs before hval0 hW _ _ hz hL _ _
  have hval : ∀ (j : Nat) t v, Tryd.f3.params[j]? = some t → args[j]? = some v → Value.okWide Tryd.prog W .any base t v := hval0
  have hW' := hW
  obtain ⟨p, q, hA0, hV, rfl, _, _⟩ := hW
  have hA : DataW.TrodAll enc Tryd.prog W 0 (fun _ => true) true Tryd.f3.params.toList args.toList ds p := hA0
  rw [Tryd.params3] at hA hval
  obtain ⟨v0, v1, v2, v3, d0, d1, d2, d3, p0, p1, p2, p3, rfl, rfl, rfl, h0, h1, h2, h3⟩ := trodAll_four hA
  obtain ⟨rfl, rfl⟩ := trodVars_none hV
  have hltp : ∀ x ∈ p0 ++ p1 ++ p2 ++ p3, x.block < W.heap.size := fun x hx => by simpa using hW'.lt x (by simpa using hx)
  have hk0 := h0
  obtain ⟨fuel0, hf0⟩ := h0
  obtain ⟨ad0, len0, cap0, rfl⟩ := okWide_slice Tryd.underlying22 (hval 0 22 v0 rfl rfl)
  obtain ⟨l0, hS0, hw0, hlen0, hd0⟩ := open_spans (ad := ad0) (len := len0) (cap := cap0) hf0 (by simp [Value.cells])
  have hk1 := h1
  obtain ⟨fuel1, hf1⟩ := h1
  obtain ⟨ad1, len1, cap1, rfl⟩ := okWide_slice Tryd.underlying22 (hval 1 22 v1 rfl rfl)
  obtain ⟨l1, hS1, hw1, hlen1, hd1⟩ := open_spans (ad := ad1) (len := len1) (cap := cap1) hf1 (by simp [Value.cells])
  have hk2 := h2
  obtain ⟨fuel2, hf2⟩ := h2
  obtain ⟨ad2, len2, cap2, rfl⟩ := okWide_slice Tryd.underlying22 (hval 2 22 v2 rfl rfl)
  obtain ⟨l2, hS2, hw2, hlen2, hd2⟩ := open_spans (ad := ad2) (len := len2) (cap := cap2) hf2 (by simp [Value.cells])
  obtain ⟨a3, rfl, rfl, rfl, w3⟩ := open_int Tryd.underlying21 (hval 3 21 v3 rfl rfl) h3
  have z3 : -2147483648 ≤ a3 ∧ a3 ≤ 2147483647 := by simpa [Lit.wf, IntKind.min, IntKind.max, IntKind.signed, IntKind.bits] using w3
  have hE := of_laid5 hL
  clear hA0 hval0
  simp only [List.append_nil, List.append_assoc] at hW'
  refine (rlaws_c _ l0 _ l1 _ l2 a3 W hE hS0 hw0 hlen0 hS1 hw1 hlen1 hS2 hw2 hlen2 z3).mono fun e W' ⟨he, hb⟩ => ?_
  subst he
  have hargs0 : DataW.Trod enc Tryd.prog W' 0 (fun b => decide (b < W.heap.size)) true 22 (.slice ad0 len0 cap0) d0 p0 :=
    Below.trod laidOut_rangesLaws (by kernel_rfl) (of_decide_eq_true (by kernel_rfl)) hk0 hb (fun x hx => hltp x (by simp [hx]))
  have hargs1 : DataW.Trod enc Tryd.prog W' 0 (fun b => decide (b < W.heap.size)) true 22 (.slice ad1 len1 cap1) d1 p1 :=
    Below.trod laidOut_rangesLaws (by kernel_rfl) (of_decide_eq_true (by kernel_rfl)) hk1 hb (fun x hx => hltp x (by simp [hx]))
  have hargs2 : DataW.Trod enc Tryd.prog W' 0 (fun b => decide (b < W.heap.size)) true 22 (.slice ad2 len2 cap2) d2 p2 :=
    Below.trod laidOut_rangesLaws (by kernel_rfl) (of_decide_eq_true (by kernel_rfl)) hk2 hb (fun x hx => hltp x (by simp [hx]))
  have hmk := trodAll_mk4 hargs0 hargs1 hargs2 (shut_int Tryd.underlying21 w3)
  simp only [List.append_nil] at hmk
  exact ⟨_, rfl, _, _, _, [], _, [], hW', trodAll_mk1 (shut_bool Tryd.underlying4 _), hmk, rfl, hb.frame _, fun h => by cases h⟩

theorem rangesLaws_said : Rows.RangesLawsSaid :=
  OpenClaim.holds_of_cond 3 Tryd.f3 rfl rfl rfl rfl rfl rfl rfl ⟨rfl, rfl, rfl, rfl, rfl⟩ rfl rfl rfl rfl rfl (by kernel_rfl) Tryd.func3 (by kernel_rfl)
    (of_decide_eq_true (by kernel_rfl)) (by unfold Func.isWrapper; first | (rw [if_pos (by decide +kernel)]; kernel_rfl) | (rw [if_neg (by decide +kernel)]; exact ⟨rfl, rfl⟩))
    (fun os started H enc _ F => by rw [OpenClaim.pre_eq_preRow]; exact rangesLaws_lifted os started H enc F)

theorem rangesLaws_plain (f : FuncId) (fn : Func) (hf : Tryd.pinned.checked.prog.funcNamed "glossary/glossarylaw03.RangesLaws" = some f) (hfn : Tryd.pinned.checked.prog.funcs[f]? = some fn) :
    true = Tryd.pinned.checked.prog.looks [] ∧ ∀ (j : Nat) t, fn.params[j]? = some t → Tryd.pinned.checked.prog.wantsStandIn t = false := by
  obtain rfl : f = 3 := Option.some.inj ((show Tryd.prog.funcNamed "glossary/glossarylaw03.RangesLaws" = some 3 by kernel_rfl).symm.trans hf) |>.symm
  obtain rfl : fn = Tryd.f3 := (Option.some.inj (Tryd.func3.symm.trans hfn)).symm
  refine ⟨by kernel_rfl, fun j t ht => ?_⟩
  rw [Tryd.params3] at ht
  have hm : t ∈ [22, 22, 22, 21] := by simpa using Array.mem_of_getElem? ht
  have hall : ([22, 22, 22, 21].all fun u => !Tryd.prog.wantsStandIn u) = true := by kernel_rfl
  exact (show Tryd.prog.wantsStandIn t = false by simpa using List.all_eq_true.1 hall t hm)

theorem rangesLaws_card : Rows.RangesLawsCardSaid :=
  Claim7.holds_tied_plain_at .later [] _ _ _ _ rangesLaws_said (fun _ h => by cases h) (by kernel_rfl) (fun _ h => by cases h) rangesLaws_row_tie rfl ⟨rfl, rfl⟩ (by kernel_rfl) rfl rangesLaws_plain (by kernel_rfl)

end Go.Proofs.YtmcmdijfdhlnaaaDoor
