/- Of every two texts and every list of numbers, PropsPlain answers true (blanks, remarks, ends of lines, lines that say nothing change nothing; lines behind a file change nothing of points of which they do not speak), in any world in which the package's variables are laid: the row and the card. -/
import Derived.Test.YtdmimdiffjpjpaaGreatDoorCards
import Derived.Test.YtdmimdiffjpjpaaGreatDoorLf
import Derived.Test.YtdmimdiffjpjpaaGreatDoorWp
import Derived.Carry
namespace Go.Proofs.YtdmimdiffjpjpaaGreatDoor
open Go.ChangeShapes Go.WideShapes Go.ChangeAt Go.RowKit Go.Kt
set_option maxRecDepth 100000

theorem laidOut_propsPlain : laidOutB Tryz.prog = true := by kernel_rfl
theorem cells_l_propsPlain : Tryz.prog.cellsOf 21 = 1 := by kernel_rfl
theorem bytes_l_propsPlain : Tryz.checked.prog.bytesOf 21 = 4 := by kernel_rfl

theorem propsPlain_lifted (os : Os) (started : os.Started) (H : Type) (enc : TypeId × Value → H) (F : Stop.Interp) :
    ReturnsInHanded {} Tryz.checked os 6 .any ((OpenSpec.ofChange Rows.propsPlainSpec).preRow enc Tryz.prog Tryz.f6 Rows.propsPlainRow.domain false Rows.propsPlainRow.laid) (((OpenSpec.ofChange Rows.propsPlainSpec).at F).post enc Tryz.prog Tryz.f6 false true false false) := by
  refine returnsInHanded_of_row (C := Tryz.checked) (s := OpenSpec.ofChange Rows.propsPlainSpec) own started (by kernel_rfl) Tryz.func6
    (witness_row_at (enc := enc) (C := Tryz.checked) false (worldP os) #[.string ⟨#[]⟩, .string ⟨#[]⟩, .slice none 0 0] (worldP_os _) (by kernel_rfl) (by kernel_rfl) (by kernel_rfl)
      (OpenSpec.preRow_of_cond (x := ([.lit (.string []), .lit (.string []), .nil], [], [])) 8 (by kernel_rfl) (by kernel_rfl) (fun k hk => by cases hk) (by kernel_rfl) (laid_metP os _))) ?_
  intro W base args ds gs before hval0 hW _ _ hz hL hsh _
  have hval : ∀ (j : Nat) t v, Tryz.f6.params[j]? = some t → args[j]? = some v → Value.okWide Tryz.prog W .any base t v := hval0
  have hW' := hW
  obtain ⟨p, q, hA0, hV, rfl, _, _⟩ := hW
  have hA : DataW.TrodAll enc Tryz.prog W 0 (fun _ => true) true Tryz.f6.params.toList args.toList ds p := hA0
  rw [Tryz.params6] at hA hval
  obtain ⟨v0, v1, v2, d0, d1, d2, p0, p1, p2, rfl, rfl, rfl, h0, h1, h2⟩ := trodAll_three hA
  obtain ⟨rfl, rfl⟩ := trodVars_none hV
  have hltp : ∀ x ∈ p0 ++ p1 ++ p2, x.block < W.heap.size := fun x hx => by simpa using hW'.lt x (by simpa using hx)
  obtain ⟨a0, rfl, rfl, rfl, w0⟩ := ChangeMaps.open_string Tryz.underlying9 (hval 0 9 v0 rfl rfl) h0
  obtain ⟨a1, rfl, rfl, rfl, w1⟩ := ChangeMaps.open_string Tryz.underlying9 (hval 1 9 v1 rfl rfl) h1
  have hk2 := h2
  obtain ⟨fuel2, hf2⟩ := h2
  obtain ⟨ad2, len2, cap2, rfl⟩ := okWide_slice Tryz.underlying22 (hval 2 22 v2 rfl rfl)
  obtain ⟨l2, hS2, hw2, hlen2, hd2⟩ : ∃ l : List Int, SlA W (.slice ad2 len2 cap2) l ∧ (∀ x ∈ l, I32 x) ∧ l.length ≤ 35184372087808 ∧ l.length = len2 := by
    rcases open_ints Tryz.underlying22 Tryz.underlying21 cells_l_propsPlain hf2 with ⟨hcs, hx⟩ | ⟨a, len', cap', zs, hcs, _, hl, hm, hz', hx, hcell, hwz⟩
    · simp [Value.cells] at hcs
      obtain ⟨rfl, rfl, rfl⟩ := hcs
      exact ⟨[], ⟨none, 0, rfl, .inl rfl⟩, by simp, by simp, rfl⟩
    · simp [Value.cells] at hcs
      obtain ⟨rfl, rfl, rfl⟩ := hcs
      simp only [Prod.mk.injEq] at hx
      obtain ⟨rfl, rfl⟩ := hx
      simp only [if_true] at hz'
      have hreach := sized_slice hz (j := 2) (t := 22) (e := 21) rfl rfl Tryz.underlying22
      rw [show Tryz.checked.prog.bytesOf 21 = 4 from bytes_l_propsPlain] at hreach
      have hlz : len2 ≤ zs.length := by omega
      have htl : (zs.take len2).length = len2 := by rw [List.length_take]; omega
      have h2l : (lits (H := H) .i32 (zs.take len2)).length = len2 := by simp [lits]; omega
      rw [h2l] at hreach
      unfold reachBytes at hreach
      refine ⟨zs.take len2, ⟨some a, cap2, by rw [htl], .inr ⟨a, rfl, fun i x hx => ?_⟩⟩, fun x hx => ?_, by omega, htl⟩
      · have hi : i < len2 := by have := (List.getElem?_eq_some_iff.1 hx).1; omega
        rw [List.getElem?_take, if_pos hi] at hx
        rw [hcell i (by omega), List.getD_eq_getElem?_getD, hx]
        rfl
      · have := hwz x (List.mem_of_mem_take hx)
        simpa [Lit.wf, IntKind.min, IntKind.max, IntKind.signed, IntKind.bits, I32] using this
  have hE := of_laidP hL hsh
  clear hA0 hval0
  simp only [List.append_nil] at hW'
  refine (pplain_c a0 a1 _ l2 W hE hS2 hw2 hlen2).mono fun e W' ⟨he, hb⟩ => ?_
  subst he
  have hargs2 : DataW.Trod enc Tryz.prog W' 0 (fun b => decide (b < W.heap.size)) true 22 (.slice ad2 len2 cap2) d2 p2 :=
    Below.trod laidOut_propsPlain (by kernel_rfl) (of_decide_eq_true (by kernel_rfl)) hk2 hb (fun x hx => hltp x (by simp [hx]))
  have hmk := trodAll_mk3 (enc := enc) (P := Tryz.prog) (w := W') (base := 0) (spare := fun b => decide (b < W.heap.size)) (held := true) (ChangeMaps.shut_string Tryz.underlying9 w0) (ChangeMaps.shut_string Tryz.underlying9 w1) hargs2
  try simp only [List.nil_append] at hmk hW'
  exact ⟨_, rfl, _, _, _, [], _, [], hW', trodAll_mk1 (shut_bool Tryz.underlying4 _), hmk, rfl, hb.frame _, fun h => by cases h⟩

theorem propsPlain_said : Rows.PropsPlainSaid :=
  OpenClaim.holds_of_cond 6 Tryz.f6 rfl rfl rfl rfl rfl rfl rfl ⟨rfl, rfl, rfl, rfl, rfl⟩ rfl rfl rfl rfl rfl (by kernel_rfl) Tryz.func6 (by kernel_rfl)
    (of_decide_eq_true (by kernel_rfl)) (by unfold Func.isWrapper; first | (rw [if_pos (by decide +kernel)]; kernel_rfl) | (rw [if_neg (by decide +kernel)]; exact ⟨rfl, rfl⟩))
    (fun os started H enc _ F => by rw [OpenClaim.pre_eq_preRow]; exact propsPlain_lifted os started H enc F)

theorem propsPlain_plain (f : FuncId) (fn : Func) (hf : Tryz.pinned.checked.prog.funcNamed "glossary/glossarylaw06.PropsPlain" = some f) (hfn : Tryz.pinned.checked.prog.funcs[f]? = some fn) :
    true = Tryz.pinned.checked.prog.looks [] ∧ ∀ (j : Nat) t, fn.params[j]? = some t → Tryz.pinned.checked.prog.wantsStandIn t = false := by
  obtain rfl : f = 6 := Option.some.inj ((show Tryz.prog.funcNamed "glossary/glossarylaw06.PropsPlain" = some 6 by kernel_rfl).symm.trans hf) |>.symm
  obtain rfl : fn = Tryz.f6 := (Option.some.inj (Tryz.func6.symm.trans hfn)).symm
  refine ⟨by kernel_rfl, fun j t ht => ?_⟩
  rw [Tryz.params6] at ht
  have hm : t ∈ [9, 9, 22] := by simpa using Array.mem_of_getElem? ht
  have hall : ([9, 9, 22].all fun u => !Tryz.prog.wantsStandIn u) = true := by kernel_rfl
  exact (show Tryz.prog.wantsStandIn t = false by simpa using List.all_eq_true.1 hall t hm)

theorem propsPlain_card : Rows.PropsPlainCardSaid :=
  Claim7.holds_tied_plain_at .later [] _ _ _ _ propsPlain_said (fun _ h => by cases h) (by kernel_rfl) (fun _ h => by cases h) propsPlain_row_tie rfl ⟨rfl, rfl⟩ (by kernel_rfl) rfl propsPlain_plain (by kernel_rfl)

end Go.Proofs.YtdmimdiffjpjpaaGreatDoor
