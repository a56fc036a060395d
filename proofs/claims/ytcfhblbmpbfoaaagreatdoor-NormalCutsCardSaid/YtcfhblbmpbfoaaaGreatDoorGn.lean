/- Of every text and every row, NormalCuts answers true (a row that is cut where it may be is decomposed piece by piece), in any world in which the package's variables are laid: the row and the card. -/
import Derived.Test.YtcfhblbmpbfoaaaGreatDoorCards
import Derived.Test.YtcfhblbmpbfoaaaGreatDoorGv25
import Derived.Test.YtcfhblbmpbfoaaaGreatDoorGv21
import Derived.Test.YtcfhblbmpbfoaaaGreatDoorGox
import Derived.Carry
namespace Go.Proofs.YtcfhblbmpbfoaaaGreatDoor
open Go.ChangeShapes Go.WideShapes Go.ChangeAt Go.RowKit Go.Kt
set_option maxRecDepth 100000

theorem laidOut_normalCuts : laidOutB Tryz.prog = true := by kernel_rfl
theorem cells_l_normalCuts : Tryz.prog.cellsOf 21 = 1 := by kernel_rfl
theorem bytes_l_normalCuts : Tryz.checked.prog.bytesOf 21 = 4 := by kernel_rfl

theorem normalCuts_lifted (os : Os) (started : os.Started) (H : Type) (enc : TypeId × Value → H) (F : Stop.Interp) :
    ReturnsInHanded {} Tryz.checked os 7 .any ((OpenSpec.ofChange Rows.normalCutsSpec).preRow enc Tryz.prog Tryz.f7 Rows.normalCutsRow.domain false Rows.normalCutsRow.laid) (((OpenSpec.ofChange Rows.normalCutsSpec).at F).post enc Tryz.prog Tryz.f7 false true false false) := by
  refine returnsInHanded_of_row (C := Tryz.checked) (s := OpenSpec.ofChange Rows.normalCutsSpec) own started (by kernel_rfl) Tryz.func7
    (witness_row_at (enc := enc) (C := Tryz.checked) false (worldC os) #[.string ⟨#[]⟩, .slice none 0 0] (worldC_os _) (by kernel_rfl) (by kernel_rfl) (by kernel_rfl)
      (OpenSpec.preRow_of_cond (x := ([.lit (.string []), .nil], [], [])) 8 (by kernel_rfl) (by kernel_rfl) (fun k hk => by cases hk) (by kernel_rfl) (laid_metC os _))) ?_
  intro W base args ds gs before hval0 hW _ _ hz hL hsh _
  have hval : ∀ (j : Nat) t v, Tryz.f7.params[j]? = some t → args[j]? = some v → Value.okWide Tryz.prog W .any base t v := hval0
  have hW' := hW
  obtain ⟨p, q, hA0, hV, rfl, _, _⟩ := hW
  have hA : DataW.TrodAll enc Tryz.prog W 0 (fun _ => true) true Tryz.f7.params.toList args.toList ds p := hA0
  rw [Tryz.params7] at hA hval
  obtain ⟨v0, v1, d0, d1, p0, p1, rfl, rfl, rfl, h0, h1⟩ := trodAll_two hA
  obtain ⟨rfl, rfl⟩ := trodVars_none hV
  have hltp : ∀ x ∈ p0 ++ p1, x.block < W.heap.size := fun x hx => by simpa using hW'.lt x (by simpa using hx)
  obtain ⟨a0, rfl, rfl, rfl, w0⟩ := ChangeMaps.open_string Tryz.underlying9 (hval 0 9 v0 rfl rfl) h0
  have hk1 := h1
  obtain ⟨fuel1, hf1⟩ := h1
  obtain ⟨ad1, len1, cap1, rfl⟩ := okWide_slice Tryz.underlying22 (hval 1 22 v1 rfl rfl)
  obtain ⟨l1, hS1, hw1, hlen1, hd1⟩ : ∃ l : List Int, SlC W (.slice ad1 len1 cap1) l ∧ (∀ x ∈ l, I32 x) ∧ l.length ≤ 35184372087808 ∧ l.length = len1 := by
    rcases open_ints Tryz.underlying22 Tryz.underlying21 cells_l_normalCuts hf1 with ⟨hcs, hx⟩ | ⟨a, len', cap', zs, hcs, _, hl, hm, hz', hx, hcell, hwz⟩
    · simp [Value.cells] at hcs
      obtain ⟨rfl, rfl, rfl⟩ := hcs
      exact ⟨[], ⟨none, 0, 0, rfl, rfl, Nat.le_refl _, by omega, fun _ => rfl, none, 0, rfl, .inl rfl⟩, by simp, by simp, rfl⟩
    · simp [Value.cells] at hcs
      obtain ⟨rfl, rfl, rfl⟩ := hcs
      simp only [Prod.mk.injEq] at hx
      obtain ⟨rfl, rfl⟩ := hx
      simp only [if_true] at hz'
      have hreach := sized_slice hz (j := 1) (t := 22) (e := 21) rfl rfl Tryz.underlying22
      rw [show Tryz.checked.prog.bytesOf 21 = 4 from bytes_l_normalCuts] at hreach
      have hlz : len1 ≤ zs.length := by omega
      have htl : (zs.take len1).length = len1 := by rw [List.length_take]; omega
      have h2l : (lits (H := H) .i32 (zs.take len1)).length = len1 := by simp [lits]; omega
      rw [h2l] at hreach
      unfold reachBytes at hreach
      refine ⟨zs.take len1, ⟨some a, _, cap1, rfl, htl, hl, Nat.le_trans hm (by unfold maxLen; omega), fun h => (by cases h), some a, cap1, by rw [htl], .inr ⟨a, rfl, fun i x hx => ?_⟩⟩, fun x hx => ?_, by omega, htl⟩
      · have hi : i < len1 := by have := (List.getElem?_eq_some_iff.1 hx).1; omega
        rw [List.getElem?_take, if_pos hi] at hx
        rw [hcell i (by omega), List.getD_eq_getElem?_getD, hx]
        rfl
      · have := hwz x (List.mem_of_mem_take hx)
        simpa [Lit.wf, IntKind.min, IntKind.max, IntKind.signed, IntKind.bits, I32] using this
  have hE := of_laidC hL hsh
  clear hA0 hval0
  simp only [List.append_nil] at hW'
  refine (ncuts_q a0 _ l1 W hE hS1 hw1 hlen1).mono fun e W' ⟨he, hb⟩ => ?_
  subst he
  have hargs1 : DataW.Trod enc Tryz.prog W' 0 (fun b => decide (b < W.heap.size)) true 22 (.slice ad1 len1 cap1) d1 p1 :=
    Below.trod laidOut_normalCuts (by kernel_rfl) (of_decide_eq_true (by kernel_rfl)) hk1 hb (fun x hx => hltp x (by simp [hx]))
  have hmk := trodAll_mk2 (enc := enc) (P := Tryz.prog) (w := W') (base := 0) (spare := fun b => decide (b < W.heap.size)) (held := true) (ChangeMaps.shut_string Tryz.underlying9 w0) hargs1
  try simp only [List.nil_append] at hmk hW'
  exact ⟨_, rfl, _, _, _, [], _, [], hW', trodAll_mk1 (shut_bool Tryz.underlying4 _), hmk, rfl, hb.frame _, fun h => by cases h⟩

theorem normalCuts_said : Rows.NormalCutsSaid :=
  OpenClaim.holds_of_cond 7 Tryz.f7 rfl rfl rfl rfl rfl rfl rfl ⟨rfl, rfl, rfl, rfl, rfl⟩ rfl rfl rfl rfl rfl (by kernel_rfl) Tryz.func7 normalCuts_closed
    (of_decide_eq_true (by kernel_rfl)) (by unfold Func.isWrapper; first | (rw [if_pos (by decide +kernel)]; kernel_rfl) | (rw [if_neg (by decide +kernel)]; exact ⟨rfl, rfl⟩))
    (fun os started H enc _ F => by rw [OpenClaim.pre_eq_preRow]; exact normalCuts_lifted os started H enc F)

theorem normalCuts_plain (f : FuncId) (fn : Func) (hf : Tryz.pinned.checked.prog.funcNamed "glossary/glossarylaw07.NormalCuts" = some f) (hfn : Tryz.pinned.checked.prog.funcs[f]? = some fn) :
    true = Tryz.pinned.checked.prog.looks [] ∧ ∀ (j : Nat) t, fn.params[j]? = some t → Tryz.pinned.checked.prog.wantsStandIn t = false := by
  obtain rfl : f = 7 := Option.some.inj ((show Tryz.prog.funcNamed "glossary/glossarylaw07.NormalCuts" = some 7 by kernel_rfl).symm.trans hf) |>.symm
  obtain rfl : fn = Tryz.f7 := (Option.some.inj (Tryz.func7.symm.trans hfn)).symm
  refine ⟨by kernel_rfl, fun j t ht => ?_⟩
  rw [Tryz.params7] at ht
  have hm : t ∈ [9, 22] := by simpa using Array.mem_of_getElem? ht
  have hall : ([9, 22].all fun u => !Tryz.prog.wantsStandIn u) = true := by kernel_rfl
  exact (show Tryz.prog.wantsStandIn t = false by simpa using List.all_eq_true.1 hall t hm)

theorem normalCuts_card : Rows.NormalCutsCardSaid :=
  Claim7.holds_tied_plain_at .later [] _ _ _ _ normalCuts_said (fun _ h => by cases h) (by kernel_rfl) (fun _ h => by cases h) normalCuts_row_tie rfl ⟨rfl, rfl⟩ (by kernel_rfl) rfl normalCuts_plain (by kernel_rfl)

end Go.Proofs.YtcfhblbmpbfoaaaGreatDoor
