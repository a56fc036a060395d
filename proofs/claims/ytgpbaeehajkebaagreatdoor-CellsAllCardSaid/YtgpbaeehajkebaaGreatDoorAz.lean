/- Of every two texts and every number, CellsAll answers true (all cells are the document's, from behind they are the same ones turned, edges lie where the document says), in any world in which the package's variables are laid: the row and the card. -/
import Derived.Test.YtgpbaeehajkebaaGreatDoorCards
import Derived.Test.YtgpbaeehajkebaaGreatDoorGv27
import Derived.Test.YtgpbaeehajkebaaGreatDoorGv25
import Derived.Carry
namespace Go.Proofs.YtgpbaeehajkebaaGreatDoor
open Go.ChangeShapes Go.WideShapes Go.ChangeAt Go.RowKit Go.Kt
set_option maxRecDepth 100000
theorem cellsAll_lifted (os:Os) (started:os.Started) (H:Type) (enc:TypeId × Value→H) (F:Stop.Interp) :
 ReturnsInHanded {} Tryz.checked os 3 .any ((OpenSpec.ofChange Rows.cellsAllSpec).preRow enc Tryz.prog Tryz.f3 Rows.cellsAllRow.domain false Rows.cellsAllRow.laid) (((OpenSpec.ofChange Rows.cellsAllSpec).at F).post enc Tryz.prog Tryz.f3 false true false false):=by
 refine returnsInHanded_of_row (C:=Tryz.checked) (s:=OpenSpec.ofChange Rows.cellsAllSpec) own started (by kernel_rfl) Tryz.func3
  (witness_row_at (enc:=enc) (C:=Tryz.checked) false (worldD os) #[.string ⟨#[]⟩,.string ⟨#[]⟩,.int .i64 0] (worldD_os _) (by kernel_rfl) (by kernel_rfl) (by kernel_rfl)
   (OpenSpec.preRow_of_cond (x:=([.lit (.string []),.lit (.string []),.lit (.int .i64 0)],[],[])) 8 (by kernel_rfl) (by kernel_rfl) (fun k hk=>by cases hk) (by kernel_rfl) (laid_metD os _))) ?_
 intro W base args ds gs before hval0 hW _ _ hz hL hsh _
 have hval:∀(j:Nat) t v,Tryz.f3.params[j]? = some t→args[j]? = some v→Value.okWide Tryz.prog W .any base t v:=hval0
 have hW':=hW
 obtain⟨p,q,hA0,hV,rfl,_,_⟩:=hW
 have hA:DataW.TrodAll enc Tryz.prog W 0 (fun _=>true) true Tryz.f3.params.toList args.toList ds p:=hA0
 rw[Tryz.params3] at hA hval
 obtain⟨v0,v1,v2,d0,d1,d2,p0,p1,p2,rfl,rfl,rfl,h0,h1,h2⟩:=trodAll_three hA
 obtain⟨rfl,rfl⟩:=trodVars_none hV
 obtain⟨a0,rfl,rfl,rfl,w0⟩:=ChangeMaps.open_string Tryz.underlying9 (hval 0 9 v0 rfl rfl) h0
 obtain⟨a1,rfl,rfl,rfl,w1⟩:=ChangeMaps.open_string Tryz.underlying9 (hval 1 9 v1 rfl rfl) h1
 obtain⟨a2,rfl,rfl,rfl,w2⟩:=open_int Tryz.underlying3 (hval 2 3 v2 rfl rfl) h2
 have z2 : -9223372036854775808≤a2∧a2≤9223372036854775807:=by simpa [Lit.wf,IntKind.min,IntKind.max,IntKind.signed,IntKind.bits] using w2
 have hE:=of_laidD hL hsh
 clear hA0 hval0
 simp only[List.append_nil] at hW'
 refine (cellsAll_c a0 a1 a2 W hE z2).mono fun e W' ⟨he,hb⟩=>?_
 subst he
 have hmk:=trodAll_mk3 (enc:=enc) (P:=Tryz.prog) (w:=W') (base:=0) (spare:=fun b=>decide (b<W.heap.size)) (held:=true) (ChangeMaps.shut_string Tryz.underlying9 w0) (ChangeMaps.shut_string Tryz.underlying9 w1) (shut_int Tryz.underlying3 w2)
 try simp only[List.nil_append] at hmk hW'
 exact⟨_,rfl,_,_,_,[],_,[],hW',trodAll_mk1 (shut_bool Tryz.underlying4 _),hmk,rfl,hb.frame _,fun h=>by cases h⟩
theorem cellsAll_said:Rows.CellsAllSaid :=
 OpenClaim.holds_of_cond 3 Tryz.f3 rfl rfl rfl rfl rfl rfl rfl ⟨rfl,rfl,rfl,rfl,rfl⟩ rfl rfl rfl rfl rfl (by kernel_rfl) Tryz.func3 (by kernel_rfl)
  (of_decide_eq_true (by kernel_rfl)) (by unfold Func.isWrapper;first|(rw[if_pos (by decide +kernel)];kernel_rfl)|(rw[if_neg (by decide +kernel)];exact⟨rfl,rfl⟩))
  (fun os started H enc _ F=>by rw[OpenClaim.pre_eq_preRow];exact cellsAll_lifted os started H enc F)
theorem cellsAll_plain (f:FuncId) (fn:Func) (hf:Tryz.pinned.checked.prog.funcNamed "glossary/glossarylaw09.CellsAll" = some f) (hfn:Tryz.pinned.checked.prog.funcs[f]? = some fn) :
 true=Tryz.pinned.checked.prog.looks []∧∀(j:Nat) t,fn.params[j]? = some t→Tryz.pinned.checked.prog.wantsStandIn t=false:=by
 obtain rfl:f=3:=Option.some.inj ((show Tryz.prog.funcNamed "glossary/glossarylaw09.CellsAll" = some 3 by kernel_rfl).symm.trans hf) |>.symm
 obtain rfl:fn=Tryz.f3:=(Option.some.inj (Tryz.func3.symm.trans hfn)).symm
 refine⟨by kernel_rfl,fun j t ht=>?_⟩
 rw[Tryz.params3] at ht
 have hm:t∈[9,9,3]:=by simpa using Array.mem_of_getElem? ht
 have hall:([9,9,3].all fun u=>!Tryz.prog.wantsStandIn u)=true:=by kernel_rfl
 exact (show Tryz.prog.wantsStandIn t=false by simpa using List.all_eq_true.1 hall t hm)
theorem cellsAll_card:Rows.CellsAllCardSaid :=
 Claim7.holds_tied_plain_at .later [] _ _ _ _ cellsAll_said (fun _ h=>by cases h) (by kernel_rfl) (fun _ h=>by cases h) cellsAll_row_tie rfl ⟨rfl,rfl⟩ (by kernel_rfl) rfl cellsAll_plain (by kernel_rfl)
end Go.Proofs.YtgpbaeehajkebaaGreatDoor
