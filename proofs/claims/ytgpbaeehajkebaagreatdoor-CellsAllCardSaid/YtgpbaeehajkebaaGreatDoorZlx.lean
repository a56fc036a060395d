/- The document's answer for props: a line of fold or decomp: the walk. WRITTEN by wip/tools/gen_zl.py. -/
import Derived.Test.YtgpbaeehajkebaaGreatDoorGv24
import Derived.Test.YtgpbaeehajkebaaGreatDoorGv6
import Derived.Deep.AppendLies
import Derived.Deep.QuietTactic
namespace Go.Proofs.YtgpbaeehajkebaaGreatDoor
open Go Go.RowKit Go.Kt Go.Kt.Rg Go.Maps
theorem tinfoLnX:(Tryz.prog.info? 91).map (fun i=>(i.zero,i.size,i.bytes))=some (some (.agg #[.int .i64 0,.slice none 0 0,.int .i64 0]),3,40):=by kernel_rfl
set_option maxRecDepth 100000 in
set_option maxHeartbeats 4000000 in
theorem ysingle {B0 g:Nat} {ρ0:Nat→Nat} {X:XdS} {S:RdS} {cv kv fv dv:Value} (w:World) (hP:PxW B0 ρ0 g X cv kv fv dv w) (hX:XRel X S) (x:List UInt8) (t:List (List UInt8)) (hx:x=wFld∨x=wDcp) (sv:Value) (hS:TxR w sv (x::t)) (hz:∀u∈x::t,u≠[]∧u.length≤1048000) (at_ N:Nat) (hN:X.fl.length≤N∧X.dl.length≤N∧N≤65536) :
 Calls Tryz.prog 38 #[.pointer (some ⟨g,0,none⟩),sv,.int .i64 (at_:Nat)] w fun e w'=>PxOut B0 g (N+1) (takeP at_ S (x::t)).1 (takeP at_ S (x::t)).2 w e w':=by
 have HP:=Lib.hid (And.intro hP hX)
 have HN:=Lib.hid hN
 have HN2:Hid (X.fl.length≤N+1∧X.dl.length≤N+1):=Lib.hid ⟨by omega,by omega⟩
 obtain⟨ao,cp,rfl,hor⟩:=hS
 obtain⟨gs,rfl,hc⟩:∃g,ao=some ⟨g,0,none⟩∧∀(i:Nat) (y:List UInt8),(x::t)[i]? = some y→w.cell? ⟨g,i,none⟩=some (.string ⟨y.toArray⟩):=by
  rcases hor with h|h
  ·cases h
  ·exact h
 rw[List.length_cons]
 obtain⟨m,hm⟩:∃m,t.length=m:=⟨_,rfl⟩
 rw[hm]
 by_cases h2:m<2
 ·have e1:(m:Int)+1<3:=by omega
  have HT:=Lib.hid (one_take at_ S hx (by omega:t.length<2))
  clear hc hor hz hP hX hN hx h2 hm
  go_enter Tryz.func38,Tryz.ntmps38
  go_wp2
  go_ret
  rw[HT.out]
  exact HP.out.1.no HN2.out (by simp) _ (Below.refl _ _)
 by_cases h9:9<m
 ·have e1:¬(m:Int)+1<3:=by omega
  have e2:(10:Int)<(m:Int)+1:=by omega
  have HT:=Lib.hid (bad_take at_ S (x:=x) (t:=t) (no:=5) (l:=[]) hx (by omega) (by unfold ptsP;rw[if_pos (by omega)]) (by decide))
  clear hc hor hz hP hX hN hx h2 h9 hm
  go_enter Tryz.func38,Tryz.ntmps38
  go_wp2
  go_ret
  rw[HT.out]
  exact HP.out.1.no HN2.out (by simp) _ (Below.refl _ _)
 have e1:¬(m:Int)+1<3:=by omega
 have e2:¬(10:Int)<(m:Int)+1:=by omega
 obtain⟨xb,hxb⟩:∃xb,w.heap.size=xb:=⟨_,rfl⟩
 obtain⟨W1,hW1⟩:∃W1,w.alloc (.cells #[.int .i64 0,.slice none 0 0,.int .i64 (at_:Nat)] 91)=W1:=⟨_,rfl⟩
 have hxl:=xlW0 w at_
 rw[hxb,hW1] at hxl
 have hbw1:Below xb w W1:=by rw[←hW1,←hxb];exact (Below.refl _ w).alloc (Nat.le_refl _) _
 have H1:=Lib.hid (And.intro hxl hbw1)
 have c0:=hc 0 x rfl
 have HC:=Lib.hid (And.intro hc (And.intro hz (And.intro hm hxb)))
 have HX0:=Lib.hid hx
 have hmu:m≤9:=by omega
 have hml:2≤m:=by omega
 clear hc hor hz hP hX hN hm hxl hbw1 h2 h9 hx c0
 go_enter Tryz.func38,Tryz.ntmps38
 go_wp2_with (first|rw[hxb,hW1]|fail)
 clear e1 e2 hW1
 go_loopw [8] (fun iv wr=>∃(j:Nat) (acc:List Nat),iv = .int .i64 ((j:Int)+1)∧j≤m∧Hid (PtI t j acc∧XlW xb at_ acc wr∧Below xb w wr)) (fun iv _=>m+1-(RowKit.intOf iv).toNat)
 case atStart=>exact⟨0,[],rfl,Nat.zero_le _,Lib.hid ⟨ptI0 t,H1.out.1,H1.out.2⟩⟩
 case round =>
  obtain⟨j,acc,rfl,hj,H⟩:=hrel
  have hbw:Below w.heap.size w wr:=by rw[HC.out.2.2.2];exact H.out.2.2
  have HBW:=Lib.hid hbw
  have HXS:Hid (xb≤wr.heap.size):=Lib.hid (by have h1:=hbw.size;have h2:=HC.out.2.2.2;omega)
  by_cases hlt:j<m
  ·have g1:(j:Int)+1<(m:Int)+1:=by omega
   have g0:(0:Int)≤(j:Int)+1:=by omega
   have k1:IntKind.i64.wrap ((j:Int)+1+1)=(j:Int)+1+1:=IntWalk.i64_in _ (by omega)
   obtain⟨y,hy⟩:∃y,t[j]? = some y:=⟨_,List.getElem?_eq_getElem (by rw[HC.out.2.2.1];exact hlt)⟩
   have hc1:=HC.out.1 (j+1) y (by simpa using hy)
   have hyz:=(HC.out.2.1 y (List.mem_cons_of_mem _ (List.mem_of_getElem? hy))).2
   have d1:=(hbw.cell (lt_of_cell hc1)).trans hc1
   obtain⟨sy,hsy⟩:∃sy:ByteArray,(⟨y.toArray⟩:ByteArray)=sy:=⟨_,rfl⟩
   have hsl:sy.data.toList=y:=by rw[←hsy]
   rw[hsy] at d1
   have CP:=Lib.hid (ypoint sy wr (by rw[←hsy,bsize];omega))
   rw[hsl] at CP
   have HY:=Lib.hid hy
   clear hbw hc1 hyz hsy hsl hy hlt
   by_cases h0:(pntP y).2=0
   ·obtain⟨n,hn,hn1,hv⟩:=pnt_ok h0
    rw[hn] at CP
    have hn32:=valid_le hv
    have HS:=Lib.hid (H.out.1.step HY.out hn1 hv)
    have k2:IntKind.i32.wrap (n:Int)=(n:Int):=IntWalk.i32_in _ (by omega)
    clear h0 hn hn1 hv
    by_cases hj0:j=0
    ·subst hj0
     have ha:acc=[]:=List.length_eq_zero_iff.1 H.out.1.2.1
     subst ha
     go_wp2_with fail
     refine CP.out.mono ?_
     rintro e w2 ⟨rfl,hb2⟩
     obtain⟨⟨u0,q0⟩,q1,q2,q3⟩:=(H.out.2.1.below hb2).first (n:=n)
     have HE:=Lib.hid (And.intro q2 ((H.out.2.2.trans (hb2.mono HXS.out)).trans (q3.mono (Nat.le_refl _))))
     clear hb2 q2 q3
     go_wp2
     go_roundw
     case rel=>exact⟨1,[n],rfl,by omega,Lib.hid ⟨HS.out,HE.out.1,HE.out.2⟩⟩
     case measure=>simp[RowKit.intOf];omega
    ·have r1:(((j:Int)+1)==1)=false:=by rw[beq_eq_false_iff_ne];omega
     have hane:acc≠[]:=fun e=>hj0 (by rw[←H.out.1.2.1,e];rfl)
     have hal:acc.length≤9:=by rw[H.out.1.2.1];omega
     have HA:=Lib.hid (And.intro hane hal)
     clear hj0 hane hal
     go_wp2_with fail
     refine CP.out.mono ?_
     rintro e w2 ⟨rfl,hb2⟩
     obtain⟨ao1,m1,cp1,v',W',f0,hrun,f1,f2,⟨va,vb,vd,rfl⟩,hxw,hbx⟩:=(H.out.2.1.below hb2).more (n:=n) HA.out.1 HA.out.2
     have HRun:=Lib.hid hrun
     have HE:=Lib.hid (And.intro hxw ((H.out.2.2.trans (hb2.mono HXS.out)).trans hbx))
     clear hb2 hrun hxw hbx
     go_wp2_with (first|(at_builtin;refine wpList_append_eq rfl rfl rfl rfl HRun.out ?_;clear HRun)|fail)
     go_roundw
     case rel=>exact⟨j+1,acc++[n],by go_num,by omega,Lib.hid ⟨HS.out,HE.out.1,HE.out.2⟩⟩
     case measure=>simp[RowKit.intOf];omega
   ·obtain⟨no,hno⟩:∃no,(pntP y).2=no:=⟨_,rfl⟩
    have HT:Hid (takeP at_ S (x::t)=(no,S)):=Lib.hid (by rw[←hno];exact bad_take at_ S HX0.out (by rw[HC.out.2.2.1];omega) (H.out.1.bad HY.out h0 (by rw[HC.out.2.2.1];omega)) h0)
    rw[hno] at CP h0
    have r1:((no:Int)!=0)=true:=by simp;omega
    obtain⟨nn,hnn⟩:∃nn,(pntP y).1=nn:=⟨_,rfl⟩
    rw[hnn] at CP
    have H0:=Lib.hid h0
    clear h0 hno hnn
    go_wp2_with fail
    refine CP.out.mono ?_
    rintro e w2 ⟨rfl,hb2⟩
    have HB2:=Lib.hid (HBW.out.trans (hb2.mono HBW.out.size))
    clear hb2
    go_wp2
    go_ret
    rw[HT.out]
    exact HP.out.1.no HN2.out H0.out _ HB2.out
  ·have g1:¬(j:Int)+1<(m:Int)+1:=by omega
   obtain rfl:j=m:=by omega
   obtain⟨W,hWr⟩:∃W,W=wr:=⟨_,rfl⟩
   subst hWr
   have HPT:Hid (ptsP t=(0,acc)):=Lib.hid (by have h1:=H.out.1;rw[←HC.out.2.2.1] at h1;exact h1.done (by rw[HC.out.2.2.1];omega))
   have hal:acc.length=j:=H.out.1.2.1
   have HAL:=Lib.hid H.out.1.2.2
   match acc,hal with
   | [],hal=>simp at hal;omega
   | h::u,_ =>
     obtain⟨ρ,hρ⟩:∃ρ,moreR w ρ0 0=ρ:=⟨_,rfl⟩
     have HRO:Hid (∀b,xb≤b→ρ b=0):=Lib.hid (fun b hb=>by rw[←hρ];exact moreR_new b (by rw[HC.out.2.2.2];exact hb))
     have HRD0:Hid (PxW B0 ρ g X cv kv fv dv W):=Lib.hid (by rw[←hρ];exact (HP.out.1.role_more 0).below HBW.out)
     obtain⟨vo,vn,vc,hx2,hx3,hx4⟩:=H.out.2.1.to HRO.out
     have HXL:=Lib.hid (And.intro hx2 hx4)
     have y0:W.cell? ⟨xb,0,none⟩=some (.int .i64 (h:Nat)):=by rw[Lib.cell_of_heap hx2];rfl
     have HX:=Lib.hid HP.out.2
     have cw0:=HC.out.1 0 x rfl
     have d0:=(HBW.out.cell (lt_of_cell cw0)).trans cw0
     have hmt:=HC.out.2.2.1
     clear hρ hx2 hx3 hx4 H hlt hbw cw0 hal
     rcases HX0.out with hx1|hx1
     ·rw[hx1] at d0
      obtain⟨z,hz1,hz2,hz3⟩:=HRD0.out.f
      have hLF:LfW W fv X.fl:=HRD0.out.f.lf
      have CSP:=Lib.hid (fun n=>yspokenQ X.fl fv (h:Int) (W.drewN n) (hLF.below (below_drewN (Below.refl _ W) n)) (by have:=HN.out;omega))
      rw[HX.out.fspk] at CSP
      have f3:W.cell? ⟨g,2,none⟩=some fv:=by rw[Lib.cell_of_heap HRD0.out.cell];rfl
      obtain⟨ko,kc,hkv0⟩:=own_slc hz2
      have HTP:Hid (takeP at_ S (x::t)=foldP S t):=Lib.hid (by rw[hx1];exact fold_take at_ S (by omega))
      have HPY:=Lib.hid (foldP_yes (S:=S) HPT.out)
      have HZ:=Lib.hid (And.intro hz1 (And.intro hz2 hz3))
      clear hz1 hz2 hz3 hLF
      obtain⟨hh,hhh⟩:∃hh:Int,(h:Int)=hh:=⟨_,rfl⟩
      obtain⟨aa,haa⟩:∃aa:Int,(at_:Int)=aa:=⟨_,rfl⟩
      have HHA:=Lib.hid (And.intro hhh haa)
      rw[hhh] at CSP y0
      cases hs:(S.fs h).isSome with
      | true =>
        rw[hs] at CSP
        have HR:Hid ((takeP at_ S (x::t)).1=13):=Lib.hid (by rw[HTP.out,HPY.out,if_pos hs])
        clear hs hx1 hhh haa
        rw[hkv0] at f3 CSP
        go_wp2_with fail
        go_quiet (first|(go_at_call 74;exact Calls.quiet_of_same (CSP.out _)))
        go_wp2
        go_ret
        rw[HR.out]
        exact HP.out.1.no HN2.out (by decide) _ (below_drewN HBW.out _)
      | false =>
        rw[hs] at CSP
        have HSX:=Lib.hid hs
        clear hs hx1 hhh haa
        rw[hkv0] at f3 CSP
        go_wp2_with fail
        go_quiet (first|(go_at_call 74;exact Calls.quiet_of_same (CSP.out _)))
        go_wp2_with fail
        obtain⟨V,hV⟩:∃V,W.drewN nq=V:=⟨_,rfl⟩
        have hWV:Below W.heap.size W V:=by rw[←hV];exact below_drewN (Below.refl _ W) nq
        rw[hV]
        have HRD:Hid (PxW B0 ρ g X cv kv fv dv V):=Lib.hid (HRD0.out.below hWV)
        have HWV:=Lib.hid hWV
        obtain⟨z,hz1,hz2,hz3⟩:=HRD.out.f
        have HXB:Hid (V.heap[xb]? = some (.cells #[.int .i64 hh,.slice vo vn vc,.int .i64 aa] 91 (0,0))∧ToV ρ (.slice vo vn vc) u V):=Lib.hid ⟨by
         rw[←HHA.out.1,←HHA.out.2]
         exact (hWV.block xb (Array.getElem?_eq_some_iff.1 HXL.out.1).1).trans HXL.out.1,HXL.out.2.keep (X:=fun _=>False) (Keep.of_all hWV) (fun _ h=>h.elim)⟩
        obtain⟨q,hq⟩:∃q,X.fl.length=q:=⟨_,rfl⟩
        have hown:OwnS (fun b=>ρ b=4) 91 3 fv q (lnE z) V:=by rw[←hq];exact hz2
        have hq6:q≤1000000:=by rw[←hq];have:=HN.out;omega
        have HQL:=Lib.hid hq
        have HZ2:=Lib.hid (And.intro hz1 hz3)
        clear hz1 hz2 hz3 hq hWV hV hkv0
        have hgl:g<V.heap.size:=HRD.out.gl
        have hkg:(fv:Value).ownBlock≠some g:=fun h=>by have h9:=hown.2 _ h;have h8:=HRD.out.rg;simp only at h9;omega
        have hkv:∀b,(fv:Value).ownBlock=some b→b<V.heap.size:=fun b h=>(hown.1.lt b h).2
        have hxg:xb≠g∧(fv:Value).ownBlock≠some xb:=⟨fun e=>by have h8:=HRD.out.rg;have h9:=HRO.out xb (Nat.le_refl _);rw[←e] at h8;omega,fun h=>by have h9:=hown.2 _ h;have h8:=HRO.out xb (Nat.le_refl _);simp only at h9;omega⟩
        have hcg:V.heap[g]? = some (.cells (#[cv,kv,fv,dv]) 85 (0,0)):=HRD.out.cell
        have hfa:∀X:World,(Instr.fieldAt 85 (.pointer (some ⟨g,0,none⟩)) 2).run Tryz.prog X = .ok (.pointer (some ⟨g,2,none⟩)) X:=fun X=>by go_simp
        have hls:∀X:World,X.heap[g]? = some (.cells (#[cv,kv,fv,dv]) 85 (0,0))→(Instr.loadAt 83 (.pointer (some ⟨g,2,none⟩))).run Tryz.prog X = .ok (fv) X:=fun X h=>by
         have q:X.cell? ⟨g,2,none⟩=some (fv):=by rw[Lib.cell_of_heap h];rfl
         obtain⟨ao4,cp4,hk4⟩:=own_slc hown
         rw[hk4] at q ⊢
         go_simp
        have hlx:∀X,Keep (fun b=>b=g∨(fv:Value).ownBlock=some b) V X→(Instr.loadAt 91 (.pointer (some ⟨xb,0,none⟩))).run Tryz.prog X = .ok (.agg #[.int .i64 hh,.slice vo vn vc,.int .i64 aa]) X:=fun X hX=>by
         have q:=hX.heap HXB.out.1 (fun e=>by rcases e with e|e;exact hxg.1 e;exact hxg.2 e)
         have q0:X.cell? ⟨xb,0,none⟩=some (.int .i64 hh):=by rw[Lib.cell_of_heap q];rfl
         have q1:X.cell? ⟨xb,1,none⟩=some (.slice vo vn vc):=by rw[Lib.cell_of_heap q];rfl
         have q2:X.cell? ⟨xb,2,none⟩=some (.int .i64 aa):=by rw[Lib.cell_of_heap q];rfl
         go_simp
        have BS:∀W:World,(Instr.buildSlice 83 1 #[(0,.agg #[.int .i64 hh,.slice vo vn vc,.int .i64 aa])]).run Tryz.prog W = .ok (.slice (some ⟨W.heap.size,0,none⟩) 1 1) (W.alloc (.cells #[.int .i64 hh,.slice vo vn vc,.int .i64 aa] 91)):=fun W=>by go_simp
        have ST:∀(W:World) (ao9:Option Addr) (m2 cap:Nat),W.heap[g]? = some (.cells (#[cv,kv,fv,dv]) 85 (0,0))→(Instr.storeAt 83 (.pointer (some ⟨g,2,none⟩)) (.slice ao9 m2 cap)).run Tryz.prog W = .ok () (W.setCell ⟨g,2,none⟩ (.slice ao9 m2 cap)):=fun W ao9 m2 cap h=>by
         have q:W.cell? ⟨g,2,none⟩=some (fv):=by rw[Lib.cell_of_heap h];rfl
         have q2:W.frozen? ⟨g,2,none⟩=false:=Lib.frozen_of_heap h _
         go_simp
        have S1:∀ {W:World} {u:Value},W.heap[g]? = some (.cells (#[cv,kv,fv,dv]) 85 (0,0))→(W.setCell ⟨g,2,none⟩ u).heap[g]? = some (.cells (#[cv,kv,u,dv]) 85 (0,0)):=fun {W} {u} h=>by
         have:=heap_setCell_same W g 2 _ _ u h
         simpa using this
        obtain⟨ti,hti,hz,hs1,hbt⟩:=info_parts tinfoLnX
        have HI2:=And.intro hti (And.intro hz (And.intro hs1 hbt))
        have HOC:∀z∈([.int .i64 hh,.slice vo vn vc,.int .i64 aa]:List Value),z.oneCell'=true:=by intro z hz;simp at hz;rcases hz with rfl|rfl|rfl <;> rfl
        have HM1:q+1≤maxLen:=by unfold maxLen;omega
        have HM2:(q+1)*40≤140737488355328:=by omega
        obtain⟨FF,hFF⟩:∃FF:FldR,FF=⟨g,V,fv,91,3,q,q+1,lnE z,lnE z++[.int .i64 hh,.slice vo vn vc,.int .i64 aa],85,fun u=>#[cv,kv,u,dv],#[.int .i64 hh,.slice vo vn vc,.int .i64 aa],7,10,6,fun z=>match z with|0=>some (.pointer (some ⟨g,0,none⟩))|1=>some (.pointer (some ⟨g,0,none⟩))|2=>some (.pointer (some ⟨g,0,none⟩))|3=>some (.pointer (some ⟨g,2,none⟩))|4=>some (fv)|5=>some (.agg #[.int .i64 hh,.slice vo vn vc,.int .i64 aa])|8=>some (.pointer (some ⟨g,0,none⟩))|9=>some (.pointer (some ⟨g,2,none⟩))|_=>none⟩:=⟨_,rfl⟩
        have H0:FldR.S FF (fun _=>false) V.drew:=by rw[hFF];exact⟨fun _=>hcg,fun _=>OwnS.weaken (show OwnS (fun b=>ρ b=4) _ _ _ _ _ V.drew from hown) (fun b h e=>by have e2:b=g:=e;have h9:ρ b=4:=h;have h8:=HRD.out.rg;rw[e2] at h9;omega),(Keep.refl _ V).drew⟩
        refine wp_region_done (FldR.S FF) (FldR.P FF) (by kernel_rfl) (by kernel_rfl) (by kernel_rfl) H0 ?hs ?hd
        case hs =>
         rw[hFF]
         refine DSteps.cons ?_ (DSteps.cons ?_ (DSteps.cons ?_ (DSteps.cons ?_ (DSteps.cons ?_ (DSteps.cons ?_ (DSteps.cons ?_ (DSteps.cons ?_ (DSteps.cons ?_ (DSteps.cons ?_ (DSteps.cons ?_ (DSteps.nil)))))))))))
         ·intro D2 a X hDi hDa _ hX hL hd
          refine⟨rfl,?_⟩
          have e0:a.eval (.tmp 0) = .pointer (some ⟨g,0,none⟩):=hL.far 0 (by kernel_rfl)
          exact wp_value (exec_move rfl e0) ⟨_,rfl,hX.more,fun _ _ _ h=>h,FldR.P.mk rfl ⟨by simp,by simp,by simp⟩⟩
         ·intro D2 a X hDi hDa _ hX hL hd
          refine⟨rfl,?_⟩
          have e0:a.eval (.tmp 0) = .pointer (some ⟨g,0,none⟩):=hL.far 0 (by kernel_rfl)
          exact wp_value (exec_move rfl e0) ⟨_,rfl,hX.more,fun _ _ _ h=>h,FldR.P.mk rfl ⟨by simp,by simp,by simp⟩⟩
         ·intro D2 a X hDi hDa _ hX hL hd
          refine⟨rfl,?_⟩
          have e0:a.eval (.tmp 59) = .pointer (some ⟨g,0,none⟩):=(hd 1 59 (by kernel_rfl) (by kernel_rfl)).is rfl
          exact wp_value (exec_nilCheck rfl e0) ⟨_,rfl,hX.more,fun _ _ _ h=>h,FldR.P.mk rfl ⟨by simp,by simp,by simp⟩⟩
         ·intro D2 a X hDi hDa _ hX hL hd
          refine⟨rfl,?_⟩
          have e0:a.eval (.tmp 60) = .pointer (some ⟨g,0,none⟩):=(hd 2 60 (by kernel_rfl) (by kernel_rfl)).is rfl
          exact wp_value (exec_fieldAddr rfl e0 (hfa X)) ⟨_,rfl,hX.more,fun _ _ _ h=>h,FldR.P.mk rfl ⟨by simp,by simp,by simp⟩⟩
         ·intro D2 a X hDi hDa _ hX hL hd
          refine⟨rfl,?_⟩
          have e0:a.eval (.tmp 61) = .pointer (some ⟨g,2,none⟩):=(hd 3 61 (by kernel_rfl) (by kernel_rfl)).is rfl
          exact wp_value (exec_load rfl e0 (hls X (hX.1 (hDa 10 (by kernel_rfl))))) ⟨_,rfl,hX.more,fun _ _ _ h=>h,FldR.P.mk rfl ⟨by simp,by simp,by simp⟩⟩
         ·intro D2 a X hDi hDa _ hX hL hd
          refine⟨rfl,?_⟩
          have e0:a.eval (.tmp 7) = .pointer (some ⟨xb,0,none⟩):=hL.far 7 (by kernel_rfl)
          exact wp_value (exec_load rfl e0 (hlx X hX.2.2)) ⟨_,rfl,hX.more,fun _ _ _ h=>h,FldR.P.mk rfl ⟨by simp,by simp,by simp⟩⟩
         ·intro D2 a X hDi hDa _ hX hL hd
          refine⟨rfl,?_⟩
          have e0:a.eval (.tmp 63) = .agg #[.int .i64 hh,.slice vo vn vc,.int .i64 aa]:=(hd 5 63 (by kernel_rfl) (by kernel_rfl)).is rfl
          refine wp_value (exec_buildSlice rfl (ps:=#[(0,.agg #[.int .i64 hh,.slice vo vn vc,.int .i64 aa])]) (by simp only[List.map_toArray,List.map_cons,List.map_nil,e0] <;> rfl) (BS X)) ⟨_,rfl,(hX.below ((Below.refl _ X).alloc (Nat.le_refl _) _)).more,fun _ _ _ h=>h.below ((Below.refl _ X).alloc (Nat.le_refl _) _),FldR.P.bs rfl ⟨by simp,by simp⟩ ⟨X.heap.size,rfl,alloc_at rfl,hX.2.2.size⟩⟩
         ·intro D2 a X hDi hDa _ hX hL hd
          refine⟨rfl,?_⟩
          have e0:a.eval (.tmp 62)=fv:=(hd 4 62 (by kernel_rfl) (by kernel_rfl)).is rfl
          obtain⟨b2,hb1,hb2,hb3⟩:=(hd 6 64 (by kernel_rfl) (by kernel_rfl)).2.1 rfl
          have h28:=hDa 10 (by kernel_rfl)
          have hown:=hX.2.1 hDi
          refine wp_append_lies X (.tmp 62) (.tmp 64) 83 rfl 0 91 ti (.agg #[.int .i64 0,.slice none 0 0,.int .i64 0]) 3 40 Tryz.underlying83 HI2.1 HI2.2.1 HI2.2.2.1 HI2.2.2.2 rfl (by decide) (fv) q (lnE z) e0 hown.1 ⟨b2,0,none⟩ 1 1 [.int .i64 hh,.slice vo vn vc,.int .i64 aa] hb1 rfl (World.news_of_block hb2) HOC (by decide) HM1 HM2 (Nat.zero_le _) _ rfl ?_
          intro g2 cap2 X2 hown2 hgrow hat hlt2
          exact⟨_,rfl,hX.app hkg h28 (keep_grown hgrow),fun j u hj h=>h.app hkv (keep_grown hgrow) (fun e=>by subst e;rw[hDi] at hj;cases hj) (fun e=>by subst e;rw[h28] at hj;cases hj),FldR.P.row rfl ⟨by simp,by simp⟩ (FldR.row_of (ln:=q+1) hX.2.2.size hgl hkg ⟨hown2,fun y hy=>by
           have:g2=y:=by simpa [Value.ownBlock] using hy
           subst this
           rcases hat with h|h
           ·exact .inl h
           ·exact .inr (by omega)⟩ rfl)⟩
         ·intro D2 a X hDi hDa _ hX hL hd
          refine⟨rfl,?_⟩
          have e0:a.eval (.tmp 58) = .pointer (some ⟨g,0,none⟩):=(hd 0 58 (by kernel_rfl) (by kernel_rfl)).is rfl
          exact wp_value (exec_nilCheck rfl e0) ⟨_,rfl,hX.more,fun _ _ _ h=>h,FldR.P.mk rfl ⟨by simp,by simp,by simp⟩⟩
         ·intro D2 a X hDi hDa _ hX hL hd
          refine⟨rfl,?_⟩
          have e0:a.eval (.tmp 66) = .pointer (some ⟨g,0,none⟩):=(hd 8 66 (by kernel_rfl) (by kernel_rfl)).is rfl
          exact wp_value (exec_fieldAddr rfl e0 (hfa X)) ⟨_,rfl,hX.more,fun _ _ _ h=>h,FldR.P.mk rfl ⟨by simp,by simp,by simp⟩⟩
         ·intro D2 a X hDi hDa _ hX hL hd
          refine⟨rfl,?_⟩
          have e0:a.eval (.tmp 67) = .pointer (some ⟨g,2,none⟩):=(hd 9 67 (by kernel_rfl) (by kernel_rfl)).is rfl
          obtain⟨ao3,ln,cp3,he,ho⟩:=(hd 7 65 (by kernel_rfl) (by kernel_rfl)).2.2.1 rfl
          have hc:=hX.1 hDi
          exact wp_skipped (exec_store rfl e0 he (ST X _ _ _ hc)) ⟨undef,rfl,hX.store,fun j u hj h=>h.store hgl (fun e=>by subst e;rw[hDi] at hj;cases hj),FldR.P.last rfl ⟨by simp,by simp⟩ ⟨_,FldR.Row.store ⟨ao3,ln,cp3,rfl,by rw[←he];exact ho⟩,S1 hc⟩⟩
        case hd =>
         intro D2 a X9 hAll hX9 hL hP hE
         obtain⟨_,hp⟩:=hE 10 (by decide)
         rw[hFF] at hp hX9
         obtain⟨u9,⟨ao2,ln,cp2,hu0,ho⟩,hu⟩:=hp.2.2.2 rfl
         simp only at ho hu
         have hK:=hX9.2.2
         obtain⟨f,ha,hf⟩:=hL.out [58,59,60,61,62,63,64,65,66,67] rfl
         have HF:=Lib.hid (And.intro ho (And.intro hu hK))
         clear hf hAll hP hX9 hL hE hp ho hu hu0 hK S1 hfa hls hlx BS ST HI2 HOC HM1 HM2 H0 hFF hti hz hs1 hbt hown hkg hkv hxg hcg hgl
         simp only[List.foldl_cons,List.foldl_nil,List.setIfInBounds_toArray,List.set_cons_zero,List.set_cons_succ] at ha
         subst ha
         go_wp2
         go_ret
         obtain⟨ho,hu,hK⟩:=HF.out
         have e:lnE (z++[((h,u,at_),.slice vo vn vc)])=lnE z++[.int .i64 hh,.slice vo vn vc,.int .i64 aa]:=by rw[lnE_snoc,←HHA.out.1,←HHA.out.2]
         have hzl:z.length=q:=by have:=congrArg List.length HZ2.out.1;rw[List.length_map] at this;rw[this];exact HQL.out
         rw[←e,←hzl] at ho
         have hx:(S.fs h).isSome=false:=HSX.out
         have hP2:=HRD.out.newf (x:=(h,u,at_)) z HZ2.out.1 HZ2.out.2 HXB.out.2 hK hu ho
         have hR1:takeP at_ S (x::t)=(0,{ S with fs:=updN S.fs h u }):=by
          rw[HTP.out,HPY.out,if_neg (by rw[hx];decide)]
         rw[hR1]
         have hb9:Below B0 w V:=(HBW.out.mono HP.out.1.hB).trans (HWV.out.mono (Nat.le_trans HP.out.1.hB HBW.out.size))
         refine⟨rfl,hb9.trans (hK.below (Nat.le_trans HP.out.1.hB hb9.size) (fun b hb=>?_)),_,_,_,_,_,_,hP2,fun _=>HX.out.fold (x:=h) hx u at_,?_⟩
         ·rcases hb with rfl|hb
          ·exact HRD.out.hr _ (by rw[HRD.out.rg];decide)
          ·have h9:ρ b=4:=by obtain⟨_,_,h8,_⟩:=HRD.out.f;exact h8.2 _ hb
           exact HRD.out.hr _ (by omega)
         ·have:=HN.out
          constructor <;> simp <;> omega
     ·rw[hx1] at d0
      obtain⟨z,hz1,hz2,hz3⟩:=HRD0.out.d
      have hLF:LfW W dv X.dl:=HRD0.out.d.lf
      have CSP:=Lib.hid (fun n=>yspokenQ X.dl dv (h:Int) (W.drewN n) (hLF.below (below_drewN (Below.refl _ W) n)) (by have:=HN.out;omega))
      rw[HX.out.dspk] at CSP
      have f3:W.cell? ⟨g,3,none⟩=some dv:=by rw[Lib.cell_of_heap HRD0.out.cell];rfl
      obtain⟨ko,kc,hkv0⟩:=own_slc hz2
      have HTP:Hid (takeP at_ S (x::t)=dcmP at_ S t):=Lib.hid (by rw[hx1];exact dec_take at_ S (by omega))
      have HPY:=Lib.hid (dcmP_yes (line:=at_) (S:=S) HPT.out)
      have HZ:=Lib.hid (And.intro hz1 (And.intro hz2 hz3))
      clear hz1 hz2 hz3 hLF
      obtain⟨hh,hhh⟩:∃hh:Int,(h:Int)=hh:=⟨_,rfl⟩
      obtain⟨aa,haa⟩:∃aa:Int,(at_:Int)=aa:=⟨_,rfl⟩
      have HHA:=Lib.hid (And.intro hhh haa)
      rw[hhh] at CSP y0
      cases hs:(S.ds h).isSome with
      | true =>
        rw[hs] at CSP
        have HR:Hid ((takeP at_ S (x::t)).1=13):=Lib.hid (by rw[HTP.out,HPY.out,if_pos hs])
        clear hs hx1 hhh haa
        rw[hkv0] at f3 CSP
        go_wp2_with fail
        go_quiet (first|(go_at_call 74;exact Calls.quiet_of_same (CSP.out _)))
        go_wp2
        go_ret
        rw[HR.out]
        exact HP.out.1.no HN2.out (by decide) _ (below_drewN HBW.out _)
      | false =>
        rw[hs] at CSP
        have HSX:=Lib.hid hs
        have CSY:=Lib.hid (fun W=>ysyl hh W)
        have CJA:=Lib.hid (fun W=>yjam hh W)
        have HHN:=Lib.hid (by have:=han_two hh;rw[←hhh] at this;rw[hhh] at this;exact this)
        clear hs hx1 hhh haa
        rw[hkv0] at f3 CSP
        go_wp2_with fail
        go_quiet (first|(go_at_call 74;exact Calls.quiet_of_same (CSP.out _)))
        have y0:(W.drewN nq).cell? ⟨xb,0,none⟩=some (.int .i64 hh):=y0
        go_wp2_with fail
        refine (CSY.out _).mono ?_
        rintro e w3 ⟨rfl,hb3⟩
        have hbq:Below W.heap.size W (W.drewN nq):=below_drewN (Below.refl _ W) nq
        have HB3:Hid (Below W.heap.size W w3):=Lib.hid (hbq.trans (hb3.mono hbq.size))
        have y3:w3.cell? ⟨xb,0,none⟩=some (.int .i64 hh):=(HB3.out.cell (lt_of_cell y0)).trans y0
        clear hb3 y0 hbq
        cases h1:sylP hh with
        | true =>
          have HR:Hid ((takeP at_ S (x::t)).1=1):=Lib.hid (by rw[HTP.out,HPY.out,if_neg (by rw[HSX.out];decide),if_pos (by rw[HHA.out.1,han_two,h1];rfl)])
          clear h1
          go_wp2
          go_ret
          rw[HR.out]
          exact HP.out.1.no HN2.out (by decide) _ (HBW.out.trans (HB3.out.mono HBW.out.size))
        | false =>
        go_wp2_with fail
        refine (CJA.out _).mono ?_
        rintro e w4 ⟨rfl,hb4⟩
        have HB4:=Lib.hid (HB3.out.trans (hb4.mono HB3.out.size))
        clear hb4 y3
        cases h2:jamP hh with
        | true =>
          have HR:Hid ((takeP at_ S (x::t)).1=1):=Lib.hid (by rw[HTP.out,HPY.out,if_neg (by rw[HSX.out];decide),if_pos (by rw[HHA.out.1,han_two,h1,h2];rfl)])
          clear h1 h2
          go_wp2
          go_ret
          rw[HR.out]
          exact HP.out.1.no HN2.out (by decide) _ (HBW.out.trans (HB4.out.mono HBW.out.size))
        | false =>
        have HHF:Hid (hanP (h:Int)=false):=Lib.hid (by rw[HHA.out.1,han_two,h1,h2];rfl)
        clear h1 h2
        go_wp2_with fail
        obtain⟨V,hV⟩:∃V,V=w4:=⟨_,rfl⟩
        have hWV:Below W.heap.size W V:=by rw[hV];exact HB4.out
        subst hV
        have HRD:Hid (PxW B0 ρ g X cv kv fv dv V):=Lib.hid (HRD0.out.below hWV)
        have HWV:=Lib.hid hWV
        obtain⟨z,hz1,hz2,hz3⟩:=HRD.out.d
        have HXB:Hid (V.heap[xb]? = some (.cells #[.int .i64 hh,.slice vo vn vc,.int .i64 aa] 91 (0,0))∧ToV ρ (.slice vo vn vc) u V):=Lib.hid ⟨by
         rw[←HHA.out.1,←HHA.out.2]
         exact (hWV.block xb (Array.getElem?_eq_some_iff.1 HXL.out.1).1).trans HXL.out.1,HXL.out.2.keep (X:=fun _=>False) (Keep.of_all hWV) (fun _ h=>h.elim)⟩
        obtain⟨q,hq⟩:∃q,X.dl.length=q:=⟨_,rfl⟩
        have hown:OwnS (fun b=>ρ b=5) 91 3 dv q (lnE z) V:=by rw[←hq];exact hz2
        have hq6:q≤1000000:=by rw[←hq];have:=HN.out;omega
        have HQL:=Lib.hid hq
        have HZ2:=Lib.hid (And.intro hz1 hz3)
        clear hz1 hz2 hz3 hq hWV  hkv0
        have hgl:g<V.heap.size:=HRD.out.gl
        have hkg:(dv:Value).ownBlock≠some g:=fun h=>by have h9:=hown.2 _ h;have h8:=HRD.out.rg;simp only at h9;omega
        have hkv:∀b,(dv:Value).ownBlock=some b→b<V.heap.size:=fun b h=>(hown.1.lt b h).2
        have hxg:xb≠g∧(dv:Value).ownBlock≠some xb:=⟨fun e=>by have h8:=HRD.out.rg;have h9:=HRO.out xb (Nat.le_refl _);rw[←e] at h8;omega,fun h=>by have h9:=hown.2 _ h;have h8:=HRO.out xb (Nat.le_refl _);simp only at h9;omega⟩
        have hcg:V.heap[g]? = some (.cells (#[cv,kv,fv,dv]) 85 (0,0)):=HRD.out.cell
        have hfa:∀X:World,(Instr.fieldAt 85 (.pointer (some ⟨g,0,none⟩)) 3).run Tryz.prog X = .ok (.pointer (some ⟨g,3,none⟩)) X:=fun X=>by go_simp
        have hls:∀X:World,X.heap[g]? = some (.cells (#[cv,kv,fv,dv]) 85 (0,0))→(Instr.loadAt 83 (.pointer (some ⟨g,3,none⟩))).run Tryz.prog X = .ok (dv) X:=fun X h=>by
         have q:X.cell? ⟨g,3,none⟩=some (dv):=by rw[Lib.cell_of_heap h];rfl
         obtain⟨ao4,cp4,hk4⟩:=own_slc hown
         rw[hk4] at q ⊢
         go_simp
        have hlx:∀X,Keep (fun b=>b=g∨(dv:Value).ownBlock=some b) V X→(Instr.loadAt 91 (.pointer (some ⟨xb,0,none⟩))).run Tryz.prog X = .ok (.agg #[.int .i64 hh,.slice vo vn vc,.int .i64 aa]) X:=fun X hX=>by
         have q:=hX.heap HXB.out.1 (fun e=>by rcases e with e|e;exact hxg.1 e;exact hxg.2 e)
         have q0:X.cell? ⟨xb,0,none⟩=some (.int .i64 hh):=by rw[Lib.cell_of_heap q];rfl
         have q1:X.cell? ⟨xb,1,none⟩=some (.slice vo vn vc):=by rw[Lib.cell_of_heap q];rfl
         have q2:X.cell? ⟨xb,2,none⟩=some (.int .i64 aa):=by rw[Lib.cell_of_heap q];rfl
         go_simp
        have BS:∀W:World,(Instr.buildSlice 83 1 #[(0,.agg #[.int .i64 hh,.slice vo vn vc,.int .i64 aa])]).run Tryz.prog W = .ok (.slice (some ⟨W.heap.size,0,none⟩) 1 1) (W.alloc (.cells #[.int .i64 hh,.slice vo vn vc,.int .i64 aa] 91)):=fun W=>by go_simp
        have ST:∀(W:World) (ao9:Option Addr) (m2 cap:Nat),W.heap[g]? = some (.cells (#[cv,kv,fv,dv]) 85 (0,0))→(Instr.storeAt 83 (.pointer (some ⟨g,3,none⟩)) (.slice ao9 m2 cap)).run Tryz.prog W = .ok () (W.setCell ⟨g,3,none⟩ (.slice ao9 m2 cap)):=fun W ao9 m2 cap h=>by
         have q:W.cell? ⟨g,3,none⟩=some (dv):=by rw[Lib.cell_of_heap h];rfl
         have q2:W.frozen? ⟨g,3,none⟩=false:=Lib.frozen_of_heap h _
         go_simp
        have S1:∀ {W:World} {u:Value},W.heap[g]? = some (.cells (#[cv,kv,fv,dv]) 85 (0,0))→(W.setCell ⟨g,3,none⟩ u).heap[g]? = some (.cells (#[cv,kv,fv,u]) 85 (0,0)):=fun {W} {u} h=>by
         have:=heap_setCell_same W g 3 _ _ u h
         simpa using this
        obtain⟨ti,hti,hz,hs1,hbt⟩:=info_parts tinfoLnX
        have HI2:=And.intro hti (And.intro hz (And.intro hs1 hbt))
        have HOC:∀z∈([.int .i64 hh,.slice vo vn vc,.int .i64 aa]:List Value),z.oneCell'=true:=by intro z hz;simp at hz;rcases hz with rfl|rfl|rfl <;> rfl
        have HM1:q+1≤maxLen:=by unfold maxLen;omega
        have HM2:(q+1)*40≤140737488355328:=by omega
        obtain⟨FF,hFF⟩:∃FF:FldR,FF=⟨g,V,dv,91,3,q,q+1,lnE z,lnE z++[.int .i64 hh,.slice vo vn vc,.int .i64 aa],85,fun u=>#[cv,kv,fv,u],#[.int .i64 hh,.slice vo vn vc,.int .i64 aa],7,10,6,fun z=>match z with|0=>some (.pointer (some ⟨g,0,none⟩))|1=>some (.pointer (some ⟨g,0,none⟩))|2=>some (.pointer (some ⟨g,0,none⟩))|3=>some (.pointer (some ⟨g,3,none⟩))|4=>some (dv)|5=>some (.agg #[.int .i64 hh,.slice vo vn vc,.int .i64 aa])|8=>some (.pointer (some ⟨g,0,none⟩))|9=>some (.pointer (some ⟨g,3,none⟩))|_=>none⟩:=⟨_,rfl⟩
        have H0:FldR.S FF (fun _=>false) V.drew:=by rw[hFF];exact⟨fun _=>hcg,fun _=>OwnS.weaken (show OwnS (fun b=>ρ b=5) _ _ _ _ _ V.drew from hown) (fun b h e=>by have e2:b=g:=e;have h9:ρ b=5:=h;have h8:=HRD.out.rg;rw[e2] at h9;omega),(Keep.refl _ V).drew⟩
        refine wp_region_done (FldR.S FF) (FldR.P FF) (by kernel_rfl) (by kernel_rfl) (by kernel_rfl) H0 ?hs ?hd
        case hs =>
         rw[hFF]
         refine DSteps.cons ?_ (DSteps.cons ?_ (DSteps.cons ?_ (DSteps.cons ?_ (DSteps.cons ?_ (DSteps.cons ?_ (DSteps.cons ?_ (DSteps.cons ?_ (DSteps.cons ?_ (DSteps.cons ?_ (DSteps.cons ?_ (DSteps.nil)))))))))))
         ·intro D2 a X hDi hDa _ hX hL hd
          refine⟨rfl,?_⟩
          have e0:a.eval (.tmp 0) = .pointer (some ⟨g,0,none⟩):=hL.far 0 (by kernel_rfl)
          exact wp_value (exec_move rfl e0) ⟨_,rfl,hX.more,fun _ _ _ h=>h,FldR.P.mk rfl ⟨by simp,by simp,by simp⟩⟩
         ·intro D2 a X hDi hDa _ hX hL hd
          refine⟨rfl,?_⟩
          have e0:a.eval (.tmp 0) = .pointer (some ⟨g,0,none⟩):=hL.far 0 (by kernel_rfl)
          exact wp_value (exec_move rfl e0) ⟨_,rfl,hX.more,fun _ _ _ h=>h,FldR.P.mk rfl ⟨by simp,by simp,by simp⟩⟩
         ·intro D2 a X hDi hDa _ hX hL hd
          refine⟨rfl,?_⟩
          have e0:a.eval (.tmp 84) = .pointer (some ⟨g,0,none⟩):=(hd 1 84 (by kernel_rfl) (by kernel_rfl)).is rfl
          exact wp_value (exec_nilCheck rfl e0) ⟨_,rfl,hX.more,fun _ _ _ h=>h,FldR.P.mk rfl ⟨by simp,by simp,by simp⟩⟩
         ·intro D2 a X hDi hDa _ hX hL hd
          refine⟨rfl,?_⟩
          have e0:a.eval (.tmp 85) = .pointer (some ⟨g,0,none⟩):=(hd 2 85 (by kernel_rfl) (by kernel_rfl)).is rfl
          exact wp_value (exec_fieldAddr rfl e0 (hfa X)) ⟨_,rfl,hX.more,fun _ _ _ h=>h,FldR.P.mk rfl ⟨by simp,by simp,by simp⟩⟩
         ·intro D2 a X hDi hDa _ hX hL hd
          refine⟨rfl,?_⟩
          have e0:a.eval (.tmp 86) = .pointer (some ⟨g,3,none⟩):=(hd 3 86 (by kernel_rfl) (by kernel_rfl)).is rfl
          exact wp_value (exec_load rfl e0 (hls X (hX.1 (hDa 10 (by kernel_rfl))))) ⟨_,rfl,hX.more,fun _ _ _ h=>h,FldR.P.mk rfl ⟨by simp,by simp,by simp⟩⟩
         ·intro D2 a X hDi hDa _ hX hL hd
          refine⟨rfl,?_⟩
          have e0:a.eval (.tmp 7) = .pointer (some ⟨xb,0,none⟩):=hL.far 7 (by kernel_rfl)
          exact wp_value (exec_load rfl e0 (hlx X hX.2.2)) ⟨_,rfl,hX.more,fun _ _ _ h=>h,FldR.P.mk rfl ⟨by simp,by simp,by simp⟩⟩
         ·intro D2 a X hDi hDa _ hX hL hd
          refine⟨rfl,?_⟩
          have e0:a.eval (.tmp 88) = .agg #[.int .i64 hh,.slice vo vn vc,.int .i64 aa]:=(hd 5 88 (by kernel_rfl) (by kernel_rfl)).is rfl
          refine wp_value (exec_buildSlice rfl (ps:=#[(0,.agg #[.int .i64 hh,.slice vo vn vc,.int .i64 aa])]) (by simp only[List.map_toArray,List.map_cons,List.map_nil,e0] <;> rfl) (BS X)) ⟨_,rfl,(hX.below ((Below.refl _ X).alloc (Nat.le_refl _) _)).more,fun _ _ _ h=>h.below ((Below.refl _ X).alloc (Nat.le_refl _) _),FldR.P.bs rfl ⟨by simp,by simp⟩ ⟨X.heap.size,rfl,alloc_at rfl,hX.2.2.size⟩⟩
         ·intro D2 a X hDi hDa _ hX hL hd
          refine⟨rfl,?_⟩
          have e0:a.eval (.tmp 87)=dv:=(hd 4 87 (by kernel_rfl) (by kernel_rfl)).is rfl
          obtain⟨b2,hb1,hb2,hb3⟩:=(hd 6 89 (by kernel_rfl) (by kernel_rfl)).2.1 rfl
          have h28:=hDa 10 (by kernel_rfl)
          have hown:=hX.2.1 hDi
          refine wp_append_lies X (.tmp 87) (.tmp 89) 83 rfl 0 91 ti (.agg #[.int .i64 0,.slice none 0 0,.int .i64 0]) 3 40 Tryz.underlying83 HI2.1 HI2.2.1 HI2.2.2.1 HI2.2.2.2 rfl (by decide) (dv) q (lnE z) e0 hown.1 ⟨b2,0,none⟩ 1 1 [.int .i64 hh,.slice vo vn vc,.int .i64 aa] hb1 rfl (World.news_of_block hb2) HOC (by decide) HM1 HM2 (Nat.zero_le _) _ rfl ?_
          intro g2 cap2 X2 hown2 hgrow hat hlt2
          exact⟨_,rfl,hX.app hkg h28 (keep_grown hgrow),fun j u hj h=>h.app hkv (keep_grown hgrow) (fun e=>by subst e;rw[hDi] at hj;cases hj) (fun e=>by subst e;rw[h28] at hj;cases hj),FldR.P.row rfl ⟨by simp,by simp⟩ (FldR.row_of (ln:=q+1) hX.2.2.size hgl hkg ⟨hown2,fun y hy=>by
           have:g2=y:=by simpa [Value.ownBlock] using hy
           subst this
           rcases hat with h|h
           ·exact .inl h
           ·exact .inr (by omega)⟩ rfl)⟩
         ·intro D2 a X hDi hDa _ hX hL hd
          refine⟨rfl,?_⟩
          have e0:a.eval (.tmp 83) = .pointer (some ⟨g,0,none⟩):=(hd 0 83 (by kernel_rfl) (by kernel_rfl)).is rfl
          exact wp_value (exec_nilCheck rfl e0) ⟨_,rfl,hX.more,fun _ _ _ h=>h,FldR.P.mk rfl ⟨by simp,by simp,by simp⟩⟩
         ·intro D2 a X hDi hDa _ hX hL hd
          refine⟨rfl,?_⟩
          have e0:a.eval (.tmp 91) = .pointer (some ⟨g,0,none⟩):=(hd 8 91 (by kernel_rfl) (by kernel_rfl)).is rfl
          exact wp_value (exec_fieldAddr rfl e0 (hfa X)) ⟨_,rfl,hX.more,fun _ _ _ h=>h,FldR.P.mk rfl ⟨by simp,by simp,by simp⟩⟩
         ·intro D2 a X hDi hDa _ hX hL hd
          refine⟨rfl,?_⟩
          have e0:a.eval (.tmp 92) = .pointer (some ⟨g,3,none⟩):=(hd 9 92 (by kernel_rfl) (by kernel_rfl)).is rfl
          obtain⟨ao3,ln,cp3,he,ho⟩:=(hd 7 90 (by kernel_rfl) (by kernel_rfl)).2.2.1 rfl
          have hc:=hX.1 hDi
          exact wp_skipped (exec_store rfl e0 he (ST X _ _ _ hc)) ⟨undef,rfl,hX.store,fun j u hj h=>h.store hgl (fun e=>by subst e;rw[hDi] at hj;cases hj),FldR.P.last rfl ⟨by simp,by simp⟩ ⟨_,FldR.Row.store ⟨ao3,ln,cp3,rfl,by rw[←he];exact ho⟩,S1 hc⟩⟩
        case hd =>
         intro D2 a X9 hAll hX9 hL hP hE
         obtain⟨_,hp⟩:=hE 10 (by decide)
         rw[hFF] at hp hX9
         obtain⟨u9,⟨ao2,ln,cp2,hu0,ho⟩,hu⟩:=hp.2.2.2 rfl
         simp only at ho hu
         have hK:=hX9.2.2
         obtain⟨f,ha,hf⟩:=hL.out [83,84,85,86,87,88,89,90,91,92] rfl
         have HF:=Lib.hid (And.intro ho (And.intro hu hK))
         clear hf hAll hP hX9 hL hE hp ho hu hu0 hK S1 hfa hls hlx BS ST HI2 HOC HM1 HM2 H0 hFF hti hz hs1 hbt hown hkg hkv hxg hcg hgl
         simp only[List.foldl_cons,List.foldl_nil,List.setIfInBounds_toArray,List.set_cons_zero,List.set_cons_succ] at ha
         subst ha
         go_wp2
         go_ret
         obtain⟨ho,hu,hK⟩:=HF.out
         have e:lnE (z++[((h,u,at_),.slice vo vn vc)])=lnE z++[.int .i64 hh,.slice vo vn vc,.int .i64 aa]:=by rw[lnE_snoc,←HHA.out.1,←HHA.out.2]
         have hzl:z.length=q:=by have:=congrArg List.length HZ2.out.1;rw[List.length_map] at this;rw[this];exact HQL.out
         rw[←e,←hzl] at ho
         have hx:(S.ds h).isSome=false:=HSX.out
         have hP2:=HRD.out.newd (x:=(h,u,at_)) z HZ2.out.1 HZ2.out.2 HXB.out.2 hK hu ho
         have hR1:takeP at_ S (x::t)=(0,{ S with ds:=updN S.ds h u,ls:=updN S.ls h at_ }):=by
          rw[HTP.out,HPY.out,if_neg (by rw[hx];decide),if_neg (by rw[HHF.out];decide)]
         rw[hR1]
         have hb9:Below B0 w V:=(HBW.out.mono HP.out.1.hB).trans (HWV.out.mono (Nat.le_trans HP.out.1.hB HBW.out.size))
         refine⟨rfl,hb9.trans (hK.below (Nat.le_trans HP.out.1.hB hb9.size) (fun b hb=>?_)),_,_,_,_,_,_,hP2,fun _=>HX.out.dec (x:=h) hx u at_,?_⟩
         ·rcases hb with rfl|hb
          ·exact HRD.out.hr _ (by rw[HRD.out.rg];decide)
          ·have h9:ρ b=5:=by obtain⟨_,_,h8,_⟩:=HRD.out.d;exact h8.2 _ hb
           exact HRD.out.hr _ (by omega)
         ·have:=HN.out
          constructor <;> simp <;> omega
end Go.Proofs.YtgpbaeehajkebaaGreatDoor
