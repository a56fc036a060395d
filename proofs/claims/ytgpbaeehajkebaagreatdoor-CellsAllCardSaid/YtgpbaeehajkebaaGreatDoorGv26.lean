/- Parts of the proof of what the last text says. -/
import Derived.Test.YtgpbaeehajkebaaGreatDoorGv21
import Derived.Test.YtgpbaeehajkebaaGreatDoorGv25
import Derived.Test.YtgpbaeehajkebaaGreatDoorGv19
import Derived.Deep.AppendLies
import Derived.Test.YtgpbaeehajkebaaGreatDoorZnx
import Derived.Test.YtgpbaeehajkebaaGreatDoorGv23
import Derived.Test.YtgpbaeehajkebaaGreatDoorGv17
import Derived.BigQuiet
import Derived.IntWalk
namespace Go.Proofs.YtgpbaeehajkebaaGreatDoor
open Go Go.RowKit Go.Kt Go.Kt.Rg Go.Maps
attribute [local go_sem] Oper.semAt_some
theorem prL_get:∀(r:List Nat) (f k x y:Nat),(f::r)[k]? = some x→(f::r)[k+1]? = some y→(prL f r)[k]? = some (x,y)
 | [],f,k,x,y,_,h=>by simp at h
 | z::r,f,0,x,y,h1,h2=>by
   simp at h1 h2
   subst h1;subst h2
   rfl
 | z::r,f,k+1,x,y,h1,h2=>by
   rw[List.getElem?_cons_succ] at h1 h2
   have:=prL_get r z k x y h1 h2
   show ((f,z)::prL z r)[k+1]? = _
   rw[List.getElem?_cons_succ];exact this
theorem prL_len:∀(r:List Nat) (f:Nat),(prL f r).length=r.length
 | [],_=>rfl
 | z::r,f=>by show (prL z r).length+1=r.length+1;rw[prL_len r z]
theorem celL_get (S:RdS) (s:ByteArray) (k x y:Nat) (h1:(edL S s)[k]? = some x) (h2:(edL S s)[k+1]? = some y):(celL S s)[k]? = some (x,y):=by
 by_cases hz:s.size=0
 ·unfold edL at h1
  rw[if_pos hz] at h1
  simp at h1
 ·obtain⟨r,hr,hc⟩:=edL_all S s hz
  rw[hr] at h1 h2
  rw[←hc]
  exact prL_get r 0 k x y h1 h2
theorem celL_edL (S:RdS) (s:ByteArray):(celL S s).length=(edL S s).length-1:=by
 by_cases hz:s.size=0
 ·unfold edL celL
  rw[if_pos hz,if_pos hz];rfl
 ·obtain⟨r,hr,hc⟩:=edL_all S s hz
  rw[hr,←hc,prL_len];rfl
theorem edL_len (S:RdS) (s:ByteArray):(edL S s).length≤s.size+1:=by
 by_cases hz:s.size=0
 ·unfold edL
  rw[if_pos hz];exact Nat.zero_le _
 ·rw[edL_P S s hz,List.length_append]
  have h1:=edP_len S s ((units s).length-1)
  have h2:=units_len s
  have h3:=units_pos s hz
  simp only[List.length_cons,List.length_nil]
  omega
theorem ntr_at {w:World} {v:Value} {L:List Nat} (h:NtR w v L):∃ao cp,v = .slice ao L.length cp∧∀V,Below w.heap.size w V→∀(k x:Nat),L[k]? = some x→∃g,ao=some ⟨g,0,none⟩∧V.cell? ⟨g,k,none⟩=some (.int .i64 x):=by
 obtain⟨ao,cp,rfl,h⟩:=h
 refine⟨ao,cp,rfl,fun V hV k x hx=>?_⟩
 rcases h with h|⟨g,rfl,h⟩
 ·rw[h] at hx;cases hx
 ·have h1:=h k x hx
  exact⟨g,rfl,(hV.cell (lt_of_cell h1)).trans h1⟩
set_option maxRecDepth 100000 in
set_option maxHeartbeats 4000000 in
theorem yAll {gx:Nat} {S:RdS} (s:ByteArray) (w:World) (HD:DocK gx S w) (hs:s.size≤1000000) :
 Calls Tryz.prog 6 #[.pointer (some ⟨gx,0,none⟩),.string s] w fun e w'=>∃v,e = .returned v∧PrR w' v (celL S s)∧Below w.heap.size w w':=by
 have CU:=Lib.hid (yEdges s w HD hs)
 have hll:=edL_len S s
 have hcl:=celL_edL S s
 have HG:=Lib.hid (celL_get S s)
 clear HD
 go_enter Tryz.func6,Tryz.ntmps6
 go_wp2_with fail
 refine CU.out.mono ?_
 rintro e w1 ⟨v1,rfl,hv1,hb1⟩
 obtain⟨ao,cp,rfl,hv⟩:=ntr_at hv1
 have HR:=Lib.hid hv
 have HB1:=Lib.hid hb1
 obtain⟨E,hE⟩:∃E,edL S s=E:=⟨_,rfl⟩
 obtain⟨C,hC⟩:∃C,celL S s=C:=⟨_,rfl⟩
 rw[hE] at HG HR hll hcl ⊢
 rw[hC] at HG hcl
 have HC:=Lib.hid hC
 obtain⟨n,hn⟩:∃n,E.length=n:=⟨_,rfl⟩
 have HN:=Lib.hid hn
 rw[hn] at hll hcl ⊢
 clear hv hv1 hb1 hE hC hn CU
 go_wp2
 go_loopw [6,7] (fun o z wr=>∃(k:Nat) (a2:Option Addr) (c2:Nat),z = .int .i64 k∧k≤C.length∧o = .slice a2 k c2∧Hid (OwnS (fun b=>w1.heap.size≤b) 47 2 (.slice a2 k c2) k (encL2 (C.take k)) wr∧Below w1.heap.size w1 wr)) (fun _ z _=>n-(RowKit.intOf z).toNat)
 case atStart=>exact⟨0,none,0,rfl,Nat.zero_le _,rfl,Lib.hid ⟨own_nil _ _ _ _,Below.refl _ _⟩⟩
 case round =>
  obtain⟨k,a2,c2,rfl,hk,rfl,HI⟩:=hrel
  have hk1:IntKind.i64.wrap ((k:Int)+1)=(k:Int)+1:=IntWalk.i64_in _ (by omega)
  by_cases hlt:k+1<n
  ·have hlt':(k:Int)+1<n:=by omega
   obtain⟨x,hx⟩:∃x,E[k]? = some x:=⟨_,List.getElem?_eq_getElem (by rw[HN.out];omega)⟩
   obtain⟨y,hy⟩:∃y,E[k+1]? = some y:=⟨_,List.getElem?_eq_getElem (by rw[HN.out];exact hlt)⟩
   have hxy:=HG.out k x y hx hy
   have HS:Hid (C.take (k+1)=C.take k++[(x,y)]):=Lib.hid (by rw[List.take_add_one,hxy];rfl)
   obtain⟨g,rfl,_⟩:=HR.out wr HI.out.2 k x hx
   have RK:Hid (∀X,Below w1.heap.size w1 X→X.cell? ⟨g,k,none⟩=some (.int .i64 x)∧X.cell? ⟨g,k+1,none⟩=some (.int .i64 y)):=Lib.hid fun X hX=>by
    obtain⟨g1,e1,h1⟩:=HR.out X hX k x hx
    obtain⟨g2,e2,h2⟩:=HR.out X hX (k+1) y hy
    injection e1 with e1
    injection e1 with e1
    injection e2 with e2
    injection e2 with e2
    subst e1;subst e2
    exact⟨h1,h2⟩
   have hkl:k+1≤C.length:=by omega
   clear hx hy hxy
   obtain⟨L,hLL⟩:∃L,C.take k=L:=⟨_,rfl⟩
   rw[hLL] at HI HS
   have hown1:OwnS (fun y=>(Value.slice a2 k c2).ownBlock=some y) 47 2 (.slice a2 k c2) k (encL2 L) wr:=HI.out.1.self
   have hkv:∀y,(Value.slice a2 k c2).ownBlock=some y→y<wr.heap.size:=fun y h=>(HI.out.1.1.lt y h).2
   obtain⟨ti,hti,hz,hs1,hbt⟩:=info_parts tinfo2
   have HI9:=And.intro hti (And.intro hz (And.intro hs1 hbt))
   have HOC:∀z∈[Value.int .i64 (x:Nat),.int .i64 (y:Nat)],z.oneCell'=true:=by intro z hz;simp at hz;rcases hz with rfl|rfl <;> rfl
   have HM1:k+1≤maxLen:=by unfold maxLen;omega
   have HM2:(k+1)*16≤140737488355328:=by omega
   have BS:∀W:World,(Instr.buildSlice 27 1 #[(0,.agg #[.int .i64 (x:Nat),.int .i64 (y:Nat)])]).run Tryz.prog W = .ok (.slice (some ⟨W.heap.size,0,none⟩) 1 1) (W.alloc (.cells #[.int .i64 (x:Nat),.int .i64 (y:Nat)] 47)):=fun W=>by go_simp
   have BD:∀W:World,(Instr.build 47 #[(0,.int .i64 (x:Nat)),(1,.int .i64 (y:Nat))]).run Tryz.prog W = .ok (.agg #[.int .i64 (x:Nat),.int .i64 (y:Nat)]) W:=fun W=>by go_simp
   have BK:∀X,Keep (fun b=>(Value.slice a2 k c2).ownBlock=some b) wr X→Below w1.heap.size w1 X:=fun X hX=>HI.out.2.trans (hX.below HI.out.2.size fun b h=>HI.out.1.2 b h)
   have hl0:∀X,Keep (fun b=>(Value.slice a2 k c2).ownBlock=some b) wr X→(Instr.loadAt 3 (.pointer (some ⟨g,k,none⟩))).run Tryz.prog X = .ok (.int .i64 (x:Nat)) X:=fun X hX=>by
    have q:=(RK.out X (BK X hX)).1
    go_simp
   have hl1:∀X,Keep (fun b=>(Value.slice a2 k c2).ownBlock=some b) wr X→(Instr.loadAt 3 (.pointer (some ⟨g,k+1,none⟩))).run Tryz.prog X = .ok (.int .i64 (y:Nat)) X:=fun X hX=>by
    have q:=(RK.out X (BK X hX)).2
    go_simp
   have hkk:(k:Int)<n:=by omega
   have hix:∀X:World,(Instr.indexAt 48 (.slice (some ⟨g,0,none⟩) n cp) (.int .i64 (k:Nat))).run Tryz.prog X = .ok (.pointer (some ⟨g,k,none⟩)) X:=fun X=>by go_simp
   have hiy:∀X:World,(Instr.indexAt 48 (.slice (some ⟨g,0,none⟩) n cp) (.int .i64 ((k:Int)+1))).run Tryz.prog X = .ok (.pointer (some ⟨g,k+1,none⟩)) X:=fun X=>by
    have e:((k:Int)+1).toNat=k+1:=by omega
    have e2:¬(k:Int)+1<0:=by omega
    go_simp
   have HAD:∀(X:World) (u v:Operand),(do eqGuard .add 3 u v (.int .i64 (k:Nat)) (.int .i64 1);binOp .add 3 (.int .i64 (k:Nat)) (.int .i64 1):Sem Value).run Tryz.prog X = .ok (.int .i64 ((k:Int)+1)) X:=fun X u v=>by go_simp
   go_wp2
   obtain⟨FF,hFF⟩:∃FF:AppR,FF=⟨wr,.slice a2 k c2,47,2,k,k+1,encL2 L,encL2 L++[.int .i64 (x:Nat),.int .i64 (y:Nat)],#[.int .i64 (x:Nat),.int .i64 (y:Nat)],1,11,12,13,fun z=>match z with|0=>some (.slice a2 k c2)|1=>some (.slice (some ⟨g,0,none⟩) n cp)|2=>some (.int .i64 (k:Nat))|3=>some (.pointer (some ⟨g,k,none⟩))|4=>some (.int .i64 (x:Nat))|5=>some (.slice (some ⟨g,0,none⟩) n cp)|6=>some (.int .i64 (k:Nat))|7=>some (.int .i64 ((k:Int)+1))|8=>some (.pointer (some ⟨g,k+1,none⟩))|9=>some (.int .i64 (y:Nat))|10=>some (.agg #[.int .i64 (x:Nat),.int .i64 (y:Nat)])|_=>none⟩:=⟨_,rfl⟩
   have H0:AppR.S FF (fun _=>false) wr.drew:=by rw[hFF];exact⟨fun _=>hown1,(Keep.refl _ wr).drew⟩
   refine wp_region_old (AppR.S FF) (AppR.P FF) (by kernel_rfl) (by kernel_rfl) (by kernel_rfl) H0 ?hs ?hd
   case hs =>
    rw[hFF]
    refine ESteps.cons ?_ (ESteps.cons ?_ (ESteps.cons ?_ (ESteps.cons ?_ (ESteps.cons ?_ (ESteps.cons ?_ (ESteps.cons ?_ (ESteps.cons ?_ (ESteps.cons ?_ (ESteps.cons ?_ (ESteps.cons ?_ (ESteps.cons ?_ (ESteps.cons ?_ (ESteps.cons ?_ (ESteps.nil))))))))))))))
    ·intro D2 a X hDi hDa _ hX hL hU hd
     refine⟨rfl,?_⟩
     have e0:a.eval (.tmp 6) = .slice a2 k c2:=(hU 13 6 (hDa 13 (by kernel_rfl)) (by kernel_rfl)).trans (by kernel_rfl)
     exact wp_value (exec_move rfl e0) ⟨_,rfl,hX.more,fun _ _ _ h=>h,AppR.P.mk rfl ⟨by simp,by simp,by simp⟩⟩
    ·intro D2 a X hDi hDa _ hX hL hU hd
     refine⟨rfl,?_⟩
     have e0:a.eval (.tmp 5) = .slice (some ⟨g,0,none⟩) n cp:=hL.far 5 (by kernel_rfl)
     exact wp_value (exec_move rfl e0) ⟨_,rfl,hX.more,fun _ _ _ h=>h,AppR.P.mk rfl ⟨by simp,by simp,by simp⟩⟩
    ·intro D2 a X hDi hDa _ hX hL hU hd
     refine⟨rfl,?_⟩
     have e0:a.eval (.tmp 7) = .int .i64 (k:Nat):=hL.far 7 (by kernel_rfl)
     exact wp_value (exec_move rfl e0) ⟨_,rfl,hX.more,fun _ _ _ h=>h,AppR.P.mk rfl ⟨by simp,by simp,by simp⟩⟩
    ·intro D2 a X hDi hDa _ hX hL hU hd
     refine⟨rfl,?_⟩
     have e0:a.eval (.tmp 19) = .slice (some ⟨g,0,none⟩) n cp:=(hd 1 19 (by kernel_rfl) (by kernel_rfl)).is rfl
     have e1:a.eval (.tmp 20) = .int .i64 (k:Nat):=(hd 2 20 (by kernel_rfl) (by kernel_rfl)).is rfl
     exact wp_value (exec_indexAddr rfl e0 e1 (hix X)) ⟨_,rfl,hX.more,fun _ _ _ h=>h,AppR.P.mk rfl ⟨by simp,by simp,by simp⟩⟩
    ·intro D2 a X hDi hDa _ hX hL hU hd
     refine⟨rfl,?_⟩
     have e0:a.eval (.tmp 21) = .pointer (some ⟨g,k,none⟩):=(hd 3 21 (by kernel_rfl) (by kernel_rfl)).is rfl
     exact wp_value (exec_load rfl e0 (hl0 X hX.2)) ⟨_,rfl,hX.more,fun _ _ _ h=>h,AppR.P.mk rfl ⟨by simp,by simp,by simp⟩⟩
    ·intro D2 a X hDi hDa _ hX hL hU hd
     refine⟨rfl,?_⟩
     have e0:a.eval (.tmp 5) = .slice (some ⟨g,0,none⟩) n cp:=hL.far 5 (by kernel_rfl)
     exact wp_value (exec_move rfl e0) ⟨_,rfl,hX.more,fun _ _ _ h=>h,AppR.P.mk rfl ⟨by simp,by simp,by simp⟩⟩
    ·intro D2 a X hDi hDa _ hX hL hU hd
     refine⟨rfl,?_⟩
     have e0:a.eval (.tmp 7) = .int .i64 (k:Nat):=hL.far 7 (by kernel_rfl)
     exact wp_value (exec_move rfl e0) ⟨_,rfl,hX.more,fun _ _ _ h=>h,AppR.P.mk rfl ⟨by simp,by simp,by simp⟩⟩
    ·intro D2 a X hDi hDa _ hX hL hU hd
     refine⟨rfl,?_⟩
     have e0:a.eval (.tmp 24) = .int .i64 (k:Nat):=(hd 6 24 (by kernel_rfl) (by kernel_rfl)).is rfl
     exact wp_value (exec_binop rfl e0 rfl (HAD X _ _)) ⟨_,rfl,hX.more,fun _ _ _ h=>h,AppR.P.mk rfl ⟨by simp,by simp,by simp⟩⟩
    ·intro D2 a X hDi hDa _ hX hL hU hd
     refine⟨rfl,?_⟩
     have e0:a.eval (.tmp 23) = .slice (some ⟨g,0,none⟩) n cp:=(hd 5 23 (by kernel_rfl) (by kernel_rfl)).is rfl
     have e1:a.eval (.tmp 25) = .int .i64 ((k:Int)+1):=(hd 7 25 (by kernel_rfl) (by kernel_rfl)).is rfl
     exact wp_value (exec_indexAddr rfl e0 e1 (hiy X)) ⟨_,rfl,hX.more,fun _ _ _ h=>h,AppR.P.mk rfl ⟨by simp,by simp,by simp⟩⟩
    ·intro D2 a X hDi hDa _ hX hL hU hd
     refine⟨rfl,?_⟩
     have e0:a.eval (.tmp 26) = .pointer (some ⟨g,k+1,none⟩):=(hd 8 26 (by kernel_rfl) (by kernel_rfl)).is rfl
     exact wp_value (exec_load rfl e0 (hl1 X hX.2)) ⟨_,rfl,hX.more,fun _ _ _ h=>h,AppR.P.mk rfl ⟨by simp,by simp,by simp⟩⟩
    ·intro D2 a X hDi hDa _ hX hL hU hd
     refine⟨rfl,?_⟩
     have e0:a.eval (.tmp 22) = .int .i64 (x:Nat):=(hd 4 22 (by kernel_rfl) (by kernel_rfl)).is rfl
     have e1:a.eval (.tmp 27) = .int .i64 (y:Nat):=(hd 9 27 (by kernel_rfl) (by kernel_rfl)).is rfl
     exact wp_value (exec_build rfl (ps:=#[(0,.int .i64 (x:Nat)),(1,.int .i64 (y:Nat))]) (by simp only[List.map_toArray,List.map_cons,List.map_nil,e0,e1] <;> rfl) (BD X)) ⟨_,rfl,hX.more,fun _ _ _ h=>h,AppR.P.mk rfl ⟨by simp,by simp,by simp⟩⟩
    ·intro D2 a X hDi hDa _ hX hL hU hd
     refine⟨rfl,?_⟩
     have e0:a.eval (.tmp 28) = .agg #[.int .i64 (x:Nat),.int .i64 (y:Nat)]:=(hd 10 28 (by kernel_rfl) (by kernel_rfl)).is rfl
     refine wp_value (exec_buildSlice rfl (ps:=#[(0,.agg #[.int .i64 (x:Nat),.int .i64 (y:Nat)])]) (by simp only[List.map_toArray,List.map_cons,List.map_nil,e0] <;> rfl) (BS X)) ⟨_,rfl,(hX.below ((Below.refl _ X).alloc (Nat.le_refl _) _)).more,fun _ _ _ h=>h.below ((Below.refl _ X).alloc (Nat.le_refl _) _),AppR.P.bs_ rfl ⟨by simp,by simp⟩ ⟨X.heap.size,rfl,alloc_at rfl,hX.2.size⟩⟩
    ·intro D2 a X hDi hDa _ hX hL hU hd
     refine⟨rfl,?_⟩
     have e0:a.eval (.tmp 18) = .slice a2 k c2:=(hd 0 18 (by kernel_rfl) (by kernel_rfl)).is rfl
     obtain⟨b2,hb1,hb2,hb3⟩:=(hd 11 29 (by kernel_rfl) (by kernel_rfl)).2.1 rfl
     have h11:=hDa 13 (by kernel_rfl)
     have hown:=hX.1 hDi
     refine wp_append_lies X (.tmp 18) (.tmp 29) 27 rfl 0 47 ti (.agg #[.int .i64 0,.int .i64 0]) 2 16 Tryz.underlying27 HI9.1 HI9.2.1 HI9.2.2.1 HI9.2.2.2 rfl (by decide) (.slice a2 k c2) k (encL2 L) e0 hown.1 ⟨b2,0,none⟩ 1 1 [.int .i64 (x:Nat),.int .i64 (y:Nat)] hb1 rfl (World.news_of_block hb2) HOC (by decide) HM1 HM2 (Nat.zero_le _) _ rfl ?_
     intro g2 cap2 X2 hown2 hgrow hat hlt2
     exact⟨_,rfl,hX.app (keep_grown hgrow),fun j u hj h=>h.app hkv (keep_grown hgrow) (fun e=>by subst e;rw[hDi] at hj;cases hj) (fun e=>by subst e;rw[h11] at hj;cases hj),AppR.P.row (.inl rfl) rfl (by simp) ⟨_,_,rfl,hown2,fun y hy=>by
      have:g2=y:=by simpa [Value.ownBlock] using hy
      subst this
      rcases hat with h|h
      ·exact .inl h
      ·exact .inr (by have:=hX.2.size;simp only at this ⊢;omega)⟩⟩
    ·intro D2 a X hDi hDa _ hX hL hU hd
     refine⟨rfl,?_⟩
     have hrow:=(hd 12 30 (by kernel_rfl) (by kernel_rfl)).2.2 (.inl rfl)
     exact wp_value (exec_asgD rfl rfl) ⟨_,rfl,hX.more,fun _ _ _ h=>h,AppR.P.row (.inr rfl) rfl (by simp) hrow⟩
   case hd =>
    intro D2 a X hAll hX hL hP hE
    have hrow:=(hP 13 6 (by kernel_rfl)).2.2 (.inr (by rw[hFF]))
    rw[hFF] at hrow hX
    obtain⟨ao2,cp2,hv3,ho2⟩:=hrow
    have hK:=hX.2
    obtain⟨f,ha2,hf⟩:=hL.out [18,19,20,21,22,23,24,25,26,27,28,29,30,6] rfl
    have v3:f 6 = .slice ao2 (k+1) cp2:=(hf 6).trans hv3
    have HX:=Lib.hid (And.intro ho2 hK)
    clear hf hAll hX hL hP hE H0 hFF BS BD HM1 HM2 HOC HI9 hti hz hs1 hbt hkv hown1 ho2 hK hv3 hl0 hl1 hix hiy HAD
    simp only[List.foldl_cons,List.foldl_nil,List.setIfInBounds_toArray,List.set_cons_zero,List.set_cons_succ,v3] at ha2
    subst ha2
    go_wp2
    go_roundw
    case rel =>
     obtain⟨ho2,hK⟩:=HX.out
     simp only at ho2 hK
     refine⟨k+1,_,_,by go_num,hkl,rfl,Lib.hid ⟨?_,BK X hK⟩⟩
     rw[HS.out,encL2_snoc]
     exact ho2.weaken (fun y hy=>by
      rcases hy with h|h
      ·exact HI.out.1.2 y h
      ·exact Nat.le_trans HI.out.2.size h)
    case measure=>simp[RowKit.intOf];omega
  ·have hlt':¬(k:Int)+1<n:=by omega
   obtain rfl:k=C.length:=by omega
   have HF:Hid (PrR wr (.slice a2 C.length c2) (celL S s)∧Below w.heap.size w wr):=Lib.hid ⟨by rw[HC.out];exact prr_own (Y:=fun b=>w1.heap.size≤b) (by have:=HI.out.1;rw[List.take_length] at this;exact this) rfl,HB1.out.trans (HI.out.2.mono HB1.out.size)⟩
   clear HI HG HR hcl
   go_wp2
   go_ret
   exact⟨_,rfl,HF.out.1,HF.out.2⟩
set_option maxRecDepth 100000 in
set_option maxHeartbeats 2000000 in
theorem yEdge {gx:Nat} {S:RdS} (s:ByteArray) (i:Int) (w:World) (HD:DocK gx S w) (hs:s.size≤1000000) :
 Calls Tryz.prog 13 #[.pointer (some ⟨gx,0,none⟩),.string s,.int .i64 i] w fun e w'=>e = .returned (.bool (edgP S s i))∧Below w.heap.size w w':=by
 rw[edL_at]
 have CU:=Lib.hid (yEdges s w HD hs)
 have hll:=edL_len S s
 clear HD
 go_enter Tryz.func13,Tryz.ntmps13
 go_wp2_with fail
 refine CU.out.mono ?_
 rintro e w1 ⟨v1,rfl,hv1,hb1⟩
 obtain⟨ao,cp,rfl,hv⟩:=ntr_at hv1
 have HR:=Lib.hid hv
 have HB1:=Lib.hid hb1
 obtain⟨E,hE⟩:∃E,edL S s=E:=⟨_,rfl⟩
 rw[hE] at HR hll ⊢
 have HEE:=Lib.hid hE
 obtain⟨n,hn⟩:∃n,E.length=n:=⟨_,rfl⟩
 have HN:=Lib.hid hn
 rw[hn] at hll ⊢
 clear hv hv1 hb1 hE hn CU
 go_wp2
 go_loopw [8] (fun z wr=>∃k:Nat,z = .int .i64 k∧k≤n∧Hid ((∀j x,j<k→E[j]? = some x→(x:Int)≠i)∧Below w1.heap.size w1 wr)) (fun z _=>n-(RowKit.intOf z).toNat)
 case atStart=>exact⟨0,rfl,Nat.zero_le _,Lib.hid ⟨fun j x h=>by omega,Below.refl _ _⟩⟩
 case round =>
  obtain⟨k,rfl,hk,HI⟩:=hrel
  by_cases hlt:k<n
  ·have hlt':(k:Int)<n:=by omega
   obtain⟨x,hx⟩:∃x,E[k]? = some x:=⟨_,List.getElem?_eq_getElem (by rw[HN.out];exact hlt)⟩
   obtain⟨g,rfl,r1⟩:=HR.out wr HI.out.2 k x hx
   have hk1:IntKind.i64.wrap ((k:Int)+1)=((k+1:Nat):Int):=by rw[IntWalk.i64_in _ (by omega)];omega
   by_cases he:(x:Int)=i
   ·have HF:Hid (((edL S s).any fun (j:Nat)=>(j:Int)==i)=true∧Below w.heap.size w wr):=Lib.hid ⟨by rw[HEE.out];exact List.any_eq_true.2 ⟨x,List.mem_of_getElem? hx,by rw[beq_iff_eq];exact he⟩,HB1.out.trans (HI.out.2.mono HB1.out.size)⟩
    have heq:((x:Int)==i)=true:=by rw[beq_iff_eq];exact he
    clear hx he
    go_wp2
    go_ret
    exact⟨by rw[HF.out.1];rfl,HF.out.2⟩
   ·have hne:((x:Int)==i)=false:=by rw[beq_eq_false_iff_ne];exact he
    have HF:Hid ((∀j y,j<k+1→E[j]? = some y→(y:Int)≠i)∧Below w1.heap.size w1 wr):=Lib.hid ⟨fun j y hj hy=>by
     rcases Nat.lt_or_ge j k with h|h
     ·exact HI.out.1 j y h hy
     ·obtain rfl:j=k:=by omega
      rw[hx] at hy
      injection hy with hy
      subst hy
      exact he,HI.out.2⟩
    clear hx he
    go_wp2
    go_roundw
    case rel=>exact⟨k+1,by go_num,by omega,HF⟩
    case measure=>simp[RowKit.intOf];omega
  ·have hlt':¬(k:Int)<n:=by omega
   obtain rfl:k=n:=by omega
   have HF:Hid (((edL S s).any fun (j:Nat)=>(j:Int)==i)=false∧Below w.heap.size w wr):=Lib.hid ⟨by
    rw[HEE.out,List.any_eq_false]
    intro x hx
    obtain⟨j,hj,e⟩:=List.mem_iff_getElem.1 hx
    have:=HI.out.1 j x (by rw[←HN.out];exact hj) (by rw[List.getElem?_eq_getElem hj,e])
    simpa using this,HB1.out.trans (HI.out.2.mono HB1.out.size)⟩
   clear HI HR
   go_wp2
   go_ret
   exact⟨by rw[HF.out.1];rfl,HF.out.2⟩
end Go.Proofs.YtgpbaeehajkebaaGreatDoor
namespace Go.Proofs.YtgpbaeehajkebaaGreatDoor
open Go Go.RowKit Go.Kt Go.Kt.Rg Go.Maps
def BothO (l:List UInt8) (e:Ending) (w w':World):Prop:=Below w.heap.size w w'∧((∃x y,e = .returned (.tuple #[x,y,.bool false])) ∨
 ∃g gx line S L X cv kv fv dv B0 ρ,e = .returned (.tuple #[.pointer (some ⟨g,0,none⟩),.pointer (some ⟨gx,0,none⟩),.bool true])∧ParseR l 0 line S L∧PrW g S (mdOf S L) w'∧PxW B0 ρ gx X cv kv fv dv w'∧XRel X S)
theorem errP_if (no line:Nat):∃t v,errP no line = .iface t v:=by
 unfold errP
 split
 ·exact⟨_,_,rfl⟩
 ·exact⟨_,_,rfl⟩
set_option maxRecDepth 100000 in
set_option maxHeartbeats 2000000 in
theorem cboth (f:ByteArray) (w:World) (hE:PEnv w∧KTabX w):Calls Tryz.prog 4 #[.string f] w fun e w'=>BothO f.data.toList e w w':=by
 by_cases hbig:4096<f.size
 ·have h1:(4096:Int)<f.size:=by omega
  clear hbig hE
  go_enter Tryz.func4,Tryz.ntmps4
  go_wp2
  go_ret3
  exact⟨Below.refl _ _,.inl ⟨_,_,rfl⟩⟩
 have h1:¬(4096:Int)<f.size:=by omega
 have CP:=Lib.hid (pParse f w hE.1)
 have CY:=Lib.hid (fun W (h:Below w.heap.size w W)=>yParse f W (by omega) (hE.2.below h))
 have eq1:∀(t:TypeId) (v:Value) (W:World),(binOp .eql 40 (.iface t v) .nilIface).run Tryz.prog W = .ok (.bool false) W:=fun t v W=>by go_simp
 clear hE hbig
 go_enter Tryz.func4,Tryz.ntmps4
 go_wp2_with fail
 refine CP.out.mono ?_
 rintro e w1 ⟨no,line,S,L,hP,hb1,⟨rfl,g,rfl,hW⟩|⟨h0,rfl⟩⟩
 ·have HB1:=Lib.hid hb1
  have HX:=Lib.hid (And.intro hP hW)
  clear hP hb1 hW
  go_wp2_with fail
  refine (CY.out w1 HB1.out).mono ?_
  rintro e w2 ⟨no2,line2,S2,L2,hP2,h⟩
  obtain⟨rfl,rfl,hSL⟩:=ParseR.uniq HX.out.1 hP2
  obtain⟨rfl,rfl⟩:=hSL rfl
  rcases h with ⟨_,gx,X,cv,kv,fv,dv,B0,ρ,rfl,hPx,hXR,hln,hb2⟩|⟨h0,_⟩
  rotate_left
  ·exact absurd rfl h0
  obtain⟨w3,hw3⟩:∃W,w2.alloc (.cells #[.int .i64 0,.int .i64 0] 44)=W:=⟨_,rfl⟩
  have hb3:Below w2.heap.size w2 w3:=by rw[←hw3];exact (Below.refl _ w2).alloc (Nat.le_refl _) _
  have c0:w3.cell? ⟨w2.heap.size,0,none⟩=some (.int .i64 0):=by rw[←hw3,Lib.cell_of_heap (World.alloc_heap_new _ _)];rfl
  have HF:Hid (∀q,BothO f.data.toList (.returned (.tuple #[.pointer (some ⟨g,0,none⟩),.pointer (some ⟨gx,0,none⟩),.bool true])) w (w3.drewN q)):=Lib.hid fun q=>by
   have hb23:Below w2.heap.size w2 (w3.drewN q):=below_drewN hb3 q
   have hb13:Below w1.heap.size w1 (w3.drewN q):=hb2.trans (hb23.mono hb2.size)
   exact⟨HB1.out.trans (hb13.mono HB1.out.size),.inr ⟨g,gx,_,S,L,X,cv,kv,fv,dv,B0,ρ,rfl,HX.out.1,HX.out.2.below hb13,hPx.below hb23,hXR⟩⟩
  have HW3:=Lib.hid hw3
  clear hP2 hPx hXR hln hb2 hb3 hw3
  go_wp2_with fail
  rw[HW3.out]
  go_quiet (fail)
  go_wp2
  go_ret3
  exact HF.out _
 ·obtain⟨t,v,hv⟩:=errP_if no line
  rw[hv]
  have HB1:=Lib.hid hb1
  have HX:=Lib.hid (And.intro hP h0)
  clear hP hb1 hv h0
  go_wp2_with fail
  refine (CY.out w1 HB1.out).mono ?_
  rintro e w2 ⟨no2,line2,S2,L2,hP2,h⟩
  obtain⟨rfl,rfl,_⟩:=ParseR.uniq HX.out.1 hP2
  rcases h with ⟨h0,_⟩|⟨_,hb2,rfl⟩
  ·exact absurd h0 HX.out.2
  obtain⟨w3,hw3⟩:∃W,w2.alloc (.cells #[.int .i64 (no:Nat),.int .i64 (line:Nat)] 44)=W:=⟨_,rfl⟩
  have hb3:Below w2.heap.size w2 w3:=by rw[←hw3];exact (Below.refl _ w2).alloc (Nat.le_refl _) _
  have HF:Hid (∀q,Below w.heap.size w (w3.drewN q)):=Lib.hid fun q=>HB1.out.trans ((hb2.trans ((below_drewN hb3 q).mono hb2.size)).mono HB1.out.size)
  have HW3:=Lib.hid hw3
  clear hP2 hb2 hb3 hw3
  go_wp2_with fail
  rw[HW3.out]
  go_quiet (fail)
  go_wp2
  go_ret3
  exact⟨HF.out _,.inl ⟨_,_,rfl⟩⟩
end Go.Proofs.YtgpbaeehajkebaaGreatDoor
namespace Go.Proofs.YtgpbaeehajkebaaGreatDoor
open Go Go.RowKit Go.Kt
set_option maxRecDepth 100000 in
set_option maxHeartbeats 1000000 in
theorem cturned (v:Value) (L:List (Nat × Nat)) (w:World) (h:PrR w v L) (hL:L.length≤1112192) :
 Calls Tryz.prog 11 #[v] w fun e w'=>∃v',e = .returned v'∧PrR w' v' L.reverse∧Below w.heap.size w w':=by
 obtain⟨a1,c1,rfl,h1⟩:=h
 obtain⟨n,hn⟩:∃n,L.length=n:=⟨_,rfl⟩
 have HN:=Lib.hid hn
 have H1:=Lib.hid h1
 rw[hn] at hL ⊢
 have ho1:OwnS (fun b=>w.heap.size≤b) 47 2 (.slice none 0 0) 0 (encL2 []) w:=⟨⟨rfl,.inl ⟨rfl,rfl⟩⟩,fun g h=>by cases h⟩
 have HO:=Lib.hid ho1
 have e0:wrap64 ((n:Int)-1)=(n:Int)-1:=by unfold wrap64;omega
 clear hn h1 ho1
 go_enter Tryz.func11,Tryz.ntmps11
 go_wp2
 go_loopw [3,4] (fun o v wr=>∃(k:Nat) (ao:Option Addr) (m cv:Nat),k+m=n∧v = .int .i64 ((k:Int)-1)∧o = .slice ao m cv∧OwnS (fun b=>w.heap.size≤b) 47 2 (.slice ao m cv) m (encL2 (L.drop k).reverse) wr∧Below w.heap.size w wr) (fun _ v _=>(RowKit.intOf v+1).toNat)
 case atStart=>exact⟨n,none,0,0,by omega,rfl,rfl,by rw[List.drop_eq_nil_of_le (by rw[HN.out];exact Nat.le_refl _)];exact HO.out,Below.refl _ _⟩
 case round =>
  obtain⟨k,ao,m,cv,hkm,rfl,rfl,hown,hb⟩:=hrel
  cases k with
  | zero =>
    rw[List.drop_zero] at hown
    have HP:=Lib.hid (prr_own hown (by rw[List.length_reverse,HN.out];omega))
    have HB:=Lib.hid hb
    clear hown hb
    go_wp2
    go_ret
    exact⟨_,rfl,HP.out,HB.out⟩
  | succ k =>
    obtain⟨x,hx⟩:∃x,L[k]? = some x:=⟨_,List.getElem?_eq_getElem (by rw[HN.out];omega)⟩
    obtain⟨g1,rfl,k1⟩:∃g,a1=some ⟨g,0,none⟩∧∀(i:Nat) (x:Nat × Nat),L[i]? = some x→w.cell? ⟨g,i*2,none⟩=some (.int .i64 x.1)∧w.cell? ⟨g,i*2+1,none⟩=some (.int .i64 x.2):=by
     rcases H1.out with h|h
     ·subst h;simp at hx
     ·exact h
    obtain⟨p1',p2'⟩:=k1 k x hx
    have p1:=(hb.cell (lt_of_cell p1')).trans p1'
    have p2:=(hb.cell (lt_of_cell p2')).trans p2'
    obtain⟨x,y⟩:=x
    simp only at p1 p2
    have hzz:=hb.size
    obtain⟨g,cap,w3,hrun,hown3,hk3,hg3,hz3⟩:=append_x (P:=Tryz.prog) wr 27 47 Tryz.underlying27 tinfo2 rfl (by omega) hown [.int .i64 x,.int .i64 y] rfl
     (by intro u hu;simp at hu;rcases hu with rfl|rfl <;> rfl) (by unfold maxLen;omega) (by omega)
    have hgl:w.heap.size≤g:=by
     rcases hg3 with h|h
     ·exact hown.2 g h
     ·omega
    have hown4:OwnS (fun b=>w.heap.size≤b) 47 2 (.slice (some ⟨g,0,none⟩) (m+1) cap) (m+1) (encL2 (L.drop k).reverse) w3:=by
     have e1:L.drop k=(x,y)::L.drop (k+1):=by
      obtain⟨hlt,he⟩:=List.getElem?_eq_some_iff.1 hx
      rw[List.drop_eq_getElem_cons hlt,he]
     rw[e1,List.reverse_cons,encL2_snoc]
     exact hown3.weaken fun b hb=>by subst hb;exact hgl
    have hb3:Below w.heap.size w w3:=hb.trans (hk3.below hzz fun b h=>hown.2 b h)
    have HR:=Lib.hid hrun
    have HF:=Lib.hid (And.intro hown4 hb3)
    have e1:((k+1:Nat):Int)-1=(k:Int):=by omega
    rw[e1]
    have e2:wrap64 ((k:Int)-1)=(k:Int)-1:=by unfold wrap64;omega
    have e3:(k:Int)<n:=by omega
    clear hrun hown hown3 hown4 hk3 hg3 hz3 hb hb3 k1 p1' p2' hx hzz hgl e1
    go_wp2_with (first|(refine wpList_append_eq (o:=⟨some 18,_,_,_,_,_⟩) rfl rfl rfl rfl HR.out ?_))
    go_roundw
    case rel=>exact⟨k,_,m+1,cap,by omega,rfl,rfl,HF.out.1,HF.out.2⟩
    case measure=>simp[RowKit.intOf]
end Go.Proofs.YtgpbaeehajkebaaGreatDoor
namespace Go.Proofs.YtgpbaeehajkebaaGreatDoor
open Go Go.RowKit Go.Kt Go.Kt.Rg Go.Maps
attribute [local go_sem] Oper.semAt_some
theorem celF_len (S:RdS) (s:ByteArray) (l:List (Nat × Nat)):(celF S s l).1.length≤l.length:=by
 rcases List.eq_nil_or_concat l with rfl|⟨r,p,rfl⟩
 ·exact Nat.le_refl 0
 ·have ih:=celF_len S s r
  rw[List.concat_eq_append,celF_snoc]
  unfold celStep
  split
  ·simp;omega
  ·simp;omega
termination_by l.length
theorem celL_len (S:RdS) (s:ByteArray):(celL S s).length≤s.size+1:=by
 unfold celL
 split
 ·simp
 ·have h1:=celF_len S s (units s)
  have h2:=units_len s
  simp
  omega
set_option maxRecDepth 100000 in
set_option maxHeartbeats 2000000 in
theorem cCount {gp:Nat} {S:RdS} {md:MdT} (s:ByteArray) (w:World) (hP:PrW gp S md w) (hT:Lib.Utf8Tabs 3 4 w) (hs:s.size≤4611686018427387904) :
 Calls Tryz.prog 14 #[.pointer (some ⟨gp,0,none⟩),.string s] w fun e w'=>e = .returned (.int .i64 ((celL S s).length:Nat))∧Below w.heap.size w w':=by
 have hLn:=celL_len S s
 obtain⟨n,hn⟩:∃n,w.heap.size=n:=⟨_,rfl⟩
 have hfn:∀k,Fence.wide.fn k:=fun _=>trivial
 have hdep:Fence.wide.depth=none:=rfl
 refine (callsIn_wide (n:=0)).1 ?_
 refine callsIn_of_wp_marks Tryz.func14 rfl trivial ?_ rfl
 simp only[Tryz.ntmps14,List.size_toArray,List.length_cons,List.length_nil,Nat.reduceAdd,Nat.reduceSub,Array.replicate_succ,Array.replicate_zero,List.push_toArray,List.append_toArray,List.nil_append,List.cons_append]
 obtain⟨V1,hV1⟩:∃V1,w.alloc (.cells #[.int .i64 0] 3)=V1:=⟨_,rfl⟩
 have hz1:V1.heap.size=n+1:=by rw[←hV1];simp[hn]
 have b0:V1.heap[n]? = some (.cells #[.int .i64 0] 3 (0,0)):=by rw[←hV1];exact alloc_at hn.symm
 have hb1:Below n w V1:=by rw[←hV1];exact (Below.refl _ _).alloc (by omega) _
 have CA:=Lib.hid (cAll_call gp s V1)
 have HV1:=Lib.hid hV1
 clear hV1
 gi_wp2_with fail
 rw[HV1.out]
 refine (callsIn_wide.2 CA.out).mono ?_
 rintro e w6 ⟨rfl,hw6⟩
 have hk6:Keep (fun _=>False) V1 w6:=by rw[←hw6];exact ((Keep.refl _ _).alloc _).alloc _
 have hz6:w6.heap.size=n+3:=by rw[←hw6];simp[hz1]
 have c1:w6.heap[n+1]? = some (.cells #[.pointer (some ⟨gp,0,none⟩)] 22 (0,0)):=by rw[←hw6];exact alloc_old (alloc_at (by omega))
 have c2:w6.heap[n+2]? = some (.cells #[.string s] 9 (0,0)):=by rw[←hw6];exact alloc_at (by simp[hz1])
 have v0:=hk6.heap b0 (fun h=>h)
 have hb6:Below n w w6:=hb1.trans (hk6.below (by omega) (fun _ h=>h.elim))
 have HIT:=Lib.hid (call_iter s (n+1) (n+2) w w6 (cell_one c2) (cell_one c1) hP (by rw[hn];exact hb6.block) hb6.size hT hs)
 rw[hz1]
 clear hw6 hk6 hb1 b0 c1 c2 hP hT
 gi_wp2_with fail
 refine loop_out2 (gf:=18) (lb:=#[.pointer (some ⟨n+2,0,none⟩),.pointer (some ⟨n+1,0,none⟩)]) (encs:=encCP) rfl (enters_of Tryz.func18 (by kernel_rfl) rfl)
  HIT.out (fun _=>rfl) (X:=fun b=>b=n)
  (fun b hb=>by omega) (fun b hb=>by rcases hb with h|h|h <;> exact⟨by omega,by omega⟩) (fun _ _=>rfl) (Nat.le_refl _)
  (fun pre Y W=>W.heap[n]? = some (.cells #[.int .i64 (pre.length:Nat)] 3 (0,0)))
  (fun _ _ _ _=>False)
  (fun pre Y W W' hk h'=>hk.heap h' (fun hx=>by have:=hx.1;omega))
  (fun pre Y W h'=>h')
  (fun _ _ _ _ _ _ h=>h) v0 ?round ?done ?stop
 case stop=>intro D c pre Y W _ _ _ h;exact h.elim
 case round =>
  rintro l' hl' pre ⟨lo,up⟩ Y W hpre hi hk hY hlt hr
  simp only[encCP]
  gi_wp2
  refine⟨Keep.refl _ _,?_⟩
  rintro W2 _ hk2 hv hr2
  have hlen:pre.length<(celL S s).length:=by
   obtain⟨rest,hrest⟩:=hpre
   rw[←hrest];simp
  have x0:=cell_one hv
  have x1:=frozen_one hv
  obtain⟨k,hk9⟩:∃k,pre.length=k:=⟨_,rfl⟩
  have HV:=Lib.hid hv
  have HK9:=Lib.hid hk9
  rw[hk9] at x0 hlen
  have hk10:(k:Int)≤4611686018427387904:=by omega
  clear hv hk2 hr2 hr hi hk hpre hk9 hlen hLn HIT
  gi_wp2_with fail
  refine⟨Y,(Keep.refl _ _).setCell (p:=⟨n,0,none⟩) (.inl rfl) _,fun b h=>.inl h,?_⟩
  have h9:=set_at (u:=.int .i64 ((k:Int)+1)) HV.out
  have e9:(pre++[(lo,up)]).length=k+1:=by simp[HK9.out]
  show (W2.setCell ⟨n,0,none⟩ (.int .i64 ((k:Int)+1))).heap[n]? = some (.cells #[.int .i64 ((pre++[(lo,up)]).length:Nat)] 3 (0,0))
  rw[e9]
  exact h9
 case done =>
  rintro D Y W hD hDd hv hY hkW
  have hbW:Below n w W:=hb6.trans (hkW.below (by omega) (fun b hb=>by omega))
  have x0:=cell_one hv
  have HF:=Lib.hid (And.intro hbW (And.intro hDd hn))
  have hzW:=hkW.size
  clear hv hkW hY hbW hDd HIT
  gi_wp2_with fail
  refine leaves_marks (Ds:=[D]) (by simp) (fun D' h=>by simp at h;subst h;exact HF.out.2.1) (fun W' hk'=>⟨_,results_tmp rfl _ _ _,rfl,?_⟩)
  have hk':Keep (fun b=>b=D) W W':=hk'.weaken fun b _ hb=>by simpa using hb
  rw[HF.out.2.2]
  exact HF.out.1.trans (hk'.below (by omega) (fun b hb=>by have hb:b=D:=hb;omega))
theorem w_l1:celL rdX ⟨#[97,204,129,98,255,204,129]⟩=[(0,3),(3,4),(4,5),(5,7)]:=by kernel_rfl
theorem w_l2:(celL rdX ⟨#[13,10,10]⟩).length=2:=by kernel_rfl
theorem w_e1:edgP rdX ⟨#[97,98]⟩ 1=true:=by kernel_rfl
theorem w_e2:edgP rdX ⟨#[]⟩ 0=false:=by kernel_rfl
theorem prr_four (W:World):PrR (W.alloc (.cells #[.int .i64 0,.int .i64 3,.int .i64 3,.int .i64 4,.int .i64 4,.int .i64 5,.int .i64 5,.int .i64 7] 47)) (.slice (some ⟨W.heap.size,0,none⟩) 4 4) [(0,3),(3,4),(4,5),(5,7)]:=by
 refine⟨_,_,rfl,.inr ⟨W.heap.size,rfl,fun i x hx=>?_⟩⟩
 rw[Lib.cell_of_heap (World.alloc_heap_new W _),Lib.cell_of_heap (World.alloc_heap_new W _)]
 match i,hx with
 | 0,hx=>simp at hx;subst hx;exact⟨rfl,rfl⟩
 | 1,hx=>simp at hx;subst hx;exact⟨rfl,rfl⟩
 | 2,hx=>simp at hx;subst hx;exact⟨rfl,rfl⟩
 | 3,hx=>simp at hx;subst hx;exact⟨rfl,rfl⟩
 | i+4,hx=>simp at hx
set_option maxRecDepth 100000 in
set_option maxHeartbeats 1000000 in
theorem cworks (w:World) (hE:PEnv w) (hT:Lib.Utf8Tabs 3 4 w):Calls Tryz.prog 5 #[] w fun e w'=>e = .returned (.bool true)∧Below w.heap.size w w':=by
 have CP:=Lib.hid (pParse ⟨fileX.toArray⟩ w hE)
 have HT:=Lib.hid hT
 clear hT
 go_enter Tryz.func5,Tryz.ntmps5
 go_wp2_with fail
 refine CP.out.mono ?_
 rintro e w1 ⟨no,line,S,L,hP,hb1,hor⟩
 obtain⟨h0,rfl,rfl⟩:=file_only (f:=fileX) (by decide) (by rw[fileX_lines];omega) fileX_reads (fun _=>rfl) (by kernel_rfl) hP
 obtain⟨g,rfl,hW1⟩:∃g,e = .returned (.tuple #[.pointer (some ⟨g,0,none⟩),.nilIface])∧PrW g rdX (mdOf rdX []) w1:=by
  rcases hor with ⟨_,g,h1,h2⟩|⟨h1,_⟩
  ·exact⟨g,h1,h2⟩
  ·exact absurd h0 h1
 have HB1:=Lib.hid hb1
 have HW:=Lib.hid (fun W (h:Below w1.heap.size w1 W)=>hW1.below h)
 have HT1:=Lib.hid (fun W (h:Below w1.heap.size w1 W)=>tabs_below HT.out (tabs_size HT.out) (hb1.trans (h.mono hb1.size)))
 have HPW:=Lib.hid hW1
 clear hP hb1 hor hW1 h0
 go_wp2_with fail
 refine (cAll_call g _ w1).mono ?_
 rintro e w2 ⟨rfl,hw2⟩
 have hb2:Below w1.heap.size w1 w2:=by rw[←hw2];exact ((Below.refl _ _).alloc (Nat.le_refl _) _).alloc (by simp) _
 have c1:w2.heap[w1.heap.size]? = some (.cells #[.pointer (some ⟨g,0,none⟩)] 22 (0,0)):=by rw[←hw2];exact alloc_old (alloc_at rfl)
 have c2:w2.heap[w1.heap.size+1]? = some (.cells #[.string ⟨#[97,204,129,98,255,204,129]⟩] 9 (0,0)):=by rw[←hw2];exact alloc_at (by simp)
 have HG:=Lib.hid (cgathered (celL rdX ⟨#[97,204,129,98,255,204,129]⟩) _ _ _ w2 w2 (enters_of Tryz.func18 (by kernel_rfl) rfl) (call_iter _ (w1.heap.size) (w1.heap.size+1) w1 w2 (cell_one c2) (cell_one c1) HPW.out hb2.block hb2.size (HT1.out w1 (Below.refl _ _)) (by decide)) (fun b hb=>by
  have h1:=(Array.getElem?_eq_some_iff.1 c1).1
  have h2:=(Array.getElem?_eq_some_iff.1 c2).1
  rcases hb with h|h|h <;> omega) (fun _ _=>rfl) (Nat.le_refl _) (by rw[w_l1];decide))
 have HB2:=Lib.hid hb2
 clear hw2 hb2 c1 c2
 go_wp2_with fail
 refine HG.out.mono ?_
 rintro e w3 ⟨v,rfl,hv,hb3⟩
 rw[w_l1] at hv
 have HB3:=Lib.hid (HB2.out.trans (hb3.mono HB2.out.size))
 have hv4:PrR (w3.alloc (.cells #[.int .i64 0,.int .i64 3,.int .i64 3,.int .i64 4,.int .i64 4,.int .i64 5,.int .i64 5,.int .i64 7] 47)) v [(0,3),(3,4),(4,5),(5,7)]:=hv.below ((Below.refl _ w3).alloc (Nat.le_refl _) _)
 have CS:=Lib.hid (csame _ _ _ _ _ hv4 (prr_four w3) (by decide) (by decide))
 clear hv hb3 hv4
 go_wp2_with fail
 refine CS.out.mono ?_
 rintro e w5 ⟨rfl,hd5⟩
 have hb5:Below w3.heap.size w3 w5:=((Below.refl _ w3).alloc (Nat.le_refl _) _).trans (hd5.below.mono (by simp))
 have HB5:=Lib.hid (HB3.out.trans (hb5.mono HB3.out.size))
 clear hd5 hb5
 have HC:=Lib.hid (cCount (md:=mdOf rdX []) ⟨#[13,10,10]⟩ w5 (HW.out w5 HB5.out) (HT1.out w5 HB5.out) (by decide))
 rw[w_l2] at HC
 go_wp2_with fail
 refine HC.out.mono ?_
 rintro e w6 ⟨rfl,hb6⟩
 have HB6:=Lib.hid (HB5.out.trans (hb6.mono HB5.out.size))
 clear hb6
 have HC2:=Lib.hid (cEdge (md:=mdOf rdX []) ⟨#[97,98]⟩ 1 w6 (HW.out w6 HB6.out) (HT1.out w6 HB6.out) (by decide))
 rw[w_e1] at HC2
 go_wp2_with fail
 refine HC2.out.mono ?_
 rintro e w7 ⟨rfl,hb7⟩
 have HB7:=Lib.hid (HB6.out.trans (hb7.mono HB6.out.size))
 clear hb7
 have HC3:=Lib.hid (cEdge (md:=mdOf rdX []) ⟨#[]⟩ 0 w7 (HW.out w7 HB7.out) (HT1.out w7 HB7.out) (by decide))
 rw[w_e2] at HC3
 go_wp2_with fail
 refine HC3.out.mono ?_
 rintro e w8 ⟨rfl,hb8⟩
 have HB8:=Lib.hid (HB7.out.trans (hb8.mono HB7.out.size))
 clear hb8
 go_wp2
 go_ret
 exact⟨rfl,HB1.out.trans (HB8.out.mono HB1.out.size)⟩
end Go.Proofs.YtgpbaeehajkebaaGreatDoor
