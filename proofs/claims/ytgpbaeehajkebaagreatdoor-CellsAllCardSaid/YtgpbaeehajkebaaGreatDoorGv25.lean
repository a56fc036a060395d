/- Parts of the proof of what the last text says. -/
import Derived.Test.YtgpbaeehajkebaaGreatDoorGv22
import Derived.Test.YtgpbaeehajkebaaGreatDoorGv23
import Derived.Test.YtgpbaeehajkebaaGreatDoorZfx
import Derived.Test.YtgpbaeehajkebaaGreatDoorZlx
import Derived.Test.YtgpbaeehajkebaaGreatDoorGv19
import Derived.Test.YtgpbaeehajkebaaGreatDoorGv9
import Derived.Laws.StructEq
import Derived.Test.YtgpbaeehajkebaaGreatDoorGv24
namespace Go.Proofs.YtgpbaeehajkebaaGreatDoor
open Go Go.RowKit Go.Kt
attribute [local go_sem] Oper.semAt_some
theorem tinfo2:(Tryz.prog.info? 47).map (fun i=>(i.zero,i.size,i.bytes))=some (some (.agg #[.int .i64 0,.int .i64 0]),2,16):=by kernel_rfl
def encL2 (l:List (Nat × Nat)):List Value:=l.flatMap fun x=>[.int .i64 x.1,.int .i64 x.2]
theorem encL2_snoc (l:List (Nat × Nat)) (x:Nat × Nat):encL2 (l++[x])=encL2 l++[.int .i64 x.1,.int .i64 x.2]:=by simp[encL2]
theorem encL2_at:∀(l:List (Nat × Nat)) (i:Nat) (x:Nat × Nat),l[i]? = some x→(encL2 l)[i*2]? = some (.int .i64 x.1)∧(encL2 l)[i*2+1]? = some (.int .i64 x.2)
 | [],_,_,h=>by simp at h
 | y::t,0,x,h=>by
   simp at h
   subst h
   exact⟨rfl,rfl⟩
 | y::t,i+1,x,h=>by
   have ih:=encL2_at t i x (by simpa using h)
   have e:encL2 (y::t) = .int .i64 y.1 :: .int .i64 y.2::encL2 t:=rfl
   rw[e,show (i+1)*2=i*2+1+1 by omega]
   exact⟨by rw[List.getElem?_cons_succ,List.getElem?_cons_succ];exact ih.1,by rw[List.getElem?_cons_succ,List.getElem?_cons_succ];exact ih.2⟩
def PrR (W:World) (v:Value) (L:List (Nat × Nat)):Prop:=∃ao cp,v = .slice ao L.length cp∧(L=[]∨∃g,ao=some ⟨g,0,none⟩∧∀(i:Nat) (x:Nat × Nat),L[i]? = some x→W.cell? ⟨g,i*2,none⟩=some (.int .i64 x.1)∧W.cell? ⟨g,i*2+1,none⟩=some (.int .i64 x.2))
theorem PrR.below {W W':World} {v:Value} {L:List (Nat × Nat)} (h:PrR W v L) (hb:Below W.heap.size W W'):PrR W' v L:=by
 obtain⟨ao,cp,rfl,h⟩:=h
 refine⟨ao,cp,rfl,?_⟩
 rcases h with h|⟨g,e,h⟩
 ·exact .inl h
 ·exact .inr ⟨g,e,fun i x hx=>⟨(hb.cell (lt_of_cell (h i x hx).1)).trans (h i x hx).1,(hb.cell (lt_of_cell (h i x hx).2)).trans (h i x hx).2⟩⟩
theorem prr_own {Y:Nat→Prop} {v:Value} {n:Nat} {L:List (Nat × Nat)} {W:World} (h:OwnS Y 47 2 v n (encL2 L) W) (hn:n=L.length):PrR W v L:=by
 subst hn
 rcases h.1.2 with ⟨h1,h2⟩|⟨g,cap,cur,rfl,_,hg,_⟩
 ·have:L=[]:=List.length_eq_zero_iff.1 h2
  subst this
  exact⟨none,0,h1,.inl rfl⟩
 ·refine⟨_,_,rfl,.inr ⟨g,rfl,fun i x hx=>?_⟩⟩
  have c:=h.1.cells (g:=g) rfl
  have e:=encL2_at L i x hx
  have c1:=c _ _ e.1
  have c2:=c _ _ e.2
  rw[Addr.add_lit,Nat.zero_add] at c1 c2
  exact⟨c1,c2⟩
set_option maxRecDepth 100000 in
set_option maxHeartbeats 2000000 in
theorem cgathered (L:List (Nat × Nat)) (gf:Nat) (lb:Array Value) (Nd:Nat→Prop) (w w0:World) (eg:∀args w,(callFunc gf args).run Tryz.prog w = .ok (.enter gf args) w)
 (hit:Iter2 Tryz.prog gf lb encCP L Nd w0) (hNd:∀b,Nd b→b<w.heap.size) (hNdw:∀b,Nd b→w.heap[b]? = w0.heap[b]?) (hw0:w0.heap.size≤w.heap.size) (hL:L.length≤1112192) :
 Calls Tryz.prog 10 #[.func (.func gf) #[] lb] w fun e w'=>∃v,e = .returned v∧PrR w' v L∧Below w.heap.size w w':=by
 obtain⟨n,hn⟩:∃n,w.heap.size=n:=⟨_,rfl⟩
 have hfn:∀k,Fence.wide.fn k:=fun _=>trivial
 have hdep:Fence.wide.depth=none:=rfl
 refine (callsIn_wide (n:=0)).1 ?_
 refine callsIn_of_wp_marks Tryz.func10 rfl trivial ?_ rfl
 simp only[Tryz.ntmps10,List.size_toArray,List.length_cons,List.length_nil,Nat.reduceAdd,Nat.reduceSub,Array.replicate_succ,Array.replicate_zero,List.push_toArray,List.append_toArray,List.nil_append,List.cons_append]
 obtain⟨w1,hw1⟩:∃w1,w.alloc (.cells #[.slice none 0 0] 27)=w1:=⟨_,rfl⟩
 have hz1:w1.heap.size=n+1:=by rw[←hw1];simp[hn]
 have b0:w1.heap[n]? = some (.cells #[.slice none 0 0] 27 (0,0)):=by rw[←hw1];exact alloc_at hn.symm
 have hb1:Below n w w1:=by rw[←hw1];exact (Below.refl _ _).alloc (by omega) _
 have ho1:OwnS (fun _=>False) 47 2 (.slice none 0 0) 0 (encL2 []) w1:=⟨⟨rfl,.inl ⟨rfl,rfl⟩⟩,fun g h=>by cases h⟩
 have HW1:=Lib.hid hw1
 have HIT:=Lib.hid hit
 have HN:=Lib.hid hn
 clear hw1 hit
 gi_wp2_with fail
 rw[HW1.out]
 refine loop_out2 (gf:=gf) (lb:=lb) (encs:=encCP) rfl eg
  HIT.out (fun _=>rfl) (X:=fun b=>b=n)
  (fun b hb=>by omega) (fun b hb=>by have:=hNd b hb;rw[HN.out] at this;exact⟨by omega,by omega⟩) (fun b hb=>(hb1.block b (by have:=hNd b hb;rw[HN.out] at this;omega)).trans (hNdw b hb)) (by rw[HN.out] at hw0;omega)
  (fun pre Y W=>∃ao cv,W.heap[n]? = some (.cells #[.slice ao pre.length cv] 27 (0,0))∧OwnS Y 47 2 (.slice ao pre.length cv) pre.length (encL2 pre) W)
  (fun _ _ _ _=>False)
  (fun pre Y W W' hk h'=>by
   obtain⟨ao,cv,h1,h2⟩:=h'
   exact⟨ao,cv,hk.heap h1 (fun hx=>by have:=hx.1;omega),h2.keep hk (fun b hx hy=>hx.2 hy)⟩)
  (fun pre Y W h'=>by
   obtain⟨ao,cv,h1,h2⟩:=h'
   exact⟨ao,cv,h1,⟨h2.1,fun b hb=>⟨h2.2 b hb,(h2.1.lt b hb).2⟩⟩⟩)
  (fun _ _ _ _ _ _ h=>h) ⟨_,_,b0,ho1⟩ ?round ?done ?stop
 case stop=>intro D c pre Y W _ _ _ h;exact h.elim
 case round =>
  rintro l' hl' pre ⟨lo,hi⟩ Y W hpre hi' hk hY hlt hr
  simp only[encCP]
  have HPre:=Lib.hid hpre
  have HY:=Lib.hid hY
  have HK:=Lib.hid hk
  clear eg hNd hNdw hi' hk hpre hY hr
  gi_wp2
  refine⟨Keep.refl _ _,?_⟩
  rintro W2 hk1 hk2 ⟨ao,cv,hv,hown⟩ hr2
  have hYY:=HY.out
  have hlen:pre.length<L.length:=by
   obtain⟨rest,hrest⟩:=HPre.out
   rw[←hrest];simp
  have hz2:n<W2.heap.size:=by have:=hk2.size;omega
  have hYn:∀b,Y b→b≠n:=fun b hb=>by have:=(hYY b hb).1;omega
  obtain⟨v,hvv⟩:∃v,Value.slice ao pre.length cv=v:=⟨_,rfl⟩
  rw[hvv] at hown hv
  obtain⟨g,cap,w3,hrun,hown3,hk3,hg3,hz3⟩:=append_x (P:=Tryz.prog) W2 27 47 Tryz.underlying27 tinfo2 rfl (by omega) hown [.int .i64 lo,.int .i64 hi] rfl
   (by intro u hu;simp at hu;rcases hu with rfl|rfl <;> rfl) (by unfold maxLen;omega) (by omega)
  have hvY:∀b,v.ownBlock=some b→Y b:=hown.2
  have hg3Y:Y g∨W2.heap.size≤g:=by
   rcases hg3 with hx|hx
   ·exact .inl (hvY g hx)
   ·exact .inr (by omega)
  have hgn:g≠n:=by
   rcases hg3Y with hx|hx
   ·exact hYn g hx
   ·omega
  have k0:=cell_one hv
  have hvn:∀b,v.ownBlock=some b→b≠n:=fun b hx=>hYn b (hvY b hx)
  have hv3:w3.heap[n]? = some (.cells #[v] 27 (0,0)):=hk3.heap hv (fun hx=>hvn n hx rfl)
  obtain⟨w4,hw4⟩:∃w4,w3.setCell ⟨n,0,none⟩ (.slice (some ⟨g,0,none⟩) (pre.length+1) cap)=w4:=⟨_,rfl⟩
  have hk4:Keep (fun b=>b=n) w3 w4:=by rw[←hw4];exact Keep.setCell (X:=fun b=>b=n) (p:=⟨n,0,none⟩) (Keep.refl _ _) rfl _
  have hv4:w4.heap[n]? = some (.cells #[.slice (some ⟨g,0,none⟩) (pre.length+1) cap] 27 (0,0)):=by rw[←hw4];exact set_at hv3
  have hown4:=hown3.keep hk4 (fun b hb hy=>hgn (by rw[←hy,hb]))
  have k3:=cell_one hv3
  have f3:=frozen_one hv3
  have hfin:Kt.Left (fun b=>b=n) Y (fun pre Y W=>∃ao cv,W.heap[n]? = some (.cells #[.slice ao pre.length cv] 27 (0,0))∧OwnS Y 47 2 (.slice ao pre.length cv) pre.length (encL2 pre) W) (pre++[(lo,hi)]) W2 w4:=by
   refine⟨fun b=>b=g,?_,?_,some ⟨g,0,none⟩,cap,?_,?_⟩
   ·exact (hk3.weaken (Y:=fun b=>b=n∨Y b) (fun b _ hx=>.inr (hvY b hx))).trans (hk4.weaken fun b _ hx=>.inl hx)
   ·rintro b rfl
    exact hg3Y
   ·have e1:(pre++[(lo,hi)]).length=pre.length+1:=by simp
    rw[e1];exact hv4
   ·have e1:(pre++[(lo,hi)]).length=pre.length+1:=by simp
    rw[e1,encL2_snoc]
    exact hown4
  have HF:=Lib.hid hfin
  have H3:=Lib.hid hrun
  have HW4:=Lib.hid hw4
  clear hfin hrun hw4 hown hown3 hown4 hk3 hk4 hg3 hvY hvn hv hv3 hv4 hg3Y hYY hYn hk1 hk2 hr2 hgn hlen
  gi_wp2_with (first|(refine wpListIn_append_eq (o:=⟨some 14,_,_,_,_,_⟩) (by rfl) (by rfl) (by rfl) (by rfl) H3.out ?_))
  rw[HW4.out]
  exact HF.out
 case done =>
  rintro D Y W hD hDd ⟨ao,cv,hv,hown⟩ hY hkW
  have hk2:Below n w W:=hb1.trans (hkW.below (by omega) (fun b hb=>by omega))
  have b2:=cell_one hv
  have HF:=Lib.hid (And.intro hown (And.intro hk2 hY))
  have HDD:=Lib.hid hDd
  clear hown hk2 hkW hY hDd eg hNd hNdw hw0
  gi_wp2
  refine leaves_marks (Ds:=[D]) (by simp) (fun D' h=>by simp at h;subst h;exact HDD.out) (fun W' hk'=>⟨_,results_tmp rfl _ _ _,?_⟩)
  obtain⟨ho,hkk,hY⟩:=HF.out
  have hk':Keep (fun b=>b=D) W W':=hk'.weaken fun b _ hb=>by simpa using hb
  have ho2:=ho.keep hk' (fun b hb hy=>(hY b hy).2 hb)
  refine⟨_,rfl,prr_own ho2 rfl,?_⟩
  rw[HN.out]
  exact hkk.trans (hk'.below (by have:=hkk.size;omega) (fun b hb=>by have hb:b=D:=hb;omega))
end Go.Proofs.YtgpbaeehajkebaaGreatDoor
namespace Go.Proofs.YtgpbaeehajkebaaGreatDoor
open Go Go.RowKit Go.Kt Go.Kt.Rg Go.Maps
theorem xdcp_le {dl:List Ln3} (hv:∀x∈dl,∀z∈x.2.1,z≤1114111) (r:Int):∀z∈xdcpV dl r,z≤1114111:=by
 intro z hz
 unfold xdcpV at hz
 cases hs:sylP r with
 | true =>
   rw[if_pos hs] at hz
   have h2:=hs
   rw[syl_iff] at h2
   have h2:=of_decide_eq_true h2
   obtain⟨h3,_⟩:=parts_jam (n:=(r-44032).toNat) (by omega) z hz
   have h4:=(parts_jam (n:=(r-44032).toNat) (by omega) z hz).2
   rw[han_two,h4,Bool.false_or,jam_iff] at h3
   simp at h3
   omega
 | false =>
   rw[if_neg (by rw[hs];decide)] at hz
   unfold ofL at hz
   cases hf:dl.find? fun x=>(x.1:Int)==r with
   | none=>rw[hf] at hz;cases hz
   | some y =>
     rw[hf] at hz
     exact hv y (List.mem_of_find?_eq_some hf) z hz
def SumI (n s:Nat) (b:Nat):Prop:=(s≤8∧s+b=n∨9≤s∧9≤n)∧s≤17
theorem SumI.step {n s b a c:Nat} (h:SumI n s b) (h8:s≤8) (hb:b=a+c):SumI n (s+min a 9) c:=by
 obtain⟨h1,_⟩:=h
 unfold SumI
 omega
theorem SumI.end_ {n s:Nat} (h:SumI n s 0):min s 9=min n 9:=by
 obtain⟨h1,_⟩:=h
 omega
theorem SumI.big {n s b:Nat} (h:SumI n s b) (h9:8<s):min s 9=min n 9:=by
 obtain⟨h1,_⟩:=h
 omega
set_option maxRecDepth 100000 in
set_option maxHeartbeats 4000000 in
theorem yfull {g:Nat} {cs ks:List (Nat × Nat × Int)} {fv dv:Value} (dl:List Ln3) (hn:dl.length≤1000000) (hz:∀x∈dl,x.2.1.length≤1048576) (hv:∀x∈dl,∀z∈x.2.1,z≤1114111):∀(f r n:Nat) (w:World),RpW g cs ks fv dv w→LfW w dv dl→r≤1114111→fullD dl f r=some n →
 Calls Tryz.prog 40 #[.pointer (some ⟨g,0,none⟩),.int .i32 (r:Nat)] w fun e w'=>e = .returned (.int .i64 ((min n 9:Nat):Int))∧Below w.heap.size w w':=by
 intro f
 induction f with
 | zero=>intro r n w _ _ _ h;cases h
 | succ f ih =>
   intro r n w hR hF hr hfull
   rw[fullD] at hfull
   have CD:=Lib.hid (ydecomp dl (r:Int) w hR hF ⟨by omega,by omega⟩ hn hz)
   have hle:=xdcp_le hv (r:Int)
   have hlen:(xdcpV dl (r:Int)).length≤1048576:=by
    unfold xdcpV
    split
    ·unfold partsP;split <;> simp
    ·unfold ofL
     cases hf:dl.find? fun x=>(x.1:Int)==(r:Int) with
     | none=>simp
     | some y=>exact hz y (List.mem_of_find?_eq_some hf)
   obtain⟨l,hl⟩:∃l,xdcpV dl (r:Int)=l:=⟨_,rfl⟩
   rw[hl] at CD hfull hle hlen
   have HI:=Lib.hid (And.intro hR (And.intro hF ih))
   obtain⟨R,hRR⟩:∃R:Int,(r:Int)=R:=⟨_,rfl⟩
   rw[hRR] at CD ⊢
   clear hR hF ih hl hn hz hv hr hRR
   by_cases h0:l=[]
   ·subst h0
    have HN:Hid (n=1):=Lib.hid (by rw[if_pos rfl] at hfull;exact (Option.some.inj hfull).symm)
    clear hfull hle hlen
    go_enter Tryz.func40,Tryz.ntmps40
    go_wp2_with fail
    refine CD.out.mono ?_
    rintro e w1 ⟨v,rfl,hs,hb⟩
    obtain⟨ao,cp,rfl,_⟩:=hs
    have HB:=Lib.hid hb
    clear hb
    go_wp2
    go_ret
    exact⟨by rw[HN.out];rfl,HB.out⟩
   ·rw[if_neg h0] at hfull
    obtain⟨m,hm⟩:∃m,l.length=m:=⟨_,rfl⟩
    have hm1:1≤m:=by rw[←hm];exact List.length_pos_iff.2 h0
    have hq0:((m:Int)==0)=false:=by rw[beq_eq_false_iff_ne];omega
    have HL:=Lib.hid (And.intro hm (And.intro hle (And.intro hfull hlen)))
    rw[hm] at hlen
    clear hle h0 hfull
    go_enter Tryz.func40,Tryz.ntmps40
    go_wp2_with fail
    refine CD.out.mono ?_
    rintro e w1 ⟨v,rfl,hs,hb⟩
    obtain⟨ao,cp,rfl,hor⟩:=hs
    rw[toZ_len,hm]
    have HB:=Lib.hid (And.intro hb hor)
    clear hb hor hm
    go_wp2_with fail
    clear hq0
    go_loopw [6,7] (fun u x wr=>∃i s b:Nat,u = .int .i64 (s:Nat)∧x = .int .i64 (i:Nat)∧i≤m∧Hid (SumI n s b∧sumO (fullD dl f) (l.drop i)=some b∧Below w.heap.size w wr∧Below w1.heap.size w1 wr)) (fun _ x _=>m-(RowKit.intOf x).toNat)
    case atStart=>exact⟨0,0,n,rfl,rfl,Nat.zero_le _,Lib.hid ⟨⟨.inl ⟨by omega,by omega⟩,by omega⟩,by rw[List.drop_zero];exact HL.out.2.2.1,HB.out.1,Below.refl _ _⟩⟩
    case round =>
     obtain⟨i,s,b,rfl,rfl,hi,H⟩:=hrel
     have hs17:s≤17:=H.out.1.2
     by_cases hlt:i<m
     ·have e1:(i:Int)<m:=by omega
      by_cases h8:s≤8
      ·have e2:(s:Int)≤8:=by omega
       have e0:(0:Int)≤(i:Int):=by omega
       have k1:IntKind.i64.wrap ((i:Int)+1)=((i+1:Nat):Int):=by rw[IntWalk.i64_in _ (by omega)];omega
       obtain⟨y,hy⟩:∃y,l[i]? = some y:=⟨_,List.getElem?_eq_getElem (by rw[HL.out.1];exact hlt)⟩
       have hyz:(toZ l)[i]? = some (y:Int):=by unfold toZ;rw[List.getElem?_map,hy];rfl
       obtain⟨gb,off,rfl,c0⟩:∃g off,ao=some ⟨g,off,none⟩∧w1.cell? ⟨g,off+i,none⟩=some (.int .i32 (y:Int)):=by
        rcases HB.out.2 with h|⟨g,off,e,h⟩
        ·rw[h] at hyz;cases hyz
        ·exact⟨g,off,e,h i _ hyz⟩
       have d0:=(H.out.2.2.2.cell (lt_of_cell c0)).trans c0
       have hst:=H.out.2.1
       have hdr:l.drop i=y::l.drop (i+1):=by
        obtain⟨h1,h2⟩:=List.getElem?_eq_some_iff.1 hy
        rw[List.drop_eq_getElem_cons h1,h2]
       rw[hdr,sumO] at hst
       cases hfy:fullD dl f y with
       | none=>rw[hfy] at hst;cases hst
       | some a =>
         cases hft:sumO (fullD dl f) (l.drop (i+1)) with
         | none=>rw[hfy,hft] at hst;cases hst
         | some c =>
           rw[hfy,hft] at hst
           have hbc:b=a+c:=(Option.some.inj hst).symm
           have CY:=Lib.hid (HI.out.2.2 y a wr (HI.out.1.below H.out.2.2.1) (HI.out.2.1.below H.out.2.2.1) (HL.out.2.1 y (List.mem_of_getElem? hy)) hfy)
           have HS:=Lib.hid (And.intro (H.out.1.step h8 hbc) (And.intro hft (And.intro H.out.2.2.1 H.out.2.2.2)))
           have ha9:min a 9≤9:=Nat.min_le_right _ _
           obtain⟨A,hA⟩:∃A,min a 9=A:=⟨_,rfl⟩
           rw[hA] at CY HS ha9
           have k2:IntKind.i64.wrap ((s:Int)+(A:Int))=((s+A:Nat):Int):=by rw[IntWalk.i64_in _ (by omega)];omega
           obtain⟨Y,hY⟩:∃Y:Int,(y:Int)=Y:=⟨_,rfl⟩
           rw[hY] at CY d0
           clear hst hdr hy hyz c0 hfy hft hbc H hA hlt hY
           go_wp2_with fail
           refine CY.out.mono ?_
           rintro e w2 ⟨rfl,hb2⟩
           have HB2:=Lib.hid hb2
           clear hb2
           go_wp2
           go_roundw
           case rel=>exact⟨i+1,s+A,c,by go_num,by go_num,by omega,Lib.hid ⟨HS.out.1,HS.out.2.1,HS.out.2.2.1.trans (HB2.out.mono HS.out.2.2.1.size),HS.out.2.2.2.trans (HB2.out.mono HS.out.2.2.2.size)⟩⟩
           case measure=>simp[RowKit.intOf];omega
      ·have e2:¬(s:Int)≤8:=by omega
       have HE:=Lib.hid (H.out.1.big (by omega))
       have hmn:min (s:Int) 9=9:=by omega
       have HE2:Hid (((min n 9:Nat):Int)=9):=Lib.hid (by have:=HE.out;omega)
       have HBB:=Lib.hid H.out.2.2.1
       clear hlt h8 H HE
       go_wp2
       go_ret
       exact⟨by rw[HE2.out];rfl,HBB.out⟩
     ·have e1:¬(i:Int)<m:=by omega
      obtain⟨M,hM⟩:∃M:Int,min (s:Int) 9=M:=⟨_,rfl⟩
      have HE:Hid (((min n 9:Nat):Int)=M):=Lib.hid (by
       have h1:=H.out.2.1
       rw[List.drop_eq_nil_of_le (by rw[HL.out.1];omega)] at h1
       have h2:b=0:=(Option.some.inj h1).symm
       have h3:=H.out.1
       rw[h2] at h3
       have:=h3.end_
       omega)
      have HBB:=Lib.hid H.out.2.2.1
      clear hlt H
      go_wp2
      go_ret
      exact⟨by rw[HE.out];rfl,HBB.out⟩
end Go.Proofs.YtgpbaeehajkebaaGreatDoor
namespace Go.Proofs.YtgpbaeehajkebaaGreatDoor
open Go Go.RowKit Go.Kt Go.Kt.Rg Go.Maps
theorem results_tc {P:Program} {fn:Func} {p a:Tmp} {ty:TypeId} (h:fn.results = #[.tmp a,.cell p ty]) (tmps:Array Value) (w:World) (g:Nat) (t:TypeId) (cs:Array Value) (fr:Nat × Nat) (d:TypeDesc)
 (hp:tmps.getD p undef = .pointer (some ⟨g,0,none⟩)) (hg:w.heap[g]? = some (.cells cs t fr))
 (hu:P.underlying ty=some d) (hd:(match d with | .struct _ | .array _ _=>true|_=>false)=true) (hi:(P.info? ty).map (·.size)=some cs.size) :
 (results fn tmps).run P w = .ok (.tuple #[tmps.getD a undef,.agg cs]) w:=by
 have hp':tmps[p]?.getD undef = .pointer (some ⟨g,0,none⟩):=by simpa using hp
 simp[results,h,hp',asAddr,run_loadVar_row w g t ty cs fr d hg hu hd hi]
theorem fault_w {W:World} {rb:Nat} {a b:Value} (h:W.heap[rb]? = some (.cells #[a,b] 44 (0,0))) (x:Value):W.cell? ⟨rb,0,none⟩=some a∧W.frozen? ⟨rb,0,none⟩=false∧(W.setCell ⟨rb,0,none⟩ x).cell? ⟨rb,1,none⟩=some b∧(W.setCell ⟨rb,0,none⟩ x).frozen? ⟨rb,1,none⟩=false:=by
 have h1:=heap_setCell_same W rb 0 _ _ x h
 exact⟨by rw[Lib.cell_of_heap h];rfl,Lib.frozen_of_heap h _,by rw[Lib.cell_of_heap h1];rfl,Lib.frozen_of_heap h1 _⟩
theorem fault_k (W:World) (rb:Nat) (x y:Value):Keep (fun b=>b=rb) W ((W.setCell ⟨rb,0,none⟩ x).setCell ⟨rb,1,none⟩ y) :=
 (Keep.setCell (X:=fun b=>b=rb) (Keep.refl _ W) (p:=⟨rb,0,none⟩) rfl x).trans (Keep.setCell (X:=fun b=>b=rb) (Keep.refl _ _) (p:=⟨rb,1,none⟩) rfl y)
def FineX (S:RdS) (w:World) (e:Ending) (w':World):Prop :=
 ∃g X cv kv fv dv B0 ρ,e = .returned (.tuple #[.pointer (some ⟨g,0,none⟩),.agg #[.int .i64 0,.int .i64 0]])∧PxW B0 ρ g X cv kv fv dv w'∧XRel X S∧(X.fl.length≤65536∧X.dl.length≤65536)∧Below w.heap.size w w'
def ParseX (l:List UInt8) (w:World) (e:Ending) (w':World):Prop :=
 ∃no line S L,ParseR l no line S L∧((no=0∧FineX S w e w')∨(no≠0∧Below w.heap.size w w'∧e = .returned (.tuple #[.pointer none,.agg #[.int .i64 (no:Nat),.int .i64 (line:Nat)]])))
def RdI (l:List UInt8) (i:Nat) (S:RdS):Prop:=readP 0 rd0 (linesP l)=readP i S ((linesP l).drop i)∧RdOk i S
theorem rdI0 (l:List UInt8):RdI l 0 rd0:=⟨by rw[List.drop_zero],rd0_ok⟩
theorem RdI.step {l:List UInt8} {i:Nat} {S:RdS} {x:List UInt8} (h:RdI l i S) (hx:(linesP l)[i]? = some x) (h0:(takeP (i+1) S (wrdP x)).1=0):RdI l (i+1) (takeP (i+1) S (wrdP x)).2:=by
 obtain⟨q1,q2⟩:=List.getElem?_eq_some_iff.1 hx
 refine⟨?_,takeP_ok h.2 h0⟩
 rw[h.1,List.drop_eq_getElem_cons q1,q2,readP,if_neg (by simpa using h0)]
theorem RdI.bad {l:List UInt8} {i no:Nat} {S:RdS} {x:List UInt8} (h:RdI l i S) (hx:(linesP l)[i]? = some x) (h0:(takeP (i+1) S (wrdP x)).1=no) (hn:no≠0) (hsz:¬(1048576<l.length∨65536<lnC l)):ParseR l no (i+1) S []:=by
 obtain⟨q1,q2⟩:=List.getElem?_eq_some_iff.1 hx
 have hr:readP 0 rd0 (linesP l)=(no,i+1,S):=by
  rw[h.1,List.drop_eq_getElem_cons q1,q2,readP,if_pos (by rw[h0];exact hn),h0]
 exact .inr (.inl ⟨hsz,by rw[hr];exact hn,by rw[hr],by rw[hr]⟩)
theorem RdI.done {l:List UInt8} {S:RdS} (h:RdI l (linesP l).length S):(readP 0 rd0 (linesP l)).1=0∧S=(readP 0 rd0 (linesP l)).2.2:=by
 rw[h.1,List.drop_eq_nil_of_le (Nat.le_refl _)]
 exact⟨rfl,rfl⟩
theorem lnC_le (m:List UInt8):lnC m≤m.length:=by
 rw[←linesP_len]
 have:∀(n:Nat) (l:List UInt8),l.length≤n→(linesP l).length≤l.length:=by
  intro n
  induction n with
  | zero =>
    intro l hl
    obtain rfl:l=[]:=List.length_eq_zero_iff.1 (by omega)
    simp[linesP_nil]
  | succ n ih =>
    intro l hl
    rcases line_cut l with h|⟨c,rest,rfl,h2,h3⟩
    ·rw[lines_one l h]
     split
     ·simp
     ·rename_i hne
      have:=List.length_pos_iff.2 hne
      simp;omega
    ·rw[lines_cons c rest h2]
     have:=ih rest (by omega)
     simp;omega
 exact this m.length m (Nat.le_refl _)
theorem pxw0 {w W:World} (hW:W=w.alloc (.cells #[.slice none 0 0,.slice none 0 0,.slice none 0 0,.slice none 0 0] 85)):PxW w.heap.size (fun b=>if b=w.heap.size then 1 else 0) w.heap.size ⟨[],[],[],[]⟩ (.slice none 0 0) (.slice none 0 0) (.slice none 0 0) (.slice none 0 0) W:=by
 subst hW
 exact {
  hr:=fun b hb=>by
   by_cases h:b=w.heap.size
   ·omega
   ·simp only[if_neg h] at hb;omega
  hB:=by rw[World.size_alloc];omega
  rg:=if_pos rfl
  cell:=heap_alloc_new _ _
  c:=own_nil _ _ _ _
  k:=own_nil _ _ _ _
  f:=⟨[],rfl,own_nil _ _ _ _,fun p hp=>by cases hp⟩
  d:=⟨[],rfl,own_nil _ _ _ _,fun p hp=>by cases hp⟩ }
theorem XRel.lens {X:XdS} {S:RdS} (h:XRel X S) {k:Nat} (hS:RdOk k S):(X.cs.length≤k∧X.ks.length≤k)∧(∀x∈X.dl,x.2.1.length≤1048576∧(∀z∈x.2.1,z≤1114111)∧x.1≤1114111):=by
 refine⟨⟨by rw[←h.cs];exact hS.cs.1,by rw[←h.ks];exact hS.ks.1⟩,fun x hx=>?_⟩
 obtain⟨q1,q2,q3⟩:=hS.ds _ _ (h.at hx).1
 exact⟨by omega,fun z hz=>valid_le (q3 z hz),valid_le q1.1⟩
end Go.Proofs.YtgpbaeehajkebaaGreatDoor
namespace Go.Proofs.YtgpbaeehajkebaaGreatDoor
open Go Go.RowKit Go.Kt Go.Kt.Rg Go.Maps
theorem eq_two (a b c d:Int) (w:World):(Op.equalIn 10000 47 (.agg #[.int .i64 a,.int .i64 b]) (.agg #[.int .i64 c,.int .i64 d])).run Tryz.prog w = .ok (a==c&&b==d) w:=by
 have u3:=Tryz.underlying3
 have a3:=Tryz.isAgg3
 have z3:=Tryz.sizeOf3
 rw[show (10000:Nat)=9999+1 from rfl,Op.equalIn]
 simp only[Sem.run_bind,run_underlying Tryz.underlying47,Result.andThen_ok]
 simp only[Std.Legacy.Range.forIn_eq_forIn_range',Std.Legacy.Range.size,Nat.sub_zero,Nat.add_sub_cancel,Nat.div_one,List.range'_succ,List.range'_zero,List.forIn_cons,List.forIn_nil]
 go_simp
 by_cases h1:a=c <;> by_cases h2:b=d <;> simp[h1,h2]
theorem neq_two (a b c d:Int) (W:World):(binOp .neq 47 (.agg #[.int .i64 a,.int .i64 b]) (.agg #[.int .i64 c,.int .i64 d])).run Tryz.prog W = .ok (.bool (!(a==c&&b==d))) W:=by
 rw[run_neq_struct,eq_two]
 rfl
set_option maxRecDepth 100000 in
set_option maxHeartbeats 1000000 in
theorem csame (v1 v2:Value) (l1 l2:List (Nat × Nat)) (w:World) (h1:PrR w v1 l1) (h2:PrR w v2 l2) (m1:l1.length≤4611686018427387904) (m2:l2.length≤4611686018427387904) :
 Calls Tryz.prog 9 #[v1,v2] w fun e w'=>e = .returned (.bool (decide (l1=l2)))∧Drawn w w':=by
 obtain⟨a1,c1,rfl,h1⟩:=h1
 obtain⟨a2,c2,rfl,h2⟩:=h2
 have NE:=Lib.hid neq_two
 by_cases hl:l1.length=l2.length
 ·have hlt:(l1.length:Int)=l2.length:=by omega
  have H1:=Lib.hid h1
  have H2:=Lib.hid h2
  have HL:=Lib.hid hl
  have hne:((l1.length:Int)!=l2.length)=false:=by simp[hl]
  clear h1 h2 hl hlt
  go_enter Tryz.func9,Tryz.ntmps9
  go_wp2
  go_loopw [5] (fun v wr=>∃k:Nat,k≤l1.length∧v = .int .i64 k∧l1.take k=l2.take k∧Drawn w wr) (fun v _=>l1.length-(RowKit.intOf v).toNat)
  case atStart=>exact⟨0,by omega,rfl,by simp,Drawn.refl _⟩
  case round =>
   obtain⟨k,hk,rfl,htk,hb⟩:=hrel
   have HT:=Lib.hid htk
   clear htk
   by_cases hlt:k<l1.length
   ·have hlt2:k<l2.length:=by have:=HL.out;omega
    obtain⟨x1,e1⟩:∃x,l1[k]? = some x:=⟨l1[k],List.getElem?_eq_getElem hlt⟩
    obtain⟨x2,e2⟩:∃x,l2[k]? = some x:=⟨l2[k],List.getElem?_eq_getElem hlt2⟩
    obtain⟨g1,rfl,k1⟩:∃g,a1=some ⟨g,0,none⟩∧∀(i:Nat) (x:Nat × Nat),l1[i]? = some x→w.cell? ⟨g,i*2,none⟩=some (.int .i64 x.1)∧w.cell? ⟨g,i*2+1,none⟩=some (.int .i64 x.2):=by
     rcases H1.out with h|h
     ·subst h;simp at hlt
     ·exact h
    obtain⟨g2,rfl,k2⟩:∃g,a2=some ⟨g,0,none⟩∧∀(i:Nat) (x:Nat × Nat),l2[i]? = some x→w.cell? ⟨g,i*2,none⟩=some (.int .i64 x.1)∧w.cell? ⟨g,i*2+1,none⟩=some (.int .i64 x.2):=by
     rcases H2.out with h|h
     ·subst h;simp at hlt2
     ·exact h
    obtain⟨q1,q2⟩:=k1 k x1 e1
    obtain⟨q3,q4⟩:=k2 k x2 e2
    have p1:=(hb.cell _).trans q1
    have p2:=(hb.cell _).trans q2
    have p3:=(hb.cell _).trans q3
    have p4:=(hb.cell _).trans q4
    have E:=Lib.hid (And.intro e1 e2)
    clear k1 k2 q1 q2 q3 q4 e1 e2
    obtain⟨x,y⟩:=x1
    obtain⟨z,t⟩:=x2
    simp only at p1 p2 p3 p4
    by_cases hx:x=z∧y=t
    ·obtain⟨rfl,rfl⟩:=hx
     have hxx:(!(((x:Int)==(x:Int))&&((y:Int)==(y:Int))))=false:=by simp
     have ne:=NE.out x y x y
     rw[hxx] at ne
     clear hxx
     go_wp2
     go_quiet (fail)
     go_wp2
     go_roundw
     case rel =>
      refine⟨k+1,by omega,by go_num,?_,hb.more _⟩
      rw[List.take_add_one,List.take_add_one,HT.out,E.out.1,E.out.2]
     case measure=>simp[RowKit.intOf];omega
    ·have hxx:(!(((x:Int)==(z:Int))&&((y:Int)==(t:Int))))=true:=by simp;omega
     have ne:=NE.out x y z t
     rw[hxx] at ne
     clear hxx
     have hfin:decide (l1=l2)=false:=by
      simp only[decide_eq_false_iff_not]
      intro h;subst h;rw[E.out.1] at E
      have:=Option.some.inj E.out.2
      simp only[Prod.mk.injEq] at this
      exact hx this
     go_wp2
     go_quiet (fail)
     go_wp2
     go_ret
     exact⟨by rw[hfin];rfl,hb.more _⟩
   ·have hke:k=l1.length:=by omega
    have hfin:decide (l1=l2)=true:=by
     have:=HT.out
     rw[hke,List.take_length,HL.out,List.take_length] at this
     simpa using this
    clear hke
    go_wp2
    go_ret
    exact⟨by rw[hfin];rfl,hb⟩
 ·have hne:((l1.length:Int)!=l2.length)=true:=by simp;omega
  have hfin:decide (l1=l2)=false:=by
   simp only[decide_eq_false_iff_not]
   intro h;subst h;exact hl rfl
  clear h1 h2 hl
  go_enter Tryz.func9,Tryz.ntmps9
  go_wp2
  go_ret
  exact⟨by rw[hfin];rfl,Drawn.refl _⟩
def fileX:List UInt8:=[107,105,110,100,32,48,51,48,48,46,46,48,51,54,70,32,109,97,114,107]
def rdX:RdS:=⟨[],[(768,879,3)],fun _=>none,fun _=>none,fun _=>none,fun _=>none⟩
theorem fileX_reads:readP 0 rd0 (linesP fileX)=(0,1,rdX):=by kernel_rfl
theorem fileX_lines:lnC fileX=1:=by kernel_rfl
theorem file_only {f:List UInt8} {m:Nat} {R:RdS} {no line:Nat} {S:RdS} {L:List Nat} (hf:f.length≤1000) (hl:lnC f≤1000) (hr:readP 0 rd0 (linesP f)=(0,m,R)) (hd:∀x,R.ds x=none) (hg:(ringP R 1 [] fun _=>none).1=0) (h:ParseR f no line S L):no=0∧S=R∧L=[]:=by
 rcases h with ⟨h,_⟩|⟨_,h1,_⟩|⟨_,h1,h2,h3,h4,h5,_⟩
 ·omega
 ·rw[hr] at h1;exact absurd rfl h1
 ·rw[hr] at h2
  simp only at h2
  subst h2
  have hL:L=[]:=List.eq_nil_iff_forall_not_mem.2 fun x hx=>by have:=(h4 x).1 hx;rw[hd x] at this;cases this
  subst hL
  exact⟨by rw[h5];exact hg,rfl,rfl⟩
end Go.Proofs.YtgpbaeehajkebaaGreatDoor
namespace Go.Proofs.YtgpbaeehajkebaaGreatDoor
open Go.Lib Go.Shelf
set_option maxRecDepth 100000
noncomputable abbrev theLaidD:List (String × DataW Unit):=theLaidX
noncomputable abbrev worldD (os:Os):World:=worldX os
theorem worldD_os (os:Os):(worldD os).os=os:=worldX_os os
theorem laid_metD (os:Os) (args:Array Value):laidMetH Tryz.prog theLaidD ((worldD os).forCall (fun _ _=>0) ⟨#[],args,[]⟩).memory:=laid_metX os args
theorem of_laidD {W:World} (h:laidMetH Tryz.prog theLaidX W) (hsh:W.ShapedOpen Tryz.prog):(PEnv W∧KTabX W)∧Lib.Utf8Tabs 3 4 W:=by
 refine⟨of_laidX h hsh,?_⟩
 have h':laidMet Tryz.prog theLaidX W:=by rw[MakeChecks.laidMetH_plain _ _ _ (by kernel_rfl)] at h;exact h
 exact tabs_of_reads (accept_eq▸laidMet.reads h' (.tail _ (.tail _ (.tail _ (.tail _ (.head _)))))) (Pinned.utf8First_eq▸laidMet.reads h' (.tail _ (.tail _ (.tail _ (.tail _ (.tail _ (.tail _ (.tail _ (.tail _ (.head _))))))))))
end Go.Proofs.YtgpbaeehajkebaaGreatDoor
