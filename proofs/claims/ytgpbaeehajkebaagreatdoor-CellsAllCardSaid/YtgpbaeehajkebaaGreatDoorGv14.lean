/- Parts of the proof of what the last text says. -/
import Derived.Test.YtgpbaeehajkebaaGreatDoorGv3
import Derived.Test.YtgpbaeehajkebaaGreatDoorGv2
import Derived.Test.YtgpbaeehajkebaaGreatDoorGv8
import Derived.Test.YtgpbaeehajkebaaGreatDoorGv5
import Derived.Test.YtgpbaeehajkebaaGreatDoorGv1
import Derived.BigRegionIn
import Derived.LoopIn
import Derived.Lib.PathFns
import Derived.Lib.IndexLaws
import Derived.BigFrameIn
import Derived.Test.YtgpbaeehajkebaaGreatDoorGv11
namespace Go.Proofs.YtgpbaeehajkebaaGreatDoor
open Go Go.RowKit Go.Kt Go.Kt.Bits

set_option maxRecDepth 100000 in
theorem psearch (g:Nat) (cb:Array Value) (n:Nat) (p:Nat→Bool) (w:World) (eg:∀args w,(callFunc g args).run Tryz.prog w = .ok (.enter g args) w) (hn:n≤140737488351232)
    (hf:∀(m i:Nat),i<n→Calls Tryz.prog g (#[.int .i64 i]++cb) (w.drewN m) fun e w'=>e = .returned (.bool (p i))∧∃q,w'=(w.drewN m).drewN q)
    (hm:∀a b,a≤b→p a=true→p b=true) :
    Calls Tryz.prog 116 #[.int .i64 n,.func (.func g) #[] cb] w fun e w'=>e = .returned (.int .i64 (cnt (fun i=>!p i) n:Nat))∧∃q,w'=w.drewN q:=by
  have HF:=Lib.hid hf
  have HM:=Lib.hid hm
  have HC:=Lib.hid (count_front p hm n)
  have hcl:=cnt_le (fun i=>!p i) n
  obtain⟨j,hj⟩:∃j,cnt (fun i=>!p i) n=j:=⟨_,rfl⟩
  rw[hj] at HC hcl ⊢
  clear hf hm hj
  go_enter Tryz.func116,Tryz.ntmps116
  go_wp2
  go_loopg [5,6] n (fun kx s5 s6 wr=>∃(lo hi q:Nat),s5 = .int .i64 lo∧s6 = .int .i64 hi∧lo≤j∧j≤hi∧hi≤n∧hi-lo≤kx∧wr=w.drewN q)
  case atStart=>exact⟨0,n,0,rfl,rfl,by omega,hcl,by omega,by omega,rfl⟩
  case round =>
    obtain⟨lo,hi,q,rfl,rfl,h1,h2,h3,h4,rfl⟩:=hrel
    by_cases hlt:lo<hi
    · have hc:=HF.out q ((lo+hi)/2) (by omega)
      rw[show (((lo+hi)/2:Nat):Int)=((lo:Int)+(hi:Int))/2 by omega] at hc
      cases hp:p ((lo+hi)/2) <;> rw[hp] at hc
      · have hj1:(lo+hi)/2<j:=by
          rcases Nat.lt_or_ge ((lo+hi)/2) j with h|h
          · exact h
          · have:=HC.out.2 _ h (by omega);rw[hp] at this;cases this
        have CC:=Lib.hid hc
        clear hp hc
        go_wp2_with (go_at_fn g;refine CC.out.mono ?_;rintro e w' ⟨rfl,nq,rfl⟩)
        go_roundg (hi-((lo+hi)/2+1))
        case measure=>omega
        case rel=>exact⟨(lo+hi)/2+1,hi,q+nq,by rw[show ((lo:Int)+(hi:Int))/2+1=(((lo+hi)/2+1:Nat):Int) by omega],rfl,by omega,h2,h3,Nat.le_refl _,rfl⟩
      · have hj1:j≤(lo+hi)/2:=by
          rcases Nat.lt_or_ge ((lo+hi)/2) j with h|h
          · have:=HC.out.1 _ h;rw[hp] at this;cases this
          · exact h
        have CC:=Lib.hid hc
        clear hp hc
        go_wp2_with (go_at_fn g;refine CC.out.mono ?_;rintro e w' ⟨rfl,nq,rfl⟩)
        go_roundg ((lo+hi)/2-lo)
        case measure=>omega
        case rel=>exact⟨lo,(lo+hi)/2,q+nq,rfl,by rw[show ((lo:Int)+(hi:Int))/2=(((lo+hi)/2:Nat):Int) by omega],h1,hj1,by omega,Nat.le_refl _,rfl⟩
    · obtain rfl:lo=j:=by omega
      go_wp2
      go_ret
      exact⟨rfl,q,rfl⟩
end Go.Proofs.YtgpbaeehajkebaaGreatDoor
namespace Go.Proofs.YtgpbaeehajkebaaGreatDoor
open Go Go.RowKit Go.Kt Go.Kt.Rg
attribute [local go_sem] Oper.semAt_some
def linesF:Nat→List UInt8→List (List UInt8)
 | 0,_=>[]
 | f+1,l=>if l=[] then [] else if 0≤Lib.indexByte l 10 then l.take ((Lib.indexByte l 10).toNat+1)::linesF f (l.drop ((Lib.indexByte l 10).toNat+1)) else [l]
def linesP (l:List UInt8):List (List UInt8):=linesF (l.length+1) l
theorem linesF_fuel:∀(f:Nat) (l:List UInt8),l.length<f→linesF f l=linesP l:=by
 intro f
 induction f using Nat.strongRecOn with
 | _ f ih =>
   intro l hf
   cases f with
   | zero=>omega
   | succ f =>
     by_cases h0:l=[]
     ·subst h0;simp[linesP,linesF]
     have hl:0<l.length:=List.length_pos_iff.2 h0
     unfold linesP
     rw[linesF,linesF,if_neg h0,if_neg h0]
     by_cases h1:0≤Lib.indexByte l 10
     ·rw[if_pos h1,if_pos h1]
      congr 1
      have hd:(l.drop ((Lib.indexByte l 10).toNat+1)).length<l.length:=by rw[List.length_drop];omega
      rw[ih f (by omega) _ (by omega)]
      by_cases hfl:f=l.length
      ·rw[←hfl,ih f (by omega) _ (by omega)]
      ·rw[ih l.length (by omega) _ hd]
     ·rw[if_neg h1,if_neg h1]
theorem linesP_nil:linesP []=[]:=rfl
theorem linesP_some {l:List UInt8} (h0:l≠[]) {i:Nat} (h:Lib.indexByte l 10=(i:Int)):linesP l=l.take (i+1)::linesP (l.drop (i+1)):=by
 have hl:0<l.length:=List.length_pos_iff.2 h0
 rw[linesP,linesF,if_neg h0,if_pos (by omega),h,Int.toNat_natCast,linesF_fuel _ _ (by rw[List.length_drop];omega)]
theorem linesP_none {l:List UInt8} (h0:l≠[]) (h:Lib.indexByte l 10 = -1):linesP l=[l]:=by
 rw[linesP,linesF,if_neg h0,if_neg (by omega)]
def encL (x:List UInt8):Array Value:=#[.string ⟨x.toArray⟩]
theorem plines_call (s:ByteArray) (w:World) :
 Calls Tryz.prog 28 #[.string s] w fun e w'=>e = .returned (.func (.func 57) #[] #[.pointer (some ⟨w.heap.size,0,none⟩)])∧w.alloc (.cells #[.string s] 9)=w':=by
 go_enter Tryz.func28,Tryz.ntmps28
 go_wp2
 go_ret
 exact⟨rfl,rfl⟩
theorem enters_lines:∀args w,(callFunc 57 args).run Tryz.prog w = .ok (.enter 57 args) w:=enters_of Tryz.func57 (by kernel_rfl) rfl
set_option maxRecDepth 100000 in
set_option maxHeartbeats 4000000 in
theorem plines_iter (s:List UInt8) (bs:Nat) (w0:World) (hc:w0.heap[bs]? = some (.cells #[.string ⟨s.toArray⟩] 9 (0,0))) (hs:s.length≤1048576) :
 Iter3 Tryz.prog 57 #[.pointer (some ⟨bs,0,none⟩)] encL (linesP s) (fun x=>x=bs) (fun _=>False) w0:=by
 intro m X J Jx W hNd hX hsame hsz hJ hJx hSl hY h0
 have hbW:W.heap[bs]? = some (.cells #[.string ⟨s.toArray⟩] 9 (0,0)):=(hsame bs (.inl rfl)).trans hc
 have hXb:Hid (¬X bs∧bs<W.heap.size):=Lib.hid ⟨hNd bs (.inl rfl),(Array.getElem?_eq_some_iff.1 hbW).1⟩
 have HK:=Lib.hid (And.intro hX (And.intro hJ (And.intro hJx (And.intro hSl hY))))
 obtain⟨L,hL⟩:∃L,linesP s=L:=⟨_,rfl⟩
 rw[hL] at HK ⊢
 have hfn:∀k,Fence.wide.fn k:=fun _=>trivial
 have hdep:Fence.wide.depth=none:=rfl
 clear hNd hsame hsz hc hX hJ hJx hSl hY
 refine (callsIn_wide (n:=0)).1 ?_
 refine callsIn_of_wp Tryz.func57 rfl trivial ?_ rfl
 simp only[Tryz.ntmps57,List.size_toArray,List.length_cons,List.length_nil,Nat.reduceAdd,Nat.reduceSub,Array.replicate_succ,Array.replicate_zero,List.push_toArray,List.append_toArray,List.nil_append,List.cons_append]
 gi_wp2_with fail
 gi_loopw [3] (fun _ wr=>∃(rest:List UInt8) (pre:List (List UInt8)) (Y:Nat→Prop),rest.length≤1048576∧pre++linesP rest=L∧(∀y,Y y→W.heap.size≤y)∧J pre Y wr∧Keep (fun b=>X b∨b=bs) W wr∧wr.heap[bs]? = some (.cells #[.string ⟨rest.toArray⟩] 9 (0,0)))
  (fun _ wr=>match wr.cell? ⟨bs,0,none⟩ with|some (.string t)=>t.size|_=>0)
 case atStart=>exact⟨s,[],_,hs,by simpa using hL,fun _ h=>h.elim,h0,Keep.refl _ _,hbW⟩
 case round =>
  obtain⟨rest,pre,Y,hrl,hpre,hYl,hJs,hkp,hcell⟩:=hrel
  obtain⟨T,hT⟩:∃T:ByteArray,(⟨rest.toArray⟩:ByteArray)=T:=⟨_,rfl⟩
  have hsz:T.size=rest.length:=by rw[←hT,bsize]
  rw[hT] at hcell
  have c0:wr.cell? ⟨bs,0,none⟩=some (.string T):=by rw[Lib.cell_of_heap hcell];rfl
  have f0:wr.frozen? ⟨bs,0,none⟩=false:=Lib.frozen_of_heap hcell _
  have HC:=Lib.hid hcell
  have HT:=Lib.hid hT
  have HL:=Lib.hid hL
  have HI:=Lib.hid (And.intro hpre (And.intro hYl (And.intro hJs hkp)))
  clear hcell hT hL hpre hYl hJs hkp
  by_cases h0r:rest=[]
  ·have z:((T.size:Nat):Int)≤0:=by rw[hsz,h0r];simp
   have e:pre=L:=by have:=HI.out.1;rw[h0r,linesP_nil,List.append_nil] at this;exact this
   rw[e] at HI
   clear hsz f0 h0r
   gi_wp2_with fail
   go_end0
   exact⟨⟨_,rfl⟩,HI.out.2.2.2,.inl ⟨Y,HI.out.2.1,HI.out.2.2.1⟩⟩
  ·have hpos:0<rest.length:=List.length_pos_iff.2 h0r
   have z:(0:Int)<((T.size:Nat):Int):=by omega
   have CI:=Lib.hid (Tryz.strings_IndexByte T 10 wr)
   have hd:T.data.toList=rest:=by rw[←HT.out]
   rw[hd] at CI
   obtain⟨j,hj⟩:∃j,Lib.indexByte rest 10=j:=⟨_,rfl⟩
   have CI2:Hid (Calls Tryz.prog 58 #[.string T,.int .u8 10] wr fun e w'=>e = .returned (.int .i64 j)∧w'=wr):=Lib.hid (by rw[←hj];exact CI.out)
   clear CI
   by_cases h1:0≤j
   ·obtain⟨i,rfl⟩:=Int.eq_ofNat_of_zero_le h1
    have hil:i<rest.length:=(List.getElem?_eq_some_iff.1 (Lib.indexByte_some hj).1).1
    have HLP:=Lib.hid (linesP_some h0r hj)
    have q1:IntKind.i64.wrap ((i:Int)+1)=((i+1:Nat):Int):=by rw[IntWalk.i64_in _ (by omega)];omega
    have q2:((i+1:Nat):Int)≤((T.size:Nat):Int):=by omega
    have hex:T.extract 0 (i+1)=⟨(rest.take (i+1)).toArray⟩∧T.extract (i+1) T.size=⟨(rest.drop (i+1)).toArray⟩:=⟨by rw[Lib.extract_upto,hd],by rw[Lib.extract_from,hd]⟩
    have HE:=Lib.hid hex
    have HSZ:=Lib.hid hsz
    clear hsz h0r hd hj hex
    gi_wp2_with fail
    refine (callsIn_wide.2 CI2.out).mono ?_
    rintro e1 V1 ⟨rfl,rfl⟩
    gi_wp2_with fail
    gi_region
    rw[HE.out.1,HE.out.2]
    obtain⟨x,hx⟩:∃x,rest.take (i+1)=x:=⟨_,rfl⟩
    obtain⟨r2,hr2⟩:∃r2,rest.drop (i+1)=r2:=⟨_,rfl⟩
    have hlp:=HLP.out
    have hr2l:r2.length=rest.length-(i+1):=by rw[←hr2,List.length_drop]
    rw[hx,hr2] at hlp ⊢
    obtain⟨W4,hW4⟩:∃W4,(V1.setCell ⟨bs,0,none⟩ (.string ⟨r2.toArray⟩)).drew=W4:=⟨_,rfl⟩
    have hK4:Keep (fun b=>b=bs) V1 W4:=by
     rw[←hW4]
     exact (Keep.setCell (X:=fun b=>b=bs) (Keep.refl _ V1) (p:=⟨bs,0,none⟩) rfl _).drew
    have hc4:W4.heap[bs]? = some (.cells #[.string ⟨r2.toArray⟩] 9 (0,0)):=by
     rw[←hW4]
     have:=heap_setCell_same V1 bs 0 _ _ (.string ⟨r2.toArray⟩) HC.out
     show (V1.setCell ⟨bs,0,none⟩ (.string ⟨r2.toArray⟩)).heap[bs]? = _
     simpa using this
    rw[hW4]
    have hYb:¬Y bs:=fun h=>by have:=HI.out.2.1 bs h;have:=hXb.out.2;omega
    have hJ4:J pre Y W4:=HK.out.2.1 _ _ _ _ (hK4.weaken (fun b _ hb=>⟨.inl hb,by rw[hb];exact hYb⟩)) HI.out.2.2.1
    have hkW4:Keep (fun b=>X b∨b=bs) W W4:=HI.out.2.2.2.trans (hK4.weaken (fun b _ hb=>.inr hb))
    have hpx:pre++[x]++linesP r2=L:=by rw[←HI.out.1,hlp,List.append_assoc];rfl
    have hyy:YieldAt Fence.wide 0 Tryz.prog m #[.string ⟨x.toArray⟩] W4 _:=HK.out.2.2.2.2 pre x Y W4 ⟨linesP r2,hpx⟩ hJ4 hkW4.size HI.out.2.1
    obtain⟨fn,tmps,assign,body,hy,hR⟩:=hyy
    have H4:=Lib.hid (And.intro hkW4 (And.intro hc4 (And.intro hpx hr2l)))
    clear hK4 hc4 hJ4 hkW4 hpx hW4 hx hr2 hr2l hlp
    gi_wp2_with fail
    refine hR.mono ?_
    rintro e3 V3 ⟨Y',hk4,hY',(⟨rfl,hJ3⟩|⟨rfl,hJx3⟩)⟩
    all_goals have hk3:=H4.out.1
    all_goals have hzk:=hk3.size
    all_goals have hkW:Keep (fun b=>X b∨b=bs) W V3:=⟨hk4.os.trans hk3.os,hk4.tape.trans hk3.tape,hk4.output.trans hk3.output,Nat.le_trans hk3.size hk4.size,fun b hb hx=>(hk4.same b (Nat.lt_of_lt_of_le hb hk3.size) (fun h=>by rcases h with h|h;exact hx (.inl h);have:=HI.out.2.1 b h;omega)).trans (hk3.same b hb hx)⟩
    all_goals have hYl2:∀b,Y' b→W.heap.size≤b:=fun b hb=>by rcases hY' b hb with h|h;exact HI.out.2.1 b h;omega
    ·have hq3:V3.heap[bs]? = some (.cells #[.string ⟨r2.toArray⟩] 9 (0,0)):=hk4.heap H4.out.2.1 (fun h=>by
     rcases h with h|h
     ·exact hXb.out.1 h
     ·exact hYb h)
     have HF:=Lib.hid (And.intro hYl2 (And.intro hJ3 (And.intro hkW hq3)))
     clear hk4 hk3 hYl2 hJ3 hkW hq3 hY' hYb
     gi_wp2_with fail
     go_roundw
     case rel=>exact⟨r2,pre++[x],Y',by have:=H4.out.2.2.2;omega,H4.out.2.2.1,HF.out.1,HF.out.2.1,HF.out.2.2.1,HF.out.2.2.2⟩
     case measure =>
      have e1:V3.cell? ⟨bs,0,none⟩=some (.string ⟨r2.toArray⟩):=by rw[Lib.cell_of_heap HF.out.2.2.2];rfl
      rw[e1,c0]
      show (⟨r2.toArray⟩:ByteArray).size<T.size
      rw[bsize,HSZ.out]
      have:=H4.out.2.2.2
      omega
    ·have HF:=Lib.hid (And.intro hYl2 (And.intro hJx3 hkW))
     have HPX:=Lib.hid (show pre++[x] <+: L from⟨linesP r2,H4.out.2.2.1⟩)
     clear hk4 hk3 hYl2 hJx3 hkW hY' hYb
     gi_wp2_with fail
     refine bodyPost_ret (results_none rfl _ _ _) rfl ?_
     exact⟨⟨_,rfl⟩,HF.out.2.2,.inr ⟨_,Y',HPX.out,HF.out.1,HF.out.2.1⟩⟩
   ·have hjm:j = -1:=by have:=Lib.indexByte_ge rest 10;omega
    have HLP:=Lib.hid (linesP_none h0r (hj.trans hjm))
    subst hjm
    have HSZ:=Lib.hid hsz
    obtain⟨x,hx⟩:∃x,rest=x:=⟨_,rfl⟩
    have HT2:Hid (T=⟨x.toArray⟩):=Lib.hid (by rw[←HT.out,hx])
    clear hsz h0r hd hj h1
    gi_wp2_with fail
    refine (callsIn_wide.2 CI2.out).mono ?_
    rintro e1 V1 ⟨rfl,rfl⟩
    have hlp:=HLP.out
    rw[hx] at hlp
    have hT3:=HT2.out
    subst hT3
    obtain⟨r2,hr2⟩:∃r2:List UInt8,r2=[]:=⟨_,rfl⟩
    have hr20:r2.length=0:=by rw[hr2];rfl
    have hlp2:linesP rest=x::linesP r2:=by rw[hr2,linesP_nil,hx];exact hlp
    obtain⟨W4,hW4⟩:∃W4,V1.setCell ⟨bs,0,none⟩ (.string ⟨#[]⟩)=W4:=⟨_,rfl⟩
    have hK4:Keep (fun b=>b=bs) V1 W4:=by
     rw[←hW4]
     exact (Keep.setCell (X:=fun b=>b=bs) (Keep.refl _ V1) (p:=⟨bs,0,none⟩) rfl _)
    have hc4:W4.heap[bs]? = some (.cells #[.string ⟨r2.toArray⟩] 9 (0,0)):=by
     rw[←hW4]
     have:=heap_setCell_same V1 bs 0 _ _ (.string ⟨#[]⟩) HC.out
     rw[hr2]
     simpa using this
    have hlp:=hlp2
    have hr2l:r2.length=rest.length-rest.length:=by omega
    have hYb:¬Y bs:=fun h=>by have:=HI.out.2.1 bs h;have:=hXb.out.2;omega
    have hJ4:J pre Y W4:=HK.out.2.1 _ _ _ _ (hK4.weaken (fun b _ hb=>⟨.inl hb,by rw[hb];exact hYb⟩)) HI.out.2.2.1
    have hkW4:Keep (fun b=>X b∨b=bs) W W4:=HI.out.2.2.2.trans (hK4.weaken (fun b _ hb=>.inr hb))
    have hpx:pre++[x]++linesP r2=L:=by rw[←HI.out.1,hlp,List.append_assoc];rfl
    have hyy:YieldAt Fence.wide 0 Tryz.prog m #[.string ⟨x.toArray⟩] W4 _:=HK.out.2.2.2.2 pre x Y W4 ⟨linesP r2,hpx⟩ hJ4 hkW4.size HI.out.2.1
    obtain⟨fn,tmps,assign,body,hy,hR⟩:=hyy
    have H4:=Lib.hid (And.intro hkW4 (And.intro hc4 (And.intro hpx hr2l)))
    clear hK4 hc4 hJ4 hkW4 hpx hr2 hr2l hlp hlp2 hx hr20
    gi_wp2_with fail
    refine hR.mono ?_
    rintro e3 V3 ⟨Y',hk4,hY',(⟨rfl,hJ3⟩|⟨rfl,hJx3⟩)⟩
    all_goals have hk3:=H4.out.1
    all_goals have hzk:=hk3.size
    all_goals have hkW:Keep (fun b=>X b∨b=bs) W V3:=⟨hk4.os.trans hk3.os,hk4.tape.trans hk3.tape,hk4.output.trans hk3.output,Nat.le_trans hk3.size hk4.size,fun b hb hx=>(hk4.same b (Nat.lt_of_lt_of_le hb hk3.size) (fun h=>by rcases h with h|h;exact hx (.inl h);have:=HI.out.2.1 b h;omega)).trans (hk3.same b hb hx)⟩
    all_goals have hYl2:∀b,Y' b→W.heap.size≤b:=fun b hb=>by rcases hY' b hb with h|h;exact HI.out.2.1 b h;omega
    ·have hq3:V3.heap[bs]? = some (.cells #[.string ⟨r2.toArray⟩] 9 (0,0)):=hk4.heap H4.out.2.1 (fun h=>by
     rcases h with h|h
     ·exact hXb.out.1 h
     ·exact hYb h)
     have HF:=Lib.hid (And.intro hYl2 (And.intro hJ3 (And.intro hkW hq3)))
     clear hk4 hk3 hYl2 hJ3 hkW hq3 hY' hYb
     gi_wp2_with fail
     go_roundw
     case rel=>exact⟨r2,pre++[x],Y',by have:=H4.out.2.2.2;omega,H4.out.2.2.1,HF.out.1,HF.out.2.1,HF.out.2.2.1,HF.out.2.2.2⟩
     case measure =>
      have e1:V3.cell? ⟨bs,0,none⟩=some (.string ⟨r2.toArray⟩):=by rw[Lib.cell_of_heap HF.out.2.2.2];rfl
      rw[e1,c0]
      show (⟨r2.toArray⟩:ByteArray).size<(⟨x.toArray⟩:ByteArray).size
      have h9:=HSZ.out
      rw[h9,bsize]
      have:=H4.out.2.2.2
      omega
    ·have HF:=Lib.hid (And.intro hYl2 (And.intro hJx3 hkW))
     have HPX:=Lib.hid (show pre++[x] <+: L from⟨linesP r2,H4.out.2.2.1⟩)
     clear hk4 hk3 hYl2 hJx3 hkW hY' hYb
     gi_wp2_with fail
     refine bodyPost_ret (results_none rfl _ _ _) rfl ?_
     exact⟨⟨_,rfl⟩,HF.out.2.2,.inr ⟨_,Y',HPX.out,HF.out.1,HF.out.2.1⟩⟩
end Go.Proofs.YtgpbaeehajkebaaGreatDoor
namespace Go.Proofs.YtgpbaeehajkebaaGreatDoor
open Go Go.RowKit Go.Kt Go.Kt.Rg Go.Maps
def lnC (l:List UInt8):Nat:=l.count 10+if l=[]∨Lib.hasSuffix l [10]=true then 0 else 1
set_option maxRecDepth 100000 in
theorem plineCount (s:ByteArray) (w:World) (hs:s.size≤1048576):Calls Tryz.prog 26 #[.string s] w fun e w'=>e = .returned (.int .i64 (lnC s.data.toList:Nat))∧w'=w:=by
 have C1:=Lib.hid (Tryz.strings_Count_one s 10 w)
 have C2:=Lib.hid (Tryz.strings_HasSuffix s ⟨#[10]⟩ w (by omega))
 have hl:s.data.toList.length=s.size:=(Lib.size_eq s).symm
 have hl2:s.toList=s.data.toList:=ByteArray.toList_eq s
 obtain⟨l,hs2⟩:∃l,s.data.toList=l:=⟨_,rfl⟩
 rw[hs2] at C1 C2 hl hl2 ⊢
 have C2':Hid (Calls Tryz.prog 52 #[.string s,.string ⟨#[10]⟩] w fun e w'=>e = .returned (.bool (Lib.hasSuffix l [10]))∧w'=w):=C2
 obtain⟨n,hn⟩:∃n,Lib.countByte l 10=n:=⟨_,rfl⟩
 have hnl:n≤l.length:=by rw[←hn];exact List.count_le_length
 have hcn:l.count 10=n:=hn
 rw[hn] at C1
 have q1:IntKind.i64.wrap ((n:Int)+1)=((n+1:Nat):Int):=by rw[IntWalk.i64_in _ (by omega)];omega
 obtain⟨t,ht⟩:∃t,Lib.hasSuffix l [10]=t:=⟨_,rfl⟩
 rw[ht] at C2'
 by_cases h0:l=[]
 ·have HX:Hid (lnC l=n):=Lib.hid (by unfold lnC;rw[if_pos (.inl h0),hcn];rfl)
  have e0:s.toList.isEmpty=true:=by rw[hl2,h0];rfl
  clear hcn hn ht hs2 hnl q1 hl hl2 h0 C2 C2'
  go_enter Tryz.func26,Tryz.ntmps26
  go_wp2_with fail
  refine C1.out.mono ?_
  rintro e w1 ⟨rfl,rfl⟩
  go_wp2
  go_ret
  exact⟨by rw[HX.out];rfl,rfl⟩
 ·have e0:s.toList.isEmpty=false:=by rw[hl2];simpa using h0
  cases t with
  | true =>
    have HX:Hid (lnC l=n):=Lib.hid (by unfold lnC;rw[if_pos (.inr ht),hcn];rfl)
    clear hcn hn ht hs2 hnl q1 hl hl2 h0 C2
    go_enter Tryz.func26,Tryz.ntmps26
    go_wp2_with fail
    refine C1.out.mono ?_
    rintro e w1 ⟨rfl,rfl⟩
    go_wp2_with fail
    refine C2'.out.mono ?_
    rintro e w1 ⟨rfl,rfl⟩
    go_wp2
    go_ret
    exact⟨by rw[HX.out];rfl,rfl⟩
  | false =>
    have HX:Hid (lnC l=n+1):=Lib.hid (by unfold lnC;rw[if_neg (fun h=>by rcases h with h|h;exact h0 h;rw[ht] at h;cases h),hcn])
    clear hcn hn ht hs2 hnl hl hl2 h0 C2
    go_enter Tryz.func26,Tryz.ntmps26
    go_wp2_with fail
    refine C1.out.mono ?_
    rintro e w1 ⟨rfl,rfl⟩
    go_wp2_with fail
    refine C2'.out.mono ?_
    rintro e w1 ⟨rfl,rfl⟩
    go_wp2
    go_ret
    exact⟨by rw[HX.out];rfl,rfl⟩
theorem pfaultR {B0:Nat} {ρ:Nat→Nat} {R:RdB} {line n m:Nat} {S:RdS} {cv kv:Value} (w:World) (hR:RdW B0 ρ R line n m S cv kv w) (no:Nat) :
 Calls Tryz.prog 31 #[.pointer (some ⟨R.g,0,none⟩),.int .i64 (no:Nat)] w fun e w'=>e = .returned (.iface 111 (.agg #[.int .i64 (no:Nat),.int .i64 (line:Nat),.int .i64 0]))∧w'=w:=by
 have c1:w.cell? ⟨R.g,1,none⟩=some (.int .i64 (line:Nat)):=by rw[Lib.cell_of_heap hR.cell];rfl
 clear hR
 go_enter Tryz.func31,Tryz.ntmps31
 go_wp2
 go_ret
 exact⟨rfl,rfl⟩
end Go.Proofs.YtgpbaeehajkebaaGreatDoor
namespace Go.Proofs.YtgpbaeehajkebaaGreatDoor
open Go Go.RowKit Go.Kt Go.Kt.Rg Go.Maps
def rd0:RdS:=⟨[],[],fun _=>none,fun _=>none,fun _=>none,fun _=>none⟩
theorem MapG.alloc {P:Program} {k:TypeId} {b n:Nat} {f:Lit→Option Value} {w:World} (h:MapG P k b n f w) (o:Obj):MapG P k b n f (w.alloc o):=MapG.keep h ((Keep.refl (fun _=>False) w).alloc o) (fun h=>h)
theorem ptF_none {vs:Nat→Option Value} (h:∀x,vs x=none) (kl:Lit):none=ptF vs kl:=by
 unfold ptF
 split
 ·split
  ·rw[h]
  ·rfl
 ·rfl
theorem says_put (g:Nat) (kl:Lit) (hk:WideAt.IsKeyLit kl):putF (putF (putF (putF (fun _=>none) (.string [99,108,97,115,115]) (saysV g 53)) (.string [107,105,110,100]) (saysV g 54)) (.string [102,111,108,100]) (saysV g 55)) (.string [100,101,99,111,109,112]) (saysV g 56) kl=saysF g kl:=by
 by_cases e4:kl = .string [100,101,99,111,109,112]
 ·subst e4;rw[putF_same _ _ hk];rfl
 rw[putF_other _ e4]
 by_cases e3:kl = .string [102,111,108,100]
 ·subst e3;rw[putF_same _ _ hk];rfl
 rw[putF_other _ e3]
 by_cases e2:kl = .string [107,105,110,100]
 ·subst e2;rw[putF_same _ _ hk];rfl
 rw[putF_other _ e2]
 by_cases e1:kl = .string [99,108,97,115,115]
 ·subst e1;rw[putF_same _ _ hk];rfl
 rw[putF_other _ e1]
 unfold saysF
 split
 ·rename_i b
  rw[if_neg (fun h=>e1 (by rw[h])),if_neg (fun h=>e2 (by rw[h])),if_neg (fun h=>e3 (by rw[h])),if_neg (fun h=>e4 (by rw[h]))]
 ·rfl
def newRole (H:Nat):Nat→Nat:=fun b=>if b=H then 4 else if b=H+1 then 5 else if b=H+1+1 then 6 else if b=H+1+1+1 then 7 else if b=H+1+1+1+1 then 1 else if b=H+1+1+1+1+1 then 8 else 0
theorem newRole_le (H b:Nat) (h:newRole H b≠0):H≤b:=by
 unfold newRole at h
 refine Nat.le_of_not_lt fun hb=>h ?_
 rw[if_neg (by omega),if_neg (by omega),if_neg (by omega),if_neg (by omega),if_neg (by omega),if_neg (by omega)]
theorem newRole0 (H:Nat):newRole H (H)=4:=by unfold newRole;rw[if_pos rfl]
theorem newRole1 (H:Nat):newRole H (H+1)=5:=by unfold newRole;rw[if_neg (by omega),if_pos rfl]
theorem newRole2 (H:Nat):newRole H (H+1+1)=6:=by unfold newRole;rw[if_neg (by omega),if_neg (by omega),if_pos rfl]
theorem newRole3 (H:Nat):newRole H (H+1+1+1)=7:=by unfold newRole;rw[if_neg (by omega),if_neg (by omega),if_neg (by omega),if_pos rfl]
theorem newRole4 (H:Nat):newRole H (H+1+1+1+1)=1:=by unfold newRole;rw[if_neg (by omega),if_neg (by omega),if_neg (by omega),if_neg (by omega),if_pos rfl]
theorem newRole5 (H:Nat):newRole H (H+1+1+1+1+1)=8:=by unfold newRole;rw[if_neg (by omega),if_neg (by omega),if_neg (by omega),if_neg (by omega),if_neg (by omega),if_pos rfl]
set_option maxRecDepth 100000 in
set_option maxHeartbeats 4000000 in
theorem pnewR (w:World):Calls Tryz.prog 27 #[] w fun e w'=>∃R:RdB,e = .returned (.pointer (some ⟨R.g,0,none⟩))∧Below w.heap.size w w'∧∃ρ,RdW w.heap.size ρ R 0 0 0 rd0 (.slice none 0 0) (.slice none 0 0) w':=by
 have hm1:∀W:World,(Instr.makeMap 70 none).run Tryz.prog W = .ok (.map (some W.heap.size)) (W.alloc (.map #[] 0)):=fun W=>run_makeMap _ _
 have hm2:∀W:World,(Instr.makeMap 71 none).run Tryz.prog W = .ok (.map (some W.heap.size)) (W.alloc (.map #[] 0)):=fun W=>run_makeMap _ _
 have hm3:∀W:World,(Instr.makeMap 68 none).run Tryz.prog W = .ok (.map (some W.heap.size)) (W.alloc (.map #[] 0)):=fun W=>run_makeMap _ _
 go_enter Tryz.func27,Tryz.ntmps27
 go_wp2_with fail
 clear hm1 hm2 hm3
 obtain⟨H,hH⟩:∃H,w.heap.size=H:=⟨_,rfl⟩
 rw[hH]
 have k1:∀(W:World) (o:Obj),(W.alloc o).heap.size=W.heap.size+1:=fun W o=>Array.size_push _
 obtain⟨W0,hW0⟩:∃W0,((((((w.alloc (.map #[] 0)).alloc (.map #[] 0)).alloc (.map #[] 0)).alloc (.map #[] 0)).alloc (.cells #[.map none,.int .i64 0,.slice none 0 0,.slice none 0 0,.map (some H),.map (some (H+1)),.map (some (H+1+1)),.map (some (H+1+1+1))] 73)).alloc (.map #[] 0))=W0:=⟨_,rfl⟩
 rw[hW0]
 have hM0:MapG Tryz.prog 9 (H+1+1+1+1+1) 0 (fun _=>none) W0:=by
  have:=MapG.made (((((w.alloc (.map #[] 0)).alloc (.map #[] 0)).alloc (.map #[] 0)).alloc (.map #[] 0)).alloc (.cells #[.map none,.int .i64 0,.slice none 0 0,.slice none 0 0,.map (some H),.map (some (H+1)),.map (some (H+1+1)),.map (some (H+1+1+1))] 73)) Tryz.prog 9
  rw[hW0] at this
  simp only[k1,hH] at this
  exact this
 obtain⟨w1,hr1,hM1,hK1⟩:=hM0.put (string_keyed Tryz.underlying9) Tryz.underlying68 (by decide) (val:=saysV (H+1+1+1+1) 53) (key:=.string ⟨#[99,108,97,115,115]⟩) (kl:=.string [99,108,97,115,115]) (Go.WideMaps.keyOf_string_mk (P:=Tryz.prog) Tryz.underlying9 (s:=⟨#[99,108,97,115,115]⟩) (by decide))
 unfold saysV at hr1
 rw[hr1]
 clear hr1
 go_wp2_with fail
 obtain⟨w2,hr2,hM2,hK2⟩:=hM1.put (string_keyed Tryz.underlying9) Tryz.underlying68 (by decide) (val:=saysV (H+1+1+1+1) 54) (key:=.string ⟨#[107,105,110,100]⟩) (kl:=.string [107,105,110,100]) (Go.WideMaps.keyOf_string_mk (P:=Tryz.prog) Tryz.underlying9 (s:=⟨#[107,105,110,100]⟩) (by decide))
 unfold saysV at hr2
 rw[hr2]
 clear hr2
 go_wp2_with fail
 obtain⟨w3,hr3,hM3,hK3⟩:=hM2.put (string_keyed Tryz.underlying9) Tryz.underlying68 (by decide) (val:=saysV (H+1+1+1+1) 55) (key:=.string ⟨#[102,111,108,100]⟩) (kl:=.string [102,111,108,100]) (Go.WideMaps.keyOf_string_mk (P:=Tryz.prog) Tryz.underlying9 (s:=⟨#[102,111,108,100]⟩) (by decide))
 unfold saysV at hr3
 rw[hr3]
 clear hr3
 go_wp2_with fail
 obtain⟨w4,hr4,hM4,hK4⟩:=hM3.put (string_keyed Tryz.underlying9) Tryz.underlying68 (by decide) (val:=saysV (H+1+1+1+1) 56) (key:=.string ⟨#[100,101,99,111,109,112]⟩) (kl:=.string [100,101,99,111,109,112]) (Go.WideMaps.keyOf_string_mk (P:=Tryz.prog) Tryz.underlying9 (s:=⟨#[100,101,99,111,109,112]⟩) (by decide))
 unfold saysV at hr4
 rw[hr4]
 clear hr4
 have hcell:W0.heap[H+1+1+1+1]? = some (.cells #[.map none,.int .i64 0,.slice none 0 0,.slice none 0 0,.map (some H),.map (some (H+1)),.map (some (H+1+1)),.map (some (H+1+1+1))] 73 (0,0)):=by
  rw[←hW0,heap_alloc_if,if_neg (by simp only[k1,hH];omega),heap_alloc_if,if_pos (by simp only[k1,hH])]
 have g1:Hid (MapG Tryz.prog 21 H 0 (fun _=>none) W0):=Lib.hid (by
  have:=MapG.made w Tryz.prog 21
  rw[hH] at this
  rw[←hW0]
  exact MapG.alloc (MapG.alloc (MapG.alloc (MapG.alloc (MapG.alloc this _) _) _) _) _)
 have g2:Hid (MapG Tryz.prog 21 (H+1) 0 (fun _=>none) W0):=Lib.hid (by
  have:=MapG.made (w.alloc (.map #[] 0)) Tryz.prog 21
  simp only[k1,hH] at this
  rw[←hW0]
  exact MapG.alloc (MapG.alloc (MapG.alloc (MapG.alloc this _) _) _) _)
 have g3:Hid (MapG Tryz.prog 21 (H+1+1) 0 (fun _=>none) W0):=Lib.hid (by
  have:=MapG.made ((w.alloc (.map #[] 0)).alloc (.map #[] 0)) Tryz.prog 21
  simp only[k1,hH] at this
  rw[←hW0]
  exact MapG.alloc (MapG.alloc (MapG.alloc this _) _) _)
 have g4:Hid (MapG Tryz.prog 21 (H+1+1+1) 0 (fun _=>none) W0):=Lib.hid (by
  have:=MapG.made (((w.alloc (.map #[] 0)).alloc (.map #[] 0)).alloc (.map #[] 0)) Tryz.prog 21
  simp only[k1,hH] at this
  rw[←hW0]
  exact MapG.alloc (MapG.alloc this _) _)
 have hBW:Below H w W0:=by
  rw[←hW0,←hH]
  exact ((((((Below.refl _ w).alloc (Nat.le_refl _) _).alloc (by simp) _).alloc (by simp;omega) _).alloc (by simp;omega) _).alloc (by simp;omega) _).alloc (by simp;omega) _
 have hKK:=((hK1.trans hK2).trans hK3).trans hK4
 have HKK:=Lib.hid hKK
 have HBW:=Lib.hid hBW
 have HM4:=Lib.hid (MapG.congr hM4 (says_put _))
 have hz:W0.heap.size=H+1+1+1+1+1+1:=by rw[←hW0];simp only[k1,hH]
 have HZ:=Lib.hid hz
 have hcell4:=hKK.heap hcell (by omega)
 have HC4:=Lib.hid hcell4
 have c0:w4.cell? ⟨H+1+1+1+1,0,none⟩=some (.map none):=by rw[Lib.cell_of_heap hcell4];rfl
 have f0:w4.frozen? ⟨H+1+1+1+1,0,none⟩=false:=Lib.frozen_of_heap hcell4 _
 clear hM0 hM1 hM2 hM3 hM4 hK1 hK2 hK3 hK4 hKK hBW hcell hcell4 hW0 k1 hz
 go_wp2
 go_ret
 rw[hH]
 have hset:=heap_setCell_same w4 (H+1+1+1+1) 0 _ _ (.map (some (H+1+1+1+1+1))) HC4.out
 obtain⟨W5,hW5⟩:∃W5,w4.setCell ⟨H+1+1+1+1,0,none⟩ (.map (some (H+1+1+1+1+1)))=W5:=⟨_,rfl⟩
 have hK5:Keep (fun b=>b=H+1+1+1+1) w4 W5:=by
  rw[←hW5]
  exact Keep.setCell (X:=fun b=>b=H+1+1+1+1) (Keep.refl _ w4) (p:=⟨H+1+1+1+1,0,none⟩) rfl _
 rw[hW5] at hset ⊢
 have hz4:=HKK.out.size
 rw[HZ.out] at hz4
 have hK:Keep (fun b=>b=H+1+1+1+1+1∨b=H+1+1+1+1) W0 W5:=(HKK.out.weaken (fun _ _ h=>Or.inl h)).trans (hK5.weaken (fun _ _ h=>Or.inr h))
 refine⟨⟨H+1+1+1+1,H+1+1+1+1+1,H,H+1,H+1+1,H+1+1+1⟩,rfl,HBW.out.trans (hK.below (by rw[HZ.out];omega) (fun b hb=>by omega)),newRole H,?_⟩
 have gm:∀(b k:Nat) (f:Lit→Option Value),MapG Tryz.prog k b 0 (fun _=>none) W0→b<H+1+1+1+1→(∀kl,none=f kl)→MapG Tryz.prog k b 0 f W5:=fun b k f h h2 h3=>MapG.congr (MapG.keep h hK (by omega)) (fun kl _=>h3 kl)
 exact {
  hr:=newRole_le H,hB:=by have:=hK5.size;omega,g:=newRole4 H,cell:=by simpa [cellsR] using hset
  c:=own_nil _ _ _ _
  k:=own_nil _ _ _ _
  d:=⟨newRole0 H,fun _=>none,gm (H) _ _ g1.out (by omega) (ptF_none (fun _=>rfl)),fun _=>rfl,fun _ _ _ h=>by cases h⟩
  f:=⟨newRole1 H,fun _=>none,gm (H+1) _ _ g2.out (by omega) (ptF_none (fun _=>rfl)),fun _=>rfl,fun _ _ _ h=>by cases h⟩
  l:=⟨newRole2 H,gm (H+1+1) _ _ g3.out (by omega) (ptF_none (fun _=>rfl))⟩
  e:=⟨newRole3 H,gm (H+1+1+1) _ _ g4.out (by omega) (ptF_none (fun _=>rfl))⟩
  s:=⟨newRole5 H,MapG.keep HM4.out hK5 (show ¬H+1+1+1+1+1=H+1+1+1+1 by omega)⟩ }
end Go.Proofs.YtgpbaeehajkebaaGreatDoor
