/- The document's answer for props: Parse: the walk. WRITTEN by wip/tools/gen_zn.py. -/
import Derived.Test.YtgpbaeehajkebaaGreatDoorGv25
import Derived.Deep.RegionWith
namespace Go.Proofs.YtgpbaeehajkebaaGreatDoor
open Go Go.RowKit Go.Kt Go.Kt.Rg Go.Maps

def LpI (l:List UInt8) (g i:Nat) (w1 wr:World):Prop :=
  ∃S X cv kv fv dv ρ,RdI l i S∧PxW g ρ g X cv kv fv dv wr∧XRel X S∧X.fl.length≤i∧X.dl.length≤i∧Below g w1 wr
theorem lnT_le (x:List UInt8):(lnT x).length≤x.length:=by
  have h:∀(l s:List UInt8),(Lib.trimSuffix l s).length≤l.length:=fun l s=>by
    unfold Lib.trimSuffix
    split
    · simp
    · exact Nat.le_refl _
  unfold lnT
  exact Nat.le_trans (h _ _) (h _ _)
theorem PxW.keep9 {B0 g:Nat} {ρ:Nat→Nat} {X:XdS} {cv kv fv dv:Value} {w w':World} {Y:Nat→Prop} (h:PxW B0 ρ g X cv kv fv dv w) (hk:Keep Y w w') (hY:∀b,Y b→ρ b=9):PxW B0 ρ g X cv kv fv dv w' where
  hr:=h.hr
  hB:=Nat.le_trans h.hB hk.size
  rg:=h.rg
  cell:=hk.heap h.cell (fun e=>by have:=hY _ e;have:=h.rg;omega)
  c:=h.c.keep hk (fun b hb hy=>by have:=hY b hb;have hy:ρ b=2:=hy;omega)
  k:=h.k.keep hk (fun b hb hy=>by have:=hY b hb;have hy:ρ b=3:=hy;omega)
  f:=h.f.keep hk (fun b hb=>by have:=hY b hb;omega)
  d:=h.d.keep hk (fun b hb=>by have:=hY b hb;omega)
theorem ToV.keepF {ρ:Nat→Nat} {v:Value} {l:List Nat} {A B:World} {rb:Nat} {a b:Int} (h:ToV ρ v l A) (hrb:A.heap[rb]? = some (.cells #[.int .i64 a,.int .i64 b] 44 (0,0))) (hk:Keep (fun b=>b=rb) A B):ToV ρ v l B:=by
  obtain⟨ao,cap,rfl,h⟩:=h
  refine⟨ao,cap,rfl,?_⟩
  rcases h with h|⟨q,h1,h2,h3,h4⟩
  · exact .inl h
  · cases l with
    | nil=>exact .inl rfl
    | cons x t =>
      refine .inr ⟨q,h1,h2,Nat.lt_of_lt_of_le h3 hk.size,fun i y hy=>hk.cell (h4 i y hy) (fun e=>?_)⟩
      have h5:=h4 0 x rfl
      have e:q=rb:=e
      rw[e,Lib.cell_of_heap hrb] at h5
      simp at h5
theorem PxW.keepF {B0 g:Nat} {ρ:Nat→Nat} {X:XdS} {cv kv fv dv:Value} {w w':World} {rb:Nat} {a b:Int} (h:PxW B0 ρ g X cv kv fv dv w) (hrb:w.heap[rb]? = some (.cells #[.int .i64 a,.int .i64 b] 44 (0,0))) (hlt:rb<B0) (hk:Keep (fun b=>b=rb) w w'):PxW B0 ρ g X cv kv fv dv w':=by
  have h0:ρ rb=0:=by
    by_cases e:ρ rb=0
    · exact e
    · have:=h.hr rb e;omega
  have hL:∀ {k:Nat} {v:Value} {l:List Ln3},k≠0→LnO ρ k v l w→LnO ρ k v l w':=fun hk0 ⟨z,h1,h2,h3⟩ =>
    ⟨z,h1,h2.keep hk (fun b hb hy=>by have hy:ρ b=_:=hy;rw[hb,h0] at hy;exact hk0 hy.symm),fun p hp=>(h3 p hp).keepF hrb hk⟩
  exact {
    hr:=h.hr
    hB:=Nat.le_trans h.hB hk.size
    rg:=h.rg
    cell:=hk.heap h.cell (fun e=>by have h1:=h.rg;rw[e,h0] at h1;cases h1)
    c:=h.c.keep hk (fun b hb hy=>by have hy:ρ b=2:=hy;rw[hb,h0] at hy;cases hy)
    k:=h.k.keep hk (fun b hb hy=>by have hy:ρ b=3:=hy;rw[hb,h0] at hy;cases hy)
    f:=hL (by decide) h.f
    d:=hL (by decide) h.d }
def LpJ (ds:DsT) (dl:List Ln3) (fb i:Nat) (least:Int) (w4 wr:World):Prop :=
  ∃no line,LstB ds (dl.take i) least no line∧wr.heap[fb]? = some (.cells #[.int .i64 (no:Nat),.int .i64 (line:Nat)] 44 (0,0))∧Keep (fun b=>b=fb) w4 wr

set_option maxRecDepth 100000 in
set_option maxHeartbeats 4000000 in
theorem yParse (s:ByteArray) (w:World) (hs:s.size≤65536) (hK:KTabX w):Calls Tryz.prog 16 #[.string s] w fun e w'=>ParseX s.data.toList w e w':=by
  obtain⟨l,hl⟩:∃l,s.data.toList=l:=⟨_,rfl⟩
  have hsz:s.size=l.length:=by rw[←hl];exact Lib.size_eq s
  have hlc:=lnC_le l
  have hbig:¬(1048576<l.length∨65536<lnC l):=by omega
  have hll:=linesP_len l
  obtain⟨n,hn⟩:∃n,(linesP l).length=n:=⟨_,rfl⟩
  have hn6:n≤65536:=by omega
  obtain⟨rb,hrb⟩:∃rb,w.heap.size=rb:=⟨_,rfl⟩
  obtain⟨W0,hW0⟩:∃W0,w.alloc (.cells #[.int .i64 0,.int .i64 0] 44)=W0:=⟨_,rfl⟩
  have h0h:W0.heap[rb]? = some (.cells #[.int .i64 0,.int .i64 0] 44 (0,0)):=by rw[←hW0,←hrb];exact heap_alloc_new _ _
  have h0b:Below rb w W0:=by rw[←hW0,←hrb];exact (Below.refl _ w).alloc (Nat.le_refl _) _
  have CL:=Lib.hid (ylines s W0 (by omega))
  rw[hl] at CL ⊢
  have H0:=Lib.hid (And.intro h0h h0b)
  have HL:=Lib.hid (And.intro hn (And.intro hbig hsz))
  have HK:=Lib.hid hK
  have HRBW:=Lib.hid hrb
  have z1:¬(1048576:Int)<s.size:=by omega
  clear hl hsz hlc hbig hll hn hK h0h h0b
  go_enter Tryz.func16,Tryz.ntmps16
  go_wp2_with (first|rw[hrb,hW0]|fail)
  refine CL.out.mono ?_
  rintro e w1 ⟨v,rfl,hT,hb1⟩
  obtain⟨ao,cp,rfl,hor⟩:=hT.tx
  have hlen:(lnsP l).length=n:=by unfold lnsP;rw[List.length_map];exact HL.out.1
  rw[hlen]
  obtain⟨g,hg⟩:∃g,w1.heap.size=g:=⟨_,rfl⟩
  obtain⟨W1,hW1⟩:∃W1,w1.alloc (.cells #[.slice none 0 0,.slice none 0 0,.slice none 0 0,.slice none 0 0] 85)=W1:=⟨_,rfl⟩
  have hpx:=pxw0 hW1.symm
  rw[hg] at hpx
  have hbg:Below g w1 W1:=by rw[←hW1,←hg];exact (Below.refl _ w1).alloc (Nat.le_refl _) _
  have HRB:Hid (w1.heap[rb]? = some (.cells #[.int .i64 0,.int .i64 0] 44 (0,0))∧rb<g∧Below w.heap.size w w1∧w.heap.size≤g):=Lib.hid (by
    have h1:=(Array.getElem?_eq_some_iff.1 H0.out.1).1
    have h2:=hb1.size
    have h3:=H0.out.2.size
    rw[hrb]
    exact⟨(hb1.block rb h1).trans H0.out.1,by omega,H0.out.2.trans (hb1.mono (by omega)),by omega⟩)
  have HLI:Hid (LpI l g 0 w1 W1):=Lib.hid ⟨rd0,⟨[],[],[],[]⟩,_,_,_,_,_,rdI0 l,hpx,xrel0,Nat.le_refl _,Nat.le_refl _,hbg⟩
  have HC:Hid (∀(i:Nat) (x:List UInt8),(linesP l)[i]? = some x→∃gl,ao=some ⟨gl,0,none⟩∧gl<g∧w1.cell? ⟨gl,i,none⟩=some (.string ⟨(lnT x).toArray⟩)):=Lib.hid (fun i x hx=>by
    have hx2:(lnsP l)[i]? = some (lnT x):=by unfold lnsP;rw[List.getElem?_map,hx];rfl
    rcases hor with h|⟨gl,e,h⟩
    · rw[h] at hx2;cases hx2
    · exact⟨gl,e,by rw[←hg];exact lt_of_cell (h i _ hx2),h i _ hx2⟩)
  have HG:=Lib.hid hg
  have z2:¬(65536:Int)<(n:Nat):=by omega
  clear hor hT hb1 hlen hpx hbg
  go_wp2_with (first|rw[hg,hW1]|fail)
  clear z1 z2 hW1 hW0
  go_loopw [6] (fun x wr=>∃i:Nat,x = .int .i64 (i:Nat)∧i≤n∧Hid (LpI l g i w1 wr)) (fun x _=>n-(RowKit.intOf x).toNat)
  case atStart=>exact⟨0,rfl,Nat.zero_le _,HLI⟩
  case round =>
    clear HLI
    obtain⟨i,rfl,hi,HI0⟩:=hrel
    obtain⟨S,X,cv,kv,fv,dv,ρ,hI⟩:=HI0.out
    have HI:Hid (RdI l i S∧PxW g ρ g X cv kv fv dv wr∧XRel X S∧X.fl.length≤i∧X.dl.length≤i∧Below g w1 wr):=Lib.hid hI
    clear hI HI0
    by_cases hlt:i<n
    · have e1:(i:Int)<n:=by omega
      have e0:(0:Int)≤(i:Int):=by omega
      have k1:IntKind.i64.wrap ((i:Int)+1)=(i:Int)+1:=IntWalk.i64_in _ (by omega)
      have hi1:(((i+1:Nat)):Int)=(i:Int)+1:=by omega
      obtain⟨x,hx⟩:∃x,(linesP l)[i]? = some x:=⟨_,List.getElem?_eq_getElem (by rw[HL.out.1];exact hlt)⟩
      obtain⟨gl,hao,hglt,hcx⟩:=HC.out i x hx
      have hxl:=linesP_le l x (List.mem_of_getElem? hx)
      have d0:wr.cell? ⟨gl,i,none⟩=some (.string ⟨(lnT x).toArray⟩):=(HI.out.2.2.2.2.2.cell hglt).trans hcx
      have CW:=Lib.hid (ywords ⟨(lnT x).toArray⟩ wr (by rw[bsize];have h1:=lnT_le x;have h2:=HL.out.2.2;omega))
      have hdt:(⟨(lnT x).toArray⟩:ByteArray).data.toList=lnT x:=by simp
      rw[hdt,words_lnT] at CW
      have HXI:=Lib.hid (And.intro hx hao)
      have hwz:∀u∈wrdP x,u≠[]∧u.length≤1048000:=fun u hu=>⟨(wrdP_ok x u hu).1,by have h1:=(wrdP_ok x u hu).2;have h2:=HL.out.2.2;omega⟩
      subst hao
      obtain⟨sx,hsx⟩:∃sx:ByteArray,(⟨(lnT x).toArray⟩:ByteArray)=sx:=⟨_,rfl⟩
      rw[hsx] at d0 CW
      clear hx hglt hcx hxl hdt hsx hlt
      go_wp2_with fail
      refine CW.out.mono ?_
      rintro e w2 ⟨v2,rfl,hT,hbw2'⟩
      have hT2:=hT.tx
      have hbw2:Below w.heap.size w w2:=(HRB.out.2.2.1.trans (HI.out.2.2.2.2.2.mono HRB.out.2.2.2)).trans (hbw2'.mono (by have h1:=HI.out.2.1.hB;have h2:=HRB.out.2.2.2;omega))
      have HB2:Hid (Below g w1 w2):=Lib.hid (HI.out.2.2.2.2.2.trans (hbw2'.mono HI.out.2.1.hB))
      have hP2:=HI.out.2.1.below hbw2'
      clear hT hbw2' d0
      obtain⟨ws,hws⟩:∃ws,wrdP x=ws:=⟨_,rfl⟩
      rw[hws] at hT2 hwz
      match ws,hws,hT2,hwz with
      | [],hws,hT2,hwz =>
        obtain⟨a2,c2,rfl,_⟩:=hT2
        have hLP:LpI l g (i+1) w1 w2:=by
          have hst:=HI.out.1.step HXI.out.1 (by rw[hws];rfl)
          rw[hws] at hst
          exact⟨_,X,cv,kv,fv,dv,ρ,hst,hP2,HI.out.2.2.1,by have:=HI.out.2.2.2.1;omega,by have:=HI.out.2.2.2.2.1;omega,HB2.out⟩
        have HLP:=Lib.hid hLP
        clear hLP hP2 hwz hbw2 hws
        go_wp2
        go_roundw
        case rel=>exact⟨i+1,by go_num,by omega,HLP⟩
        case measure=>simp[RowKit.intOf];omega
      | y::t,hws,hT2,hwz =>
        have HWS:=Lib.hid hws
        obtain⟨a2,c2,hv2,hor⟩:=id hT2
        obtain⟨gw,ha2,hcw⟩:∃gw,a2=some ⟨gw,0,none⟩∧w2.cell? ⟨gw,0,none⟩=some (.string ⟨y.toArray⟩):=by
          rcases hor with h|⟨gw,e,h⟩
          · cases h
          · exact⟨gw,e,h 0 y rfl⟩
        obtain⟨m,hm⟩:∃m,(y::t).length=m+1:=⟨t.length,rfl⟩
        rw[hm,ha2] at hv2
        have c0:=hcw
        have r1:(((m:Int)+1)==0)=false:=by rw[beq_eq_false_iff_ne];omega
        have g1:(0:Int)<(m:Int)+1:=by omega
        clear hws hor hcw hm ha2
        by_cases hyc:y=wCls∨y=wKnd
        · subst hv2
          have CR:=Lib.hid (yranged w2 hP2 HI.out.2.2.1 y t hyc _ hT2 hwz (HK.out.below hbw2) (by have:=(HI.out.2.2.1.lens HI.out.1.2).1;omega) (i+1) (N:=i+1) (by have:=HI.out.2.2.2.1;have:=HI.out.2.2.2.2.1;omega))

          clear hwz
          rcases hyc with hy1|hy1
          · rw[hy1] at c0
            clear hy1 hT2 hP2
            go_wp2_with fail
            refine CR.out.mono ?_
            rintro e w3 ⟨rfl,hO2⟩
            obtain⟨hb3,ρ3,X3,c3,k3,f3,d3,hP3,hX3,hN3⟩:=hO2
            obtain⟨no,hno⟩:∃no,(takeP (i+1) S (y::t)).1=no:=⟨_,rfl⟩
            rw[hno] at hX3 ⊢
            have HO:=Lib.hid (And.intro hb3 (And.intro hP3 (And.intro hX3 (And.intro hN3 hno))))
            clear hb3 hP3 hX3 hN3 hno
            by_cases h0:no=0
            · subst h0
              have hLP:LpI l g (i+1) w1 w3:=by
                obtain⟨hb3,hP3,hX3,hN3,hno⟩:=HO.out
                have hno':(takeP (i+1) S (wrdP x)).1=0:=by rw[HWS.out];exact hno
                have hst:=HI.out.1.step HXI.out.1 hno'
                rw[HWS.out] at hst
                exact⟨_,X3,c3,k3,f3,d3,ρ3,hst,hP3,hX3 rfl,hN3.1,hN3.2,HB2.out.trans hb3⟩
              have HLP:=Lib.hid hLP
              clear hLP
              go_wp2
              go_roundw
              case rel=>exact⟨i+1,by go_num,by omega,HLP⟩
              case measure=>simp[RowKit.intOf];omega
            · have r0:((no:Int)!=0)=true:=by simp;omega
              have hrb3:w3.heap[rb]? = some (.cells #[.int .i64 0,.int .i64 0] 44 (0,0)):=((HB2.out.trans HO.out.1).block rb HRB.out.2.1).trans HRB.out.1
              obtain⟨q0,q1,q2,q3⟩:=fault_w hrb3 (.int .i64 (no:Nat))
              have hE:=ptwo_cells (x:=.int .i64 (no:Nat)) (y:=.int .i64 ((i:Int)+1)) hrb3
              have HQ:=Lib.hid (And.intro hE h0)
              clear hrb3 hE h0
              go_wp2
              (try simp only[Exit.inBlock,Exit.then])
              refine bodyPost_ret (results_tc rfl _ _ rb 44 #[.int .i64 (no:Nat),.int .i64 ((i:Int)+1)] (0,0) _ rfl HQ.out.1 Tryz.underlying44 rfl (by kernel_rfl)) rfl ?_
              refine⟨no,i+1,S,[],HI.out.1.bad HXI.out.1 (by rw[HWS.out];exact HO.out.2.2.2.2) HQ.out.2 HL.out.2.1,.inr ⟨HQ.out.2,?_,rfl⟩⟩
              refine (HRB.out.2.2.1.trans ((HB2.out.trans HO.out.1).mono HRB.out.2.2.2)).trans ((fault_k _ _ _ _).below ?_ (fun b hb=>?_))
              · have h1:=HRB.out.2.2.1.size
                have h2:=(HB2.out.trans HO.out.1).size
                omega
              · have:=HRB.out.2.2.2
                have:=HRBW.out
                omega
          · rw[hy1] at c0
            clear hy1 hT2 hP2
            go_wp2_with fail
            refine CR.out.mono ?_
            rintro e w3 ⟨rfl,hO2⟩
            obtain⟨hb3,ρ3,X3,c3,k3,f3,d3,hP3,hX3,hN3⟩:=hO2
            obtain⟨no,hno⟩:∃no,(takeP (i+1) S (y::t)).1=no:=⟨_,rfl⟩
            rw[hno] at hX3 ⊢
            have HO:=Lib.hid (And.intro hb3 (And.intro hP3 (And.intro hX3 (And.intro hN3 hno))))
            clear hb3 hP3 hX3 hN3 hno
            by_cases h0:no=0
            · subst h0
              have hLP:LpI l g (i+1) w1 w3:=by
                obtain⟨hb3,hP3,hX3,hN3,hno⟩:=HO.out
                have hno':(takeP (i+1) S (wrdP x)).1=0:=by rw[HWS.out];exact hno
                have hst:=HI.out.1.step HXI.out.1 hno'
                rw[HWS.out] at hst
                exact⟨_,X3,c3,k3,f3,d3,ρ3,hst,hP3,hX3 rfl,hN3.1,hN3.2,HB2.out.trans hb3⟩
              have HLP:=Lib.hid hLP
              clear hLP
              go_wp2
              go_roundw
              case rel=>exact⟨i+1,by go_num,by omega,HLP⟩
              case measure=>simp[RowKit.intOf];omega
            · have r0:((no:Int)!=0)=true:=by simp;omega
              have hrb3:w3.heap[rb]? = some (.cells #[.int .i64 0,.int .i64 0] 44 (0,0)):=((HB2.out.trans HO.out.1).block rb HRB.out.2.1).trans HRB.out.1
              obtain⟨q0,q1,q2,q3⟩:=fault_w hrb3 (.int .i64 (no:Nat))
              have hE:=ptwo_cells (x:=.int .i64 (no:Nat)) (y:=.int .i64 ((i:Int)+1)) hrb3
              have HQ:=Lib.hid (And.intro hE h0)
              clear hrb3 hE h0
              go_wp2
              (try simp only[Exit.inBlock,Exit.then])
              refine bodyPost_ret (results_tc rfl _ _ rb 44 #[.int .i64 (no:Nat),.int .i64 ((i:Int)+1)] (0,0) _ rfl HQ.out.1 Tryz.underlying44 rfl (by kernel_rfl)) rfl ?_
              refine⟨no,i+1,S,[],HI.out.1.bad HXI.out.1 (by rw[HWS.out];exact HO.out.2.2.2.2) HQ.out.2 HL.out.2.1,.inr ⟨HQ.out.2,?_,rfl⟩⟩
              refine (HRB.out.2.2.1.trans ((HB2.out.trans HO.out.1).mono HRB.out.2.2.2)).trans ((fault_k _ _ _ _).below ?_ (fun b hb=>?_))
              · have h1:=HRB.out.2.2.1.size
                have h2:=(HB2.out.trans HO.out.1).size
                omega
              · have:=HRB.out.2.2.2
                have:=HRBW.out
                omega
        · by_cases hyc2:y=wFld∨y=wDcp
          · have hyc:=hyc2
            subst hv2
            have CR:=Lib.hid (ysingle w2 hP2 HI.out.2.2.1 y t hyc _ hT2 hwz (i+1) i (by have:=HI.out.2.2.2.1;have:=HI.out.2.2.2.2.1;omega))
            rw[hi1] at CR
            clear hwz
            rcases hyc with hy1|hy1
            · rw[hy1] at c0
              clear hy1 hT2 hP2
              go_wp2_with fail
              refine CR.out.mono ?_
              rintro e w3 ⟨rfl,hO2⟩
              obtain⟨hb3,ρ3,X3,c3,k3,f3,d3,hP3,hX3,hN3⟩:=hO2
              obtain⟨no,hno⟩:∃no,(takeP (i+1) S (y::t)).1=no:=⟨_,rfl⟩
              rw[hno] at hX3 ⊢
              have HO:=Lib.hid (And.intro hb3 (And.intro hP3 (And.intro hX3 (And.intro hN3 hno))))
              clear hb3 hP3 hX3 hN3 hno
              by_cases h0:no=0
              · subst h0
                have hLP:LpI l g (i+1) w1 w3:=by
                  obtain⟨hb3,hP3,hX3,hN3,hno⟩:=HO.out
                  have hno':(takeP (i+1) S (wrdP x)).1=0:=by rw[HWS.out];exact hno
                  have hst:=HI.out.1.step HXI.out.1 hno'
                  rw[HWS.out] at hst
                  exact⟨_,X3,c3,k3,f3,d3,ρ3,hst,hP3,hX3 rfl,hN3.1,hN3.2,HB2.out.trans hb3⟩
                have HLP:=Lib.hid hLP
                clear hLP
                go_wp2
                go_roundw
                case rel=>exact⟨i+1,by go_num,by omega,HLP⟩
                case measure=>simp[RowKit.intOf];omega
              · have r0:((no:Int)!=0)=true:=by simp;omega
                have hrb3:w3.heap[rb]? = some (.cells #[.int .i64 0,.int .i64 0] 44 (0,0)):=((HB2.out.trans HO.out.1).block rb HRB.out.2.1).trans HRB.out.1
                obtain⟨q0,q1,q2,q3⟩:=fault_w hrb3 (.int .i64 (no:Nat))
                have hE:=ptwo_cells (x:=.int .i64 (no:Nat)) (y:=.int .i64 ((i:Int)+1)) hrb3
                have HQ:=Lib.hid (And.intro hE h0)
                clear hrb3 hE h0
                go_wp2
                (try simp only[Exit.inBlock,Exit.then])
                refine bodyPost_ret (results_tc rfl _ _ rb 44 #[.int .i64 (no:Nat),.int .i64 ((i:Int)+1)] (0,0) _ rfl HQ.out.1 Tryz.underlying44 rfl (by kernel_rfl)) rfl ?_
                refine⟨no,i+1,S,[],HI.out.1.bad HXI.out.1 (by rw[HWS.out];exact HO.out.2.2.2.2) HQ.out.2 HL.out.2.1,.inr ⟨HQ.out.2,?_,rfl⟩⟩
                refine (HRB.out.2.2.1.trans ((HB2.out.trans HO.out.1).mono HRB.out.2.2.2)).trans ((fault_k _ _ _ _).below ?_ (fun b hb=>?_))
                · have h1:=HRB.out.2.2.1.size
                  have h2:=(HB2.out.trans HO.out.1).size
                  omega
                · have:=HRB.out.2.2.2
                  have:=HRBW.out
                  omega
            · rw[hy1] at c0
              clear hy1 hT2 hP2
              go_wp2_with fail
              refine CR.out.mono ?_
              rintro e w3 ⟨rfl,hO2⟩
              obtain⟨hb3,ρ3,X3,c3,k3,f3,d3,hP3,hX3,hN3⟩:=hO2
              obtain⟨no,hno⟩:∃no,(takeP (i+1) S (y::t)).1=no:=⟨_,rfl⟩
              rw[hno] at hX3 ⊢
              have HO:=Lib.hid (And.intro hb3 (And.intro hP3 (And.intro hX3 (And.intro hN3 hno))))
              clear hb3 hP3 hX3 hN3 hno
              by_cases h0:no=0
              · subst h0
                have hLP:LpI l g (i+1) w1 w3:=by
                  obtain⟨hb3,hP3,hX3,hN3,hno⟩:=HO.out
                  have hno':(takeP (i+1) S (wrdP x)).1=0:=by rw[HWS.out];exact hno
                  have hst:=HI.out.1.step HXI.out.1 hno'
                  rw[HWS.out] at hst
                  exact⟨_,X3,c3,k3,f3,d3,ρ3,hst,hP3,hX3 rfl,hN3.1,hN3.2,HB2.out.trans hb3⟩
                have HLP:=Lib.hid hLP
                clear hLP
                go_wp2
                go_roundw
                case rel=>exact⟨i+1,by go_num,by omega,HLP⟩
                case measure=>simp[RowKit.intOf];omega
              · have r0:((no:Int)!=0)=true:=by simp;omega
                have hrb3:w3.heap[rb]? = some (.cells #[.int .i64 0,.int .i64 0] 44 (0,0)):=((HB2.out.trans HO.out.1).block rb HRB.out.2.1).trans HRB.out.1
                obtain⟨q0,q1,q2,q3⟩:=fault_w hrb3 (.int .i64 (no:Nat))
                have hE:=ptwo_cells (x:=.int .i64 (no:Nat)) (y:=.int .i64 ((i:Int)+1)) hrb3
                have HQ:=Lib.hid (And.intro hE h0)
                clear hrb3 hE h0
                go_wp2
                (try simp only[Exit.inBlock,Exit.then])
                refine bodyPost_ret (results_tc rfl _ _ rb 44 #[.int .i64 (no:Nat),.int .i64 ((i:Int)+1)] (0,0) _ rfl HQ.out.1 Tryz.underlying44 rfl (by kernel_rfl)) rfl ?_
                refine⟨no,i+1,S,[],HI.out.1.bad HXI.out.1 (by rw[HWS.out];exact HO.out.2.2.2.2) HQ.out.2 HL.out.2.1,.inr ⟨HQ.out.2,?_,rfl⟩⟩
                refine (HRB.out.2.2.1.trans ((HB2.out.trans HO.out.1).mono HRB.out.2.2.2)).trans ((fault_k _ _ _ _).below ?_ (fun b hb=>?_))
                · have h1:=HRB.out.2.2.1.size
                  have h2:=(HB2.out.trans HO.out.1).size
                  omega
                · have:=HRB.out.2.2.2
                  have:=HRBW.out
                  omega
          · have hno:(takeP (i+1) S (wrdP x)).1=12:=by
              rw[HWS.out,takeP,if_pos ⟨fun h=>hyc (.inl h),fun h=>hyc (.inr h),fun h=>hyc2 (.inl h),fun h=>hyc2 (.inr h)⟩]
            have hpr:=HI.out.1.bad HXI.out.1 hno (by decide) HL.out.2.1
            have hrb3:w2.heap[rb]? = some (.cells #[.int .i64 0,.int .i64 0] 44 (0,0)):=(HB2.out.block rb HRB.out.2.1).trans HRB.out.1
            obtain⟨q0,q1,q2,q3⟩:=fault_w hrb3 (.int .i64 12)
            have hE:=ptwo_cells (x:=.int .i64 12) (y:=.int .i64 ((i:Int)+1)) hrb3
            have HQ:=Lib.hid (And.intro hE hpr)
            obtain⟨sy,hsy⟩:∃sy:ByteArray,(⟨y.toArray⟩:ByteArray)=sy:=⟨_,rfl⟩
            have hsl:sy.toList=y:=by rw[ByteArray.toList_eq,←hsy]
            rw[hsy] at c0
            have b1:(sy.toList==[99,108,97,115,115])=false:=by rw[hsl];exact beq_eq_false_iff_ne.2 (fun h=>hyc (.inl h))
            have b2:(sy.toList==[107,105,110,100])=false:=by rw[hsl];exact beq_eq_false_iff_ne.2 (fun h=>hyc (.inr h))
            have b3:(sy.toList==[102,111,108,100])=false:=by rw[hsl];exact beq_eq_false_iff_ne.2 (fun h=>hyc2 (.inl h))
            have b4:(sy.toList==[100,101,99,111,109,112])=false:=by rw[hsl];exact beq_eq_false_iff_ne.2 (fun h=>hyc2 (.inr h))
            subst hv2
            clear hno hpr hrb3 hE hyc hyc2 hsl hsy hT2 hP2 hwz
            go_wp2
            (try simp only[Exit.inBlock,Exit.then])
            refine bodyPost_ret (results_tc rfl _ _ rb 44 #[.int .i64 12,.int .i64 ((i:Int)+1)] (0,0) _ rfl HQ.out.1 Tryz.underlying44 rfl (by kernel_rfl)) rfl ?_
            refine⟨12,i+1,S,[],HQ.out.2,.inr ⟨by decide,?_,rfl⟩⟩
            refine (HRB.out.2.2.1.trans (HB2.out.mono HRB.out.2.2.2)).trans ((fault_k _ _ _ _).below ?_ (fun b hb=>?_))
            · have h1:=HRB.out.2.2.1.size
              have h2:=HB2.out.size
              omega
            · have:=HRB.out.2.2.2
              have:=HRBW.out
              omega
    · obtain rfl:i=n:=by omega
      have hdone:(readP 0 rd0 (linesP l)).1=0∧S=(readP 0 rd0 (linesP l)).2.2:=by
        have h1:=HI.out.1
        rw[←HL.out.1] at h1
        exact h1.done
      have hlens:=HI.out.2.2.1.lens HI.out.1.2
      obtain⟨fb,hfb⟩:∃fb,wr.heap.size=fb:=⟨_,rfl⟩
      obtain⟨W3,hW3⟩:∃W3,wr.alloc (.cells #[.int .i64 0,.int .i64 0] 44)=W3:=⟨_,rfl⟩
      have hW3h:W3.heap[fb]? = some (.cells #[.int .i64 0,.int .i64 0] 44 (0,0)):=by rw[←hW3,←hfb];exact heap_alloc_new _ _
      have hb3:Below wr.heap.size wr W3:=by rw[←hW3];exact (Below.refl _ wr).alloc (Nat.le_refl _) _
      have hP3:=(HI.out.2.1.role_more 9).below hb3
      have hrb9:moreR wr ρ 9 fb=9:=moreR_new fb (by omega)
      have CE:=Lib.hid (yend HI.out.2.2.1 HI.out.1.2 W3 hP3.rp hP3.d.lf (by have:=HI.out.2.2.2.2.1;omega) (fun x hx=>(hlens.2 x hx).1))
      have H3:=Lib.hid (And.intro hW3h (And.intro hb3 (And.intro hP3 (And.intro hrb9 (And.intro hdone (And.intro hlens hfb))))))
      have e1:¬(i:Int)<(i:Nat):=by omega
      clear hdone hlens hW3h hb3 hP3 hrb9 hlt
      go_wp2_with (first|rw[hfb,hW3]|fail)
      clear hfb hW3
      refine CE.out.mono ?_
      rintro e w4 hEO
      obtain⟨v,kn,rfl,hbo,hkl,hsk,hcl,hb4⟩:=hEO
      obtain⟨gk,rfl,hck⟩:=hbo
      obtain⟨m,hm⟩:∃m,X.dl.length=m:=⟨_,rfl⟩
      have hkm:kn.length=m:=by rw[hkl,hm]
      rw[hkm]
      have hP4:=H3.out.2.2.1.below hb4
      have hfb4:w4.heap[fb]? = some (.cells #[.int .i64 0,.int .i64 0] 44 (0,0)):=(hb4.block fb (Array.getElem?_eq_some_iff.1 H3.out.1).1).trans H3.out.1
      have hgk:∀j,j<m→gk≠fb:=fun j hj e=>by
        obtain⟨b,hb⟩:∃b,kn[j]? = some b:=⟨_,List.getElem?_eq_getElem (by rw[hkm];exact hj)⟩
        have h1:=hck j b hb
        rw[e,Lib.cell_of_heap hfb4] at h1
        rcases j with _|_|j
        · simp at h1
        · simp at h1
        · simp at h1
      obtain⟨dd,dc,hdv⟩:∃ao cap,dv = .slice ao m cap:=by
        obtain⟨_,_,h8,_⟩:=hP4.d
        rw[hm] at h8
        exact own_slc h8
      have H4:Hid ((∀(i:Nat) (b:Bool),kn[i]? = some b→w4.cell? ⟨gk,i,none⟩=some (.bool b))∧SoundK S.ds X.dl kn∧(∀(i:Nat) (y:Ln3),X.dl[i]? = some y→(∀z∈y.2.1,OkZ X.dl kn z)→kn[i]? = some true)∧PxW g (moreR wr ρ 9) g X cv kv fv dv w4∧(∀j,j<m→gk≠fb)∧X.dl.length=m∧Below wr.heap.size wr w4∧dv = .slice dd m dc) :=
        Lib.hid ⟨hck,hsk,hcl,hP4,hgk,hm,H3.out.2.1.trans (hb4.mono H3.out.2.1.size),hdv⟩
      have HLJ:Hid (LpJ S.ds X.dl fb 0 (-1) w4 w4):=Lib.hid ⟨0,0,by rw[List.take_zero];exact lstB_nil _,hfb4,Keep.refl _ _⟩
      clear hck hsk hcl hP4 hgk hm hkl hkm hfb4 hb4 hdv
      obtain⟨wA,hwA⟩:∃wA,wA=wr:=⟨_,rfl⟩
      subst hwA
      have m6:m≤65536:=by have h1:=HI.out.2.2.2.2.1;have h2:=H4.out.2.2.2.2.2.1;omega
      go_wp2_with fail
      go_loopw [9,12] (fun a b wj=>∃(j:Nat) (least:Int),a = .int .i64 least∧b = .int .i64 (j:Nat)∧j≤m∧Hid (LpJ S.ds X.dl fb j least w4 wj)) (fun _ b _=>m-(RowKit.intOf b).toNat)
      case atStart=>exact⟨0,-1,rfl,rfl,Nat.zero_le _,HLJ⟩
      case round =>
        clear HLJ
        obtain⟨j,least,rfl,rfl,hj,HJ⟩:=hrel
        obtain⟨no,line,hlst,hfh,hkp⟩:=HJ.out
        have hP5:=H4.out.2.2.2.1.keep9 hkp (fun b hb=>by rw[hb];exact H3.out.2.2.2.1)
        have f0:wr.cell? ⟨g,3,none⟩=some (.slice dd m dc):=by rw[Lib.cell_of_heap hP5.cell,←H4.out.2.2.2.2.2.2.2];rfl
        by_cases hlt:j<m
        · have e1:(j:Int)<m:=by omega
          have e0:(0:Int)≤(j:Int):=by omega
          have k1:IntKind.i64.wrap ((j:Int)+1)=((j+1:Nat):Int):=by rw[IntWalk.i64_in _ (by omega)];omega
          obtain⟨y,hy⟩:∃y,X.dl[j]? = some y:=⟨_,List.getElem?_eq_getElem (by rw[H4.out.2.2.2.2.2.1];exact hlt)⟩
          have hLf:=hP5.d.lf
          rw[H4.out.2.2.2.2.2.2.2] at hLf
          obtain⟨gd,sv,hdd,d0,d1,hs,d2⟩:=hLf.at3 hy
          obtain⟨so,sc,rfl,_⟩:=id hs
          obtain⟨N,hN⟩:∃N,(toZ y.2.1).length=N:=⟨_,rfl⟩
          rw[hN] at d1
          have hye:=(H3.out.2.2.2.2.2.1.2 y (List.mem_of_getElem? hy)).2.2
          have hyw:IntKind.i32.wrap (y.1:Int)=(y.1:Int):=IntWalk.i32_in _ (by omega)
          obtain⟨fbk,hfbk⟩:∃xb,wr.heap.size=xb:=⟨_,rfl⟩
          obtain⟨W5,hW5⟩:∃W5,wr.alloc (.cells #[.int .i64 (y.1:Nat),.slice so N sc,.int .i64 (y.2.2:Nat)] 91)=W5:=⟨_,rfl⟩
          have hW5h:W5.heap[fbk]? = some (.cells #[.int .i64 (y.1:Nat),.slice so N sc,.int .i64 (y.2.2:Nat)] 91 (0,0)):=by rw[←hW5,←hfbk];exact heap_alloc_new _ _
          have hb5:Below wr.heap.size wr W5:=by rw[←hW5];exact (Below.refl _ wr).alloc (Nat.le_refl _) _
          have hkn:=HI.out.2.2.1.known HI.out.1.2 H4.out.2.1 H4.out.2.2.1 hy
          have htk:X.dl.take (j+1)=X.dl.take j++[y]:=by rw[List.take_add_one,hy];rfl
          have hfbl:fb<fbk:=by rw[←hfbk];exact (Array.getElem?_eq_some_iff.1 hfh).1
          have hP6:=hP5.below hb5
          have H5:Hid (LstB S.ds (X.dl.take j) least no line∧X.dl.take (j+1)=X.dl.take j++[y]∧W5.heap[fb]? = some (.cells #[.int .i64 (no:Nat),.int .i64 (line:Nat)] 44 (0,0))∧Keep (fun b=>b=fb) w4 W5∧gk≠fb∧fb<fbk∧W5.heap[fbk]? = some (.cells #[.int .i64 (y.1:Nat),.slice so N sc,.int .i64 (y.2.2:Nat)] 91 (0,0))) :=
            Lib.hid ⟨hlst,htk,(hb5.block fb (by rw[hfbk];exact hfbl)).trans hfh,hkp.trans ((Keep.of_all (X:=fun _=>False) hb5).weaken (fun _ _ h=>h.elim)),H4.out.2.2.2.2.1 j hlt,hfbl,hW5h⟩
          have hall:∀V,Below W5.heap.size W5 V→(V.heap[fb]? = some (.cells #[.int .i64 (no:Nat),.int .i64 (line:Nat)] 44 (0,0))∧V.heap[fbk]? = some (.cells #[.int .i64 (y.1:Nat),.slice so N sc,.int .i64 (y.2.2:Nat)] 91 (0,0))∧Keep (fun b=>b=fb) w4 V):=fun V hV =>
            ⟨(hV.block fb (Array.getElem?_eq_some_iff.1 H5.out.2.2.1).1).trans H5.out.2.2.1,(hV.block fbk (Array.getElem?_eq_some_iff.1 hW5h).1).trans hW5h,H5.out.2.2.2.1.trans ((Keep.of_all (X:=fun _=>False) hV).weaken (fun _ _ h=>h.elim))⟩
          have HALL:=Lib.hid hall
          obtain⟨yo,hyo⟩:∃yo:Int,(y.1:Int)=yo:=⟨_,rfl⟩
          obtain⟨yl,hyl⟩:∃yl:Int,(y.2.2:Int)=yl:=⟨_,rfl⟩
          have HYO:=Lib.hid (And.intro hyo hyl)
          have hsame:∀V,Below W5.heap.size W5 V→LstB S.ds (X.dl.take (j+1)) least no line→LpJ S.ds X.dl fb (j+1) least w4 V:=fun V hV h=>⟨no,line,h,(HALL.out V hV).1,(HALL.out V hV).2.2⟩
          have HSAME:=Lib.hid hsame
          subst hdd
          rcases hkn with ⟨hk1,nn,hEA⟩|⟨hk1,hNE⟩
          · have hkc:=H4.out.1 j true hk1
            obtain⟨ff,hff⟩:=id hEA
            have CF:=Lib.hid (yfull X.dl (by rw[H4.out.2.2.2.2.2.1];omega) (fun x hx=>(H3.out.2.2.2.2.2.1.2 x hx).1) (fun x hx=>(H3.out.2.2.2.2.2.1.2 x hx).2.1) (ff+1) y.1 nn W5 hP6.rp hP6.d.lf (by omega) (HI.out.2.2.1.full HI.out.1.2 ff y.1 nn hff))
            have c5:W5.cell? ⟨gk,j,none⟩=some (.bool true):=H5.out.2.2.2.1.cell hkc (fun e=>H5.out.2.2.2.2.1 e)
            have y0:W5.cell? ⟨fbk,0,none⟩=some (.int .i64 yo):=by rw[Lib.cell_of_heap hW5h,←hyo];rfl
            rw[hyo] at CF hyw hW5 d0
            rw[hyl] at hW5 d2
            obtain⟨M,hM⟩:∃M,min nn 9=M:=⟨_,rfl⟩
            rw[hM] at CF
            have HEA:=Lib.hid (And.intro hEA hM)
            clear hlst hfh hkp hP5 hP6 hLf hy hs hN hye hW5h hb5 htk hfbl hall hsame hEA hff hk1 hkc hyo hyl hM hlt
            go_wp2_with (first|rw[hfbk,hW5]|fail)
            refine CF.out.mono ?_
            rintro e w6 ⟨rfl,hb6⟩
            obtain⟨p1,p2,p3⟩:=HALL.out w6 hb6
            have HB6:=Lib.hid hb6
            have y6:w6.cell? ⟨fbk,0,none⟩=some (.int .i64 yo):=(hb6.cell (lt_of_cell y0)).trans y0
            by_cases h8:nn≤8
            · have g8:(M:Int)≤8:=by have:=HEA.out.2;omega
              have HF:Hid (LpJ S.ds X.dl fb (j+1) least w4 w6):=Lib.hid (HSAME.out w6 HB6.out (by rw[H5.out.2.1];exact H5.out.1.fine ⟨nn,HEA.out.1,h8⟩))
              clear h8 p1 p2 p3 hb6 c5 y0
              go_wp2
              go_roundw
              case rel=>exact⟨j+1,least,rfl,by go_num,by omega,HF⟩
              case measure=>simp[RowKit.intOf];omega
            · have g8:¬(M:Int)≤8:=by have:=HEA.out.2;omega
              have HBN:Hid (BadN S.ds y.1 5):=Lib.hid (.inr ⟨⟨nn,HEA.out.1,by omega⟩,rfl⟩)
              clear h8
              by_cases g1:0≤least
              · by_cases g2:least<yo
                · have HF:Hid (LpJ S.ds X.dl fb (j+1) least w4 w6):=Lib.hid (HSAME.out w6 HB6.out (by rw[H5.out.2.1];exact H5.out.1.far g1 (by rw[HYO.out.1];exact g2)))
                  clear p1 p2 p3 hb6 y0
                  go_wp2
                  go_roundw
                  case rel=>exact⟨j+1,least,rfl,by go_num,by omega,HF⟩
                  case measure=>simp[RowKit.intOf];omega
                · have y9:w6.cell? ⟨fbk,2,none⟩=some (.int .i64 yl):=by rw[Lib.cell_of_heap p2,←HYO.out.2];rfl
                  obtain⟨q0,q1,q2,q3⟩:=fault_w p1 (.int .i64 14)
                  have hE:=ptwo_cells (x:=.int .i64 14) (y:=.int .i64 yl) p1
                  have hk1:=fault_k w6 fb (.int .i64 14) (.int .i64 yl)
                  have c9:((w6.setCell ⟨fb,0,none⟩ (.int .i64 14)).setCell ⟨fb,1,none⟩ (.int .i64 yl)).cell? ⟨gk,j,none⟩=some (.bool true):=hk1.cell (by have h1:=c5;exact (HB6.out.cell (lt_of_cell h1)).trans h1) (fun e=>H5.out.2.2.2.2.1 e)
                  obtain⟨r0,r1,_,_⟩:=fault_w hE (.int .i64 5)
                  have hE2:=heap_setCell_same _ fb 0 _ _ (.int .i64 5) hE
                  have HF:Hid (LpJ S.ds X.dl fb (j+1) yo w4 (((w6.setCell ⟨fb,0,none⟩ (.int .i64 14)).setCell ⟨fb,1,none⟩ (.int .i64 yl)).setCell ⟨fb,0,none⟩ (.int .i64 5))):=Lib.hid (by
                    have h1:=H5.out.1.new (by rw[HYO.out.1];omega) HBN.out
                    rw[HYO.out.1] at h1
                    refine⟨5,y.2.2,by rw[H5.out.2.1];exact h1,?_,?_⟩
                    · rw[HYO.out.2]
                      simpa using hE2
                    · exact p3.trans (hk1.trans (Keep.setCell (X:=fun b=>b=fb) (Keep.refl _ _) (p:=⟨fb,0,none⟩) rfl _)))
                  clear p1 p2 p3 hb6 y0 hE hE2 hk1 c5
                  go_wp2
                  go_roundw
                  case rel=>exact⟨j+1,yo,rfl,by go_num,by omega,HF⟩
                  case measure=>simp[RowKit.intOf];omega
              · have y9:w6.cell? ⟨fbk,2,none⟩=some (.int .i64 yl):=by rw[Lib.cell_of_heap p2,←HYO.out.2];rfl
                obtain⟨q0,q1,q2,q3⟩:=fault_w p1 (.int .i64 14)
                have hE:=ptwo_cells (x:=.int .i64 14) (y:=.int .i64 yl) p1
                have hk1:=fault_k w6 fb (.int .i64 14) (.int .i64 yl)
                have c9:((w6.setCell ⟨fb,0,none⟩ (.int .i64 14)).setCell ⟨fb,1,none⟩ (.int .i64 yl)).cell? ⟨gk,j,none⟩=some (.bool true):=hk1.cell (by have h1:=c5;exact (HB6.out.cell (lt_of_cell h1)).trans h1) (fun e=>H5.out.2.2.2.2.1 e)
                obtain⟨r0,r1,_,_⟩:=fault_w hE (.int .i64 5)
                have hE2:=heap_setCell_same _ fb 0 _ _ (.int .i64 5) hE
                have HF:Hid (LpJ S.ds X.dl fb (j+1) yo w4 (((w6.setCell ⟨fb,0,none⟩ (.int .i64 14)).setCell ⟨fb,1,none⟩ (.int .i64 yl)).setCell ⟨fb,0,none⟩ (.int .i64 5))):=Lib.hid (by
                  have h1:=H5.out.1.new (by rw[HYO.out.1];omega) HBN.out
                  rw[HYO.out.1] at h1
                  refine⟨5,y.2.2,by rw[H5.out.2.1];exact h1,?_,?_⟩
                  · rw[HYO.out.2]
                    simpa using hE2
                  · exact p3.trans (hk1.trans (Keep.setCell (X:=fun b=>b=fb) (Keep.refl _ _) (p:=⟨fb,0,none⟩) rfl _)))
                clear p1 p2 p3 hb6 y0 hE hE2 hk1 c5
                go_wp2
                go_roundw
                case rel=>exact⟨j+1,yo,rfl,by go_num,by omega,HF⟩
                case measure=>simp[RowKit.intOf];omega
          · have hkc:=H4.out.1 j false hk1
            have c5:W5.cell? ⟨gk,j,none⟩=some (.bool false):=H5.out.2.2.2.1.cell hkc (fun e=>H5.out.2.2.2.2.1 e)
            have HBN:Hid (BadN S.ds y.1 14):=Lib.hid (.inl ⟨hNE,rfl⟩)
            have y0:W5.cell? ⟨fbk,0,none⟩=some (.int .i64 yo):=by rw[Lib.cell_of_heap hW5h,←hyo];rfl
            rw[hyo] at hyw hW5 d0
            rw[hyl] at hW5 d2
            have hb6:=Below.refl W5.heap.size W5
            obtain⟨p1,p2,p3⟩:=HALL.out W5 hb6
            have HB6:=Lib.hid hb6
            have y6:=y0
            clear hlst hfh hkp hP5 hP6 hLf hy hs hN hye hW5h hb5 htk hfbl hall hsame hNE hk1 hkc hyo hyl hlt
            by_cases g1:0≤least
            · by_cases g2:least<yo
              · have HF:Hid (LpJ S.ds X.dl fb (j+1) least w4 W5):=Lib.hid (HSAME.out W5 HB6.out (by rw[H5.out.2.1];exact H5.out.1.far g1 (by rw[HYO.out.1];exact g2)))
                clear p1 p2 p3 hb6 y0
                go_wp2_with (first|rw[hfbk,hW5]|fail)
                go_roundw
                case rel=>exact⟨j+1,least,rfl,by go_num,by omega,HF⟩
                case measure=>simp[RowKit.intOf];omega
              · have y9:W5.cell? ⟨fbk,2,none⟩=some (.int .i64 yl):=by rw[Lib.cell_of_heap p2,←HYO.out.2];rfl
                obtain⟨q0,q1,q2,q3⟩:=fault_w p1 (.int .i64 14)
                have hE:=ptwo_cells (x:=.int .i64 14) (y:=.int .i64 yl) p1
                have hk1:=fault_k W5 fb (.int .i64 14) (.int .i64 yl)
                have c9:((W5.setCell ⟨fb,0,none⟩ (.int .i64 14)).setCell ⟨fb,1,none⟩ (.int .i64 yl)).cell? ⟨gk,j,none⟩=some (.bool false):=hk1.cell (by have h1:=c5;exact (HB6.out.cell (lt_of_cell h1)).trans h1) (fun e=>H5.out.2.2.2.2.1 e)
                obtain⟨r0,r1,_,_⟩:=fault_w hE (.int .i64 5)
                have hE2:=heap_setCell_same _ fb 0 _ _ (.int .i64 5) hE
                have HF:Hid (LpJ S.ds X.dl fb (j+1) yo w4 ((W5.setCell ⟨fb,0,none⟩ (.int .i64 14)).setCell ⟨fb,1,none⟩ (.int .i64 yl))):=Lib.hid (by
                  have h1:=H5.out.1.new (by rw[HYO.out.1];omega) HBN.out
                  rw[HYO.out.1] at h1
                  refine⟨14,y.2.2,by rw[H5.out.2.1];exact h1,?_,?_⟩
                  · rw[HYO.out.2]
                    simpa using hE
                  · exact p3.trans hk1)
                clear p1 p2 p3 hb6 y0 hE hE2 hk1
                go_wp2_with (first|rw[hfbk,hW5]|fail)
                go_roundw
                case rel=>exact⟨j+1,yo,rfl,by go_num,by omega,HF⟩
                case measure=>simp[RowKit.intOf];omega
            · have y9:W5.cell? ⟨fbk,2,none⟩=some (.int .i64 yl):=by rw[Lib.cell_of_heap p2,←HYO.out.2];rfl
              obtain⟨q0,q1,q2,q3⟩:=fault_w p1 (.int .i64 14)
              have hE:=ptwo_cells (x:=.int .i64 14) (y:=.int .i64 yl) p1
              have hk1:=fault_k W5 fb (.int .i64 14) (.int .i64 yl)
              have c9:((W5.setCell ⟨fb,0,none⟩ (.int .i64 14)).setCell ⟨fb,1,none⟩ (.int .i64 yl)).cell? ⟨gk,j,none⟩=some (.bool false):=hk1.cell (by have h1:=c5;exact (HB6.out.cell (lt_of_cell h1)).trans h1) (fun e=>H5.out.2.2.2.2.1 e)
              obtain⟨r0,r1,_,_⟩:=fault_w hE (.int .i64 5)
              have hE2:=heap_setCell_same _ fb 0 _ _ (.int .i64 5) hE
              have HF:Hid (LpJ S.ds X.dl fb (j+1) yo w4 ((W5.setCell ⟨fb,0,none⟩ (.int .i64 14)).setCell ⟨fb,1,none⟩ (.int .i64 yl))):=Lib.hid (by
                have h1:=H5.out.1.new (by rw[HYO.out.1];omega) HBN.out
                rw[HYO.out.1] at h1
                refine⟨14,y.2.2,by rw[H5.out.2.1];exact h1,?_,?_⟩
                · rw[HYO.out.2]
                  simpa using hE
                · exact p3.trans hk1)
              clear p1 p2 p3 hb6 y0 hE hE2 hk1
              go_wp2_with (first|rw[hfbk,hW5]|fail)
              go_roundw
              case rel=>exact⟨j+1,yo,rfl,by go_num,by omega,HF⟩
              case measure=>simp[RowKit.intOf];omega
        · obtain rfl:j=m:=by omega
          have e1:¬(j:Int)<(j:Nat):=by omega
          have hl2:LstB S.ds X.dl least no line:=by
            have h1:=hlst
            rw[List.take_of_length_le (by rw[H4.out.2.2.2.2.2.1];omega)] at h1
            exact h1
          obtain⟨hr1,hr2,hr3⟩:=lst_ring HI.out.2.2.1 (allD_rise S) (allD_mem HI.out.1.2) hl2
          have hpr:ParseR l no line S (allD S):=.inr (.inr ⟨HL.out.2.1,H3.out.2.2.2.2.1.1,H3.out.2.2.2.2.1.2,allD_rise S,allD_mem HI.out.1.2,by rw[hr1],by rw[hr1]⟩)
          have hkr:Below g w1 w4:=HI.out.2.2.2.2.2.trans (H4.out.2.2.2.2.2.2.1.mono HI.out.2.1.hB)
          have hgfb:g≤fb:=by have h1:=HI.out.2.1.gl;have h2:=H3.out.2.2.2.2.2.2;omega
          have hrb4:wr.heap[rb]? = some (.cells #[.int .i64 0,.int .i64 0] 44 (0,0)):=hkp.heap ((hkr.block rb HRB.out.2.1).trans HRB.out.1) (fun e=>by have:=HRB.out.2.1;omega)
          have hbw:Below w.heap.size w wr:=(HRB.out.2.2.1.trans (hkr.mono HRB.out.2.2.2)).trans (hkp.below (by have h1:=HRB.out.2.2.1.size;have h2:=hkr.size;omega) (fun b hb=>by have:=HRB.out.2.2.2;omega))
          have hrbf:rb≠fb:=by have:=HRB.out.2.1;omega
          by_cases hneg:0≤least
          · have hno:no≠0:=fun e=>by have:=hr2.2 e;omega
            obtain⟨q0,q1,q2,q3⟩:=fault_w hrb4 (.int .i64 (no:Nat))
            have hE:=ptwo_cells (x:=.int .i64 (no:Nat)) (y:=.int .i64 (line:Nat)) hrb4
            have l0:wr.cell? ⟨fb,0,none⟩=some (.int .i64 (no:Nat)):=by rw[Lib.cell_of_heap hfh];rfl
            have l1:wr.cell? ⟨fb,1,none⟩=some (.int .i64 (line:Nat)):=by rw[Lib.cell_of_heap hfh];rfl
            have HQ:=Lib.hid (And.intro hpr (And.intro hno (And.intro hbw (And.intro hrb4 hE))))
            clear hlst hfh hkp hP5 hlt hl2 hr1 hr2 hr3 hpr hkr hbw hno hE hgfb hrb4
            go_wp2
            go_region
            all_goals
              go_wp2
              (try simp only[Exit.inBlock,Exit.then])
              refine bodyPost_ret (results_tc rfl _ _ rb 44 #[.int .i64 (no:Nat),.int .i64 (line:Nat)] (0,0) _ rfl HQ.out.2.2.2.2 Tryz.underlying44 rfl (by kernel_rfl)) rfl ?_
              exact⟨no,line,S,allD S,HQ.out.1,.inr ⟨HQ.out.2.1,(HQ.out.2.2.1.trans ((fault_k wr rb (.int .i64 (no:Nat)) (.int .i64 (line:Nat))).below HQ.out.2.2.1.size (fun b hb=>by have:=HRBW.out;omega))).drew,rfl⟩⟩
          · have hno:no=0:=hr2.1 (by omega)
            obtain⟨q0,q1,q2,q3⟩:=fault_w hrb4 (.int .i64 0)
            have hE:=ptwo_cells (x:=.int .i64 0) (y:=.int .i64 0) hrb4
            have hP6:=hP5.keepF hrb4 HRB.out.2.1 (fault_k wr rb (.int .i64 0) (.int .i64 0))
            have HQ:=Lib.hid (And.intro hpr (And.intro hno (And.intro hbw (And.intro hE (And.intro hP6 hkr)))))
            have HX9:=Lib.hid (And.intro HI.out.2.2.1 (And.intro HI.out.2.2.2.1 HI.out.2.2.2.2.1))
            clear hlst hfh hkp hP5 hlt hl2 hr1 hr2 hr3 hpr hkr hbw hno hE hP6 hgfb hrbf hrb4
            go_wp2
            (try simp only[Exit.inBlock,Exit.then])
            refine bodyPost_ret (results_tc rfl _ _ rb 44 #[.int .i64 0,.int .i64 0] (0,0) _ rfl HQ.out.2.2.2.1 Tryz.underlying44 rfl (by kernel_rfl)) rfl ?_
            have hk9:=fault_k wr rb (.int .i64 0) (.int .i64 0)
            refine⟨no,line,S,allD S,HQ.out.1,.inl ⟨HQ.out.2.1,g,X,cv,kv,fv,dv,g,_,rfl,HQ.out.2.2.2.2.1,HX9.out.1,⟨by have:=HX9.out.2.1;omega,by have:=HX9.out.2.2;omega⟩,HQ.out.2.2.1.trans (hk9.below HQ.out.2.2.1.size (fun b hb=>by have:=HRBW.out;omega))⟩⟩
end Go.Proofs.YtgpbaeehajkebaaGreatDoor
