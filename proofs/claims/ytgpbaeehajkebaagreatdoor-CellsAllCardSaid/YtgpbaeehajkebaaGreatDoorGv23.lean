/- Parts of the proof of what the last text says. -/
import Derived.Test.YtgpbaeehajkebaaGreatDoorGv18
import Derived.RangeFuncCalls
import Derived.Stop.RegionWithIn
import Derived.Test.YtgpbaeehajkebaaGreatDoorGv9
import Derived.Test.YtgpbaeehajkebaaGreatDoorGv17
import Derived.Test.YtgpbaeehajkebaaGreatDoorGv11
import Derived.Test.YtgpbaeehajkebaaGreatDoorGv6
import Derived.Test.YtgpbaeehajkebaaGreatDoorGv13
import Derived.Test.YtgpbaeehajkebaaGreatDoorGv16
namespace Go.Proofs.YtgpbaeehajkebaaGreatDoor
open Go Go.RowKit Go.Kt Go.Kt.Rg Go.Maps
attribute [local go_sem] Oper.semAt_some
theorem rise_eq:∀ {A B:List Nat},A.Pairwise (· < ·)→B.Pairwise (· < ·)→(∀x,x∈A↔x∈B)→A=B
 | [],[],_,_,_=>rfl
 | [],y::t,_,_,h=>by have:=(h y).2 List.mem_cons_self;cases this
 | x::s,[],_,_,h=>by have:=(h x).1 List.mem_cons_self;cases this
 | x::s,y::t,ha,hb,h=>by
   have h1:=List.pairwise_cons.1 ha
   have h2:=List.pairwise_cons.1 hb
   have hxy:x=y:=by
    rcases List.mem_cons.1 ((h x).1 List.mem_cons_self) with e|e
    ·exact e
    ·rcases List.mem_cons.1 ((h y).2 List.mem_cons_self) with e2|e2
     ·exact e2.symm
     ·have:=h2.1 x e
      have:=h1.1 y e2
      omega
   subst hxy
   rw[rise_eq h1.2 h2.2 (fun z=>⟨fun hz=>by
    rcases List.mem_cons.1 ((h z).1 (List.mem_cons_of_mem _ hz)) with e|e
    ·have:=h1.1 z hz;omega
    ·exact e,fun hz=>by
    rcases List.mem_cons.1 ((h z).2 (List.mem_cons_of_mem _ hz)) with e|e
    ·have:=h2.1 z hz;omega
    ·exact e⟩)]
theorem isAggP (w:World):(isAgg 22).run Tryz.prog w = .ok false w:=by kernel_rfl
theorem isAggE (w:World):(isAgg 40).run Tryz.prog w = .ok false w:=by kernel_rfl
theorem ends_at {l:List UInt8} {w W:World} {r2 r3:Nat} {v2 v3:Value} {tmps:Array Value} {Ds:List Nat} (hDs:Ds.Nodup) (h2:tmps.getD 2 undef = .pointer (some ⟨r2,0,none⟩)) (h3:tmps.getD 3 undef = .pointer (some ⟨r3,0,none⟩))
 (g2:W.heap[r2]? = some (.cells #[v2] 22 (0,0))) (g3:W.heap[r3]? = some (.cells #[v3] 40 (0,0))) (hD:∀D,D∈Ds→W.heap[D]? = some (.deferred (some [])))
 (hO:∀W',Keep (fun b=>b∈Ds) W W'→ParseO l w (.returned (.tuple #[v2,v3])) W') :
 LeavesInM Fence.wide 0 Tryz.prog Tryz.f15 tmps (ParseO l w) (Ds.map fun D=>{ target:=.collected D,args:=#[] }) .returning W:=by
 refine leaves_marks hDs hD (fun W' hk=>⟨_,results_cc rfl tmps W' r2 r3 v2 v3 h2 ?_ isAggP h3 ?_ isAggE,hO W' hk⟩)
 ·exact cell_one (hk.heap g2 (fun hx=>by have:=hD r2 hx;rw[g2] at this;cases this))
 ·exact cell_one (hk.heap g3 (fun hx=>by have:=hD r3 hx;rw[g3] at this;cases this))
theorem res_cells (w:World) (v:Value):((w.alloc (.cells #[.pointer none] 22)).alloc (.cells #[v] 40)).heap[w.heap.size]? = some (.cells #[.pointer none] 22 (0,0))∧((w.alloc (.cells #[.pointer none] 22)).alloc (.cells #[v] 40)).heap[w.heap.size+1]? = some (.cells #[v] 40 (0,0)) ∧
 Below w.heap.size w ((w.alloc (.cells #[.pointer none] 22)).alloc (.cells #[v] 40))∧((w.alloc (.cells #[.pointer none] 22)).alloc (.cells #[v] 40)).heap.size=w.heap.size+2:=by
 refine⟨alloc_old_h (World.alloc_heap_new w _),?_,((Below.refl _ w).alloc (Nat.le_refl _) _).alloc (by rw[World.size_alloc];omega) _,by rw[World.size_alloc,World.size_alloc]⟩
 rw[←World.size_alloc w (.cells #[.pointer none] 22)]
 exact World.alloc_heap_new _ _
set_option maxRecDepth 100000 in
set_option maxHeartbeats 4000000 in
theorem pParse (s:ByteArray) (w:World) (hE:PEnv w):Calls Tryz.prog 15 #[.string s] w fun e w'=>ParseO s.data.toList w e w':=by
 obtain⟨l,hl⟩:∃l,s.data.toList=l:=⟨_,rfl⟩
 have hsz:s.size=l.length:=by rw[←hl];exact Lib.size_eq s
 have hfn:∀k,Fence.wide.fn k:=fun _=>trivial
 have hdep:Fence.wide.depth=none:=rfl
 have HE:=Lib.hid hE
 have HL:=Lib.hid (And.intro hl hsz)
 clear hE
 rw[hl]
 have big:∀(W:World),(1048576<l.length∨65536<lnC l)→Below w.heap.size w W→ParseO l w (.returned (.tuple #[.pointer none,.iface 62 (.int .i64 5)])) W:=fun W hb hw =>
  ⟨5,0,rd0,[],.inl ⟨hb,rfl,rfl⟩,hw,.inr ⟨by decide,rfl⟩⟩
 have BIG:=Lib.hid big
 clear big
 refine (callsIn_wide (n:=0)).1 ?_
 refine callsIn_of_wp_marks Tryz.func15 rfl trivial ?_ rfl
 simp only[Tryz.ntmps15,List.size_toArray,List.length_cons,List.length_nil,Nat.reduceAdd,Nat.reduceSub,Array.replicate_succ,Array.replicate_zero,List.push_toArray,List.append_toArray,List.nil_append,List.cons_append]
 by_cases hbig:1048576<s.size
 ·have hbig':(1048576:Int)<(s.size:Int):=by omega
  have HB:=Lib.hid hbig
  clear hl hsz hbig
  gi_wp2
  refine ends_at (Ds:=[]) (by simp) rfl rfl (res_cells w _).1 (res_cells w _).2.1 (by simp) (fun W' hk=>BIG.out W' (.inl (by rw[←HL.out.2];exact HB.out)) ((res_cells w _).2.2.1.trans (hk.below (by rw[(res_cells w _).2.2.2];omega) (fun b hb=>by simp at hb))))
 have hbig':¬(1048576:Int)<(s.size:Int):=by omega
 have CL:=Lib.hid (fun W=>plineCount s W (by omega))
 rw[hl] at CL
 have HS:=Lib.hid (show s.size≤1048576 by omega)
 clear hbig hsz hl
 by_cases hln:65536<lnC l
 ·have hln':(65536:Int)<(lnC l:Nat):=by omega
  have HB:=Lib.hid hln
  clear hln
  generalize lnC l=nl at *
  gi_wp2_with fail
  refine (callsIn_wide.2 (CL.out _)).mono ?_
  rintro e w' ⟨rfl,rfl⟩
  gi_wp2
  refine ends_at (Ds:=[]) (by simp) rfl rfl (res_cells _ _).1 (res_cells _ _).2.1 (by simp) (fun W' hk=>BIG.out W' (.inr HB.out) ((res_cells _ _).2.2.1.trans (hk.below (by rw[(res_cells _ _).2.2.2];omega) (fun b hb=>by simp at hb))))
 have hln':¬(65536:Int)<(lnC l:Nat):=by omega
 have HB:Hid (¬(1048576<l.length∨65536<lnC l)∧lnC l≤65536):=Lib.hid ⟨fun h=>by rcases h with h|h;have:=HL.out.2;have:=HS.out;omega;omega,by omega⟩
 clear hln
 generalize hnl:lnC l=nl at HB hln' CL
 have HNL:=Lib.hid hnl
 clear hnl BIG
 obtain⟨w1,hw1⟩:∃w1,(w.alloc (.cells #[.pointer none] 22)).alloc (.cells #[.nilIface] 40)=w1:=⟨_,rfl⟩
 have hrc:=res_cells w .nilIface
 rw[hw1] at hrc
 have HRC:=Lib.hid hrc
 have HW1:=Lib.hid hw1
 have CN:=Lib.hid (pnewR w1)
 clear hrc hw1
 gi_wp2_with fail
 refine (callsIn_wide.2 (CL.out _)).mono ?_
 rintro e w' ⟨rfl,rfl⟩
 gi_wp2_with fail
 rw[HW1.out]
 refine (callsIn_wide.2 CN.out).mono ?_
 rintro e w2 ⟨R,rfl,hb12,ρ0,hR0⟩
 obtain⟨w3,hw3⟩:∃w3,w2.alloc (.cells #[.pointer (some ⟨R.g,0,none⟩)] 63)=w3:=⟨_,rfl⟩
 have CS:=Lib.hid (plines_call s w3)
 have HR0:=Lib.hid (And.intro hb12 (And.intro hR0 hw3))
 clear hb12 hR0
 gi_wp2_with fail
 refine (callsIn_wide.2 CS.out).mono ?_
 rintro e w4 ⟨rfl,hw4⟩
 have HW4:=Lib.hid hw4
 clear hw3 hw4
 obtain⟨B0,hB0⟩:∃B0,w.heap.size+2=B0:=⟨_,rfl⟩
 obtain⟨H2,hH2⟩:∃H2,w2.heap.size=H2:=⟨_,rfl⟩
 obtain⟨rfl,hs⟩:s=⟨l.toArray⟩∧l.length≤1048576:=⟨by rw[←HL.out.1],by rw[←HL.out.2];exact HS.out⟩
 have hz3:w3.heap.size=H2+1:=by rw[←HR0.out.2.2,World.size_alloc,hH2]
 have hz4:w4.heap.size=H2+2:=by rw[←HW4.out,World.size_alloc,hz3]
 have hB0':w1.heap.size=B0:=by rw[HRC.out.2.2.2,hB0]
 have hB2:B0≤H2:=by rw[←hB0',←hH2];exact HR0.out.1.size
 have hc4:w4.heap[H2]? = some (.cells #[.pointer (some ⟨R.g,0,none⟩)] 63 (0,0)):=by
  rw[←HW4.out]
  refine alloc_old_h ?_
  rw[←HR0.out.2.2,←hH2]
  exact World.alloc_heap_new w2 _
 have hbs:w4.heap[H2+1]? = some (.cells #[.string ⟨l.toArray⟩] 9 (0,0)):=by
  rw[←HW4.out,←hz3]
  exact World.alloc_heap_new w3 _
 have hb24:Below H2 w2 w4:=by
  rw[←HW4.out,←HR0.out.2.2]
  exact ((Below.refl _ w2).alloc (by omega) _).alloc (by rw[World.size_alloc];omega) _
 have hb14:Below B0 w1 w4:=(by have:=HR0.out.1;rw[hB0'] at this;exact this.trans (hb24.mono hB2))
 have hr2:w4.heap[w.heap.size]? = some (.cells #[.pointer none] 22 (0,0)):=(hb14.block _ (by omega)).trans HRC.out.1
 have hr3:w4.heap[w.heap.size+1]? = some (.cells #[.nilIface] 40 (0,0)):=(hb14.block _ (by omega)).trans HRC.out.2.1
 have hbw4:Below w.heap.size w w4:=HRC.out.2.2.1.trans (hb14.mono (by omega))
 have hit:=plines_iter l (H2+1) w4 hbs hs
 have hI0:LineI w.heap.size B0 H2 (H2+1) (H2+2) R [] (fun _=>False) w4:=by
  refine⟨fun b=>if b<H2 then ρ0 b else if b=H2 then 0 else 9,.slice none 0 0,.slice none 0 0,rd0,?_,rfl,⟨fun b _ hb=>?_,fun b hb h0 h9=>?_⟩,hr2,hr3⟩
  ·have h1:=HR0.out.2.1
   rw[hB0'] at h1
   have h2:=h1.recast (fun b=>if b<H2 then ρ0 b else if b=H2 then 0 else 9) (fun b hb=>by rw[hH2] at hb;simp only[if_pos hb])
   exact h2.below (by rw[hH2];exact hb24)
  ·have e1:¬b<H2:=by omega
   have e2:¬b=H2:=by omega
   simp only[if_neg e1,if_neg e2]
  ·by_cases e1:b<H2
   ·simp only[if_pos e1] at h0
    have:=HR0.out.2.1.hr b h0
    omega
   ·have e2:¬b=H2:=fun e=>by simp only[if_neg e1,if_pos e] at h0;exact h0 rfl
    simp only[if_neg e1,if_neg e2] at h9
    exact absurd rfl h9
 have HIT:=Lib.hid hit
 have HI0:=Lib.hid hI0
 have HWW:=Lib.hid (And.intro hc4 (And.intro hr2 (And.intro hr3 (And.intro hbw4 (And.intro hz4 hB2)))))
 have HZ:=Lib.hid (And.intro hB0 (And.intro hH2 (And.intro hz3 hs)))
 rw[hz3,hH2]
 clear hit hI0 hc4 hr2 hr3 hbw4 hbs hb24 hb14 hB0' hs hH2 hz3
 gi_wp2_with fail
 refine loop_out3 (gf:=57) (lb:=#[.pointer (some ⟨H2+1,0,none⟩)]) (encs:=encL) rfl enters_lines
  HIT.out (fun _=>rfl) (X:=fun b=>b=w.heap.size∨b=w.heap.size+1∨(B0≤b∧b<H2))
  (fun b hb=>by rcases hb with rfl|rfl|hb <;> omega) (fun b hb=>?nd) (fun _ _=>rfl) (Nat.le_refl _)
  (LineI w.heap.size B0 H2 (H2+1) (H2+2) R) (LineX w.heap.size (w.heap.size+1) (linesP l))
  (by rw[hz4];exact LineI.low (by omega) (by omega)) LineI.slim (fun c pre Y W W' hk ⟨h1,h2,h3,h4,h5⟩=>⟨h1,h2,h3,hk.heap h4 (fun hx=>by have:=hx.1;rw[hz4] at this;omega),hk.heap h5 (fun hx=>by have:=hx.1;rw[hz4] at this;omega)⟩)
  HI0.out ?round ?done ?stop
 case nd =>
  rcases hb with hb|hb
  ·have hb:b=H2+1:=hb
   exact⟨fun h=>by omega,by omega⟩
  ·exact hb.elim
 case round =>
  rintro l' hl' pre x Y W hpre hI hk hY hlt hr
  simp only[encL]
  have HP:=Lib.hid hpre
  have HY:=Lib.hid hY
  clear hpre hI hk hY hr
  gi_wp2
  refine⟨Keep.refl _ _,?_⟩
  rintro W2 hk1 hk2 ⟨ρ,cv,kv,S,hR,hrd,hro,hrc2⟩ rl
  have hlen:pre.length+1≤65536:=by
   obtain⟨t,ht⟩:=HP.out
   have:=linesP_len l
   rw[HNL.out,←ht] at this
   simp at this
   have:=HB.out.2
   omega
  have hx:x.length≤1048576:=by
   obtain⟨t,ht⟩:=HP.out
   have:=linesP_le l x (by rw[←ht];simp)
   have:=HZ.out.2.2.2
   omega
  obtain⟨hR3,hk3⟩:=hR.setline (pre.length+1)
  have z0:W2.cell? ⟨H2,0,none⟩=some (.pointer (some ⟨R.g,0,none⟩)):=cell_one (hk2.heap HWW.out.1 (fun h=>by rcases h with (h|h|h)|h <;> omega))
  have z1:W2.cell? ⟨R.g,1,none⟩=some (.int .i64 (pre.length:Nat)):=by rw[Lib.cell_of_heap hR.cell];rfl
  have zf:W2.frozen? ⟨R.g,1,none⟩=false:=Lib.frozen_of_heap hR.cell _
  obtain⟨W3,hW3⟩:∃W3,W2.setCell ⟨R.g,1,none⟩ (.int .i64 ((pre.length+1:Nat):Int))=W3:=⟨_,rfl⟩
  rw[hW3] at hR3 hk3
  have hRg:¬H2=R.g:=fun e=>by
   have h1:=hR.g
   rw[←e] at h1
   have h2:=hro.2 H2 (by omega) (by omega) (by omega)
   omega
  have z3:W3.cell? ⟨H2,0,none⟩=some (.pointer (some ⟨R.g,0,none⟩)):=hk3.cell z0 hRg
  have HR3:=Lib.hid (And.intro hR3 (And.intro hk3 (And.intro hrd (And.intro hro (And.intro hk2 (And.intro hk1 hrc2))))))
  have HLN:=Lib.hid (And.intro hlen hx)
  have hk02:=hk2
  have HPE:Hid (∀V,Below W3.heap.size W3 V→PEnv V):=Lib.hid fun V hb=>by
   have h1:Below w.heap.size w W2:=HWW.out.2.2.2.1.trans (hk2.below (by omega) (fun b hb=>by rcases hb with (h|h|h)|h <;> omega))
   have h2:Below w.heap.size w W3:=h1.trans (hk3.below (by have:=h1.size;omega) (fun b hb=>by subst hb;have:=hR.hr R.g (by have:=hR.g;omega);omega))
   exact HE.out.below (h2.trans (hb.mono h2.size))
  have hd0:Below W3.heap.size W3 W3.drew:=below_drewN (Below.refl _ _) 1
  have CW:Hid (Calls Tryz.prog 30 #[.string ⟨x.toArray⟩] W3.drew fun e w'=>∃v,e = .returned v∧StrS v (wrdP x) w'∧Below W3.heap.size W3 w'):=Lib.hid ((pwords ⟨x.toArray⟩ W3.drew (by rw[bsize];exact hx) (HPE.out _ hd0)).mono fun e w' h=>by
   obtain⟨v,h1,h2,h3⟩:=h
   exact⟨v,h1,by simpa using h2,hd0.trans h3⟩)
  have CT:Hid (∀(V:World) (v:Value),Below W3.heap.size W3 V→StrS v (wrdP x) V→Calls Tryz.prog 29 #[.pointer (some ⟨R.g,0,none⟩),v] V fun e w'=>RdOut B0 ρ R (pre.length+1) (2*pre.length+2) 0 (takeP (pre.length+1) S (wrdP x)).1 (takeP (pre.length+1) S (wrdP x)).2 V e w'):=Lib.hid fun V v hb hS =>
   ptake V (hR3.below hb) (wrdP x) v hS (fun y hy=>⟨(wrdP_ok x y hy).1,Nat.le_trans (wrdP_ok x y hy).2 hx⟩) (HPE.out V hb) (by omega) (by
    have:=(readP_ok pre 0 0 rd0 rd0_ok (by rw[hrd])).cs.1
    rw[hrd] at this
    simp at this
    omega) (by
    have:=(readP_ok pre 0 0 rd0 rd0_ok (by rw[hrd])).ks.1
    rw[hrd] at this
    simp at this
    omega)
  have hW3':W2.setCell ⟨R.g,1,none⟩ (.int .i64 ((pre.length:Int)+1))=W3:=by rw[←hW3];rfl
  clear hR hR3 hk3 hrd hro hk2 hk1 rl hW3 hRg hlt hrc2
  clear hk02 hd0
  gi_wp2_with fail
  gi_region_with (first
   | (gi_at_call 30;refine (CallsIn.inRound l' (callsIn_wide.2 CW.out)).mono ?_;rintro e V ⟨v,rfl,hS,hb⟩;have zz:=(hb.cell (lt_of_cell z3)).trans z3)
   | (gi_at_call 29;refine (CallsIn.inRound l' (callsIn_wide.2 (CT.out _ _ (by assumption) (by assumption)))).mono ?_;rintro e V2 ⟨rfl,hkt,hex⟩))
  all_goals
   obtain⟨ρ2,S2,cv2,kv2,hR2,hro2,hS2⟩:=hex
   have hbV:Below W3.heap.size W3 V:=hb
   obtain⟨no,hno⟩:∃no,(takeP (pre.length+1) S (wrdP x)).1=no:=⟨_,rfl⟩
   rw[hno] at hS2 ⊢
   have HNO:=Lib.hid hno
   have hrc3:ResC w.heap.size V2:=by
    obtain⟨hR3,hk3,hrd,hro,hk2,hk1,hrc⟩:=HR3.out
    have h1:=hrc.keep hk3 (fun e=>by have:=hR3.hr R.g (by have:=hR3.g;omega);omega) (fun e=>by have:=hR3.hr R.g (by have:=hR3.g;omega);omega)
    have h2:=h1.keep (X:=fun _=>False) (Keep.of_all hbV) (fun h=>h) (fun h=>h)
    exact h2.keep hkt (fun h=>by have:=hR3.hr _ h.1;omega) (fun h=>by have:=hR3.hr _ h.1;omega)
   have HK2:Hid (Keep (fun b=>(b=w.heap.size∨b=w.heap.size+1∨(B0≤b∧b<H2))∨Y b) W2 V2):=Lib.hid (by
    obtain⟨hR3,hk3,hrd,hro,hk2,hk1,hrc⟩:=HR3.out
    have hrole:∀b,ρ b≠0→ρ b≠9→(b=w.heap.size∨b=w.heap.size+1∨(B0≤b∧b<H2))∨Y b:=fun b h0 h9=>by
     by_cases hb:b<H2+2
     ·exact .inl (.inr (.inr (hro.2 b hb h0 h9)))
     ·refine .inr (Classical.byContradiction fun hy=>h9 (hro.1 b hy (by omega)))
    have k1:Keep (fun b=>((b=w.heap.size∨b=w.heap.size+1∨(B0≤b∧b<H2))∨Y b)∨W2.heap.size≤b) W2 W3:=hk3.weaken (fun b _ hb=>.inl (by subst hb;exact hrole R.g (by have:=hR3.g;omega) (by have:=hR3.g;omega)))
    have k2:Keep (fun b=>((b=w.heap.size∨b=w.heap.size+1∨(B0≤b∧b<H2))∨Y b)∨W2.heap.size≤b) W3 V:=Keep.of_all hbV
    have k3:Keep (fun b=>((b=w.heap.size∨b=w.heap.size+1∨(B0≤b∧b<H2))∨Y b)∨W2.heap.size≤b) V V2:=hkt.weaken (fun b _ hb=>.inl (hrole b hb.1 hb.2))
    exact ((k1.trans k2).trans k3).weaken (fun b hb h=>by rcases h with h|h;exact h;omega))
   have hsz3:W2.heap.size≤V.heap.size:=Nat.le_trans HR3.out.2.1.size hbV.size
   by_cases hno0:no=0
   ·have hno0':(no:Int)=0:=by omega
    have HF:=Lib.hid (And.intro hR2 (And.intro hro2 (And.intro hS2 (And.intro hrc3 (And.intro hsz3 hno0)))))
    clear hR2 hro2 hS2 hrc3 hkt hno hsz3 hb hbV hS zz hno0
    gi_wp2
    obtain⟨hR2,hro2,hS2,hrc3,hsz3,hno0⟩:=HF.out
    have hro:=HR3.out.2.2.2.1
    refine⟨fun b=>Y b∨W2.heap.size≤b,HK2.out,fun b hb=>hb,ρ2,cv2,kv2,S2,?_,?_,⟨fun b hb hbs=>?_,fun b hb h0 h9=>?_⟩,hrc3⟩
    ·have e1:(pre++[x]).length=pre.length+1:=by simp
     rw[e1,show 2*(pre.length+1)=2*pre.length+2 by omega]
     exact hR2
    ·have e1:(pre++[x]).length=pre.length+1:=by simp
     rw[readP_snoc HR3.out.2.2.1,e1,HNO.out,hno0,hS2 hno0]
     rfl
    ·have hb2:b<W2.heap.size:=Nat.lt_of_not_le fun h=>hb (.inr h)
     rw[hro2 b (by omega)]
     exact hro.1 b (fun hy=>hb (.inl hy)) hbs
    ·have hsw:H2+2≤W2.heap.size:=by have:=HR3.out.2.2.2.2.1.size;have:=HWW.out.2.2.2.2.1;omega
     rw[hro2 b (by omega)] at h0 h9
     exact hro.2 b hb h0 h9
   ·have hno0':¬(no:Int)=0:=by omega
    have CF:=Lib.hid (pfaultR V2 hR2 no)
    have y2:V2.cell? ⟨w.heap.size,0,none⟩=some (.pointer none):=cell_one hrc3.1
    have y3:V2.cell? ⟨w.heap.size+1,0,none⟩=some .nilIface:=cell_one hrc3.2
    have f2:V2.frozen? ⟨w.heap.size,0,none⟩=false:=frozen_one hrc3.1
    have f3:V2.frozen? ⟨w.heap.size+1,0,none⟩=false:=frozen_one hrc3.2
    have y0:V2.cell? ⟨H2,0,none⟩=some (.pointer (some ⟨R.g,0,none⟩)):=by
     have h1:=(hbV.cell (lt_of_cell z3)).trans z3
     refine hkt.cell h1 (fun h=>?_)
     have:=HR3.out.2.2.2.1.2 H2 (by omega) h.1 h.2
     omega
    have HF:=Lib.hid (And.intro hrc3 hno0)
    clear hR2 hro2 hS2 hrc3 hkt hno hsz3 hb hbV hS zz hno0
    gi_wp2_with fail
    refine (CallsIn.inRound l' (callsIn_wide.2 CF.out)).mono ?_
    rintro e V3 ⟨rfl,rfl⟩
    gi_wp2
    obtain⟨hrc3,hno0⟩:=HF.out
    have hall:readP 0 rd0 (linesP l)=(no,pre.length+1,S):=by
     obtain⟨t,ht⟩:=HP.out
     rw[←ht,readP_bad HR3.out.2.2.1 (by rw[HNO.out];exact hno0),HNO.out]
    have he:errP no (pre.length+1) = .iface 111 (.agg #[.int .i64 (no:Nat),.int .i64 ((pre.length:Int)+1),.int .i64 0]):=by
     unfold errP
     rw[if_neg (by omega)]
     rfl
    rw[←he]
    have k2:Keep (fun b=>b=w.heap.size∨b=w.heap.size+1) V3 ((V3.setCell ⟨w.heap.size,0,none⟩ (.pointer none)).setCell ⟨w.heap.size+1,0,none⟩ (errP no (pre.length+1))) :=
     Keep.setCell (X:=fun b=>b=w.heap.size∨b=w.heap.size+1) (p:=⟨w.heap.size+1,0,none⟩) (Keep.setCell (X:=fun b=>b=w.heap.size∨b=w.heap.size+1) (p:=⟨w.heap.size,0,none⟩) (Keep.refl _ _) (.inl rfl) _) (.inr rfl) _
    refine⟨Y,HK2.out.trans (k2.weaken (fun b _ h=>by rcases h with h|h;exact .inl (.inl h);exact .inl (.inr (.inl h)))),fun b hb=>.inl hb,rfl,by rw[hall];exact hno0,by rw[hall];simp,?_,?_⟩
    ·exact set_old (set_at hrc3.1) (by omega)
    ·rw[hall]
     exact set_at (set_old hrc3.2 (by omega))
 case stop =>
  rintro D c pre Y W hD hDd hpre ⟨rfl,h1,h2,h3,h4⟩ hY hkW
  have hbW:Below w.heap.size w W:=HWW.out.2.2.2.1.trans (hkW.below (by omega) (fun b hb=>by rcases hb with (h|h|h)|h <;> omega))
  have HF:=Lib.hid (And.intro h1 (And.intro h2 (And.intro h3 (And.intro h4 (And.intro hbW (And.intro hDd hD))))))
  clear h1 h2 h3 h4 hbW hDd hY hkW
  gi_wp2
  obtain⟨h1,h2,h3,h4,hbW,hDd,hD⟩:=HF.out
  refine ends_at (Ds:=[D]) (by simp) rfl rfl h3 h4 (fun D' h=>by simp at h;subst h;exact hDd) (fun W' hk=>?_)
  refine⟨_,_,rd0,[],.inr (.inl ⟨by rw[HNL.out];exact HB.out.1,h1,rfl,rfl⟩),hbW.trans (hk.below hbW.size (fun b hb=>by simp at hb;omega)),.inr ⟨h1,rfl⟩⟩
 case done =>
  rintro D Y W hD hDd ⟨ρ,cv,kv,S,hR,hrd,hro,hrc⟩ hY hkW
  have hok:=readP_ok (linesP l) 0 0 rd0 rd0_ok (by rw[hrd])
  rw[hrd] at hok
  simp only[Nat.zero_add] at hok
  have hlen:(linesP l).length≤65536:=by rw[linesP_len,HNL.out];exact HB.out.2
  have hbW:Below w.heap.size w W:=HWW.out.2.2.2.1.trans (hkW.below (by omega) (fun b hb=>by rcases hb with (h|h|h)|h <;> omega))
  have y0:W.cell? ⟨H2,0,none⟩=some (.pointer (some ⟨R.g,0,none⟩)):=cell_one (hkW.heap HWW.out.1 (fun h=>by rcases h with (h|h|h)|h <;> omega))
  have CDE:=Lib.hid (pdecomposed W hR (fun x hx=>by
   obtain⟨y,hy⟩:=Option.isSome_iff_exists.1 hx
   have:=valid_le (hok.ds x y hy).1.1
   omega))
  obtain⟨nn,hnn⟩:∃nn,(linesP l).length=nn:=⟨_,rfl⟩
  rw[hnn] at hR hrd hok hlen
  have HD:=Lib.hid (And.intro hR (And.intro hrd (And.intro hro (And.intro hrc (And.intro hok (And.intro hlen (And.intro hbW (And.intro hDd (And.intro hD hnn)))))))))
  clear hR hrd hro hrc hok hlen hbW hDd hY hkW hD hnn
  gi_wp2_with fail
  refine (callsIn_wide.2 CDE.out).mono ?_
  rintro e W4 ⟨L,v,hp,hm,rfl,hRs,hb4⟩
  obtain⟨ao,cp,rfl,hcl⟩:∃ao cp,v = .slice ao L.length cp∧∀i x,L[i]? = some x→∃g,ao=some ⟨g,0,none⟩∧W.heap.size≤g∧W4.cell? ⟨g,i,none⟩=some (.int .i32 (x:Nat)):=by
   rcases hRs with ⟨rfl,rfl⟩|⟨g,cp,rfl,_,h3,_,h5⟩
   ·exact⟨none,0,rfl,fun i x h=>by cases h⟩
   ·exact⟨_,cp,rfl,fun i x h=>⟨g,rfl,h3,h5 i x h⟩⟩
  obtain⟨N,hN⟩:∃N,L.length=N:=⟨_,rfl⟩
  have hNl:N≤1114112:=by
   rw[←hN]
   refine nodup_le 1114112 L (hp.imp (fun h=>Nat.ne_of_lt h)) (fun x hx=>?_)
   obtain⟨y,hy⟩:=Option.isSome_iff_exists.1 ((hm x).1 hx)
   have:=valid_le (HD.out.2.2.2.2.1.ds x y hy).1.1
   omega
  have HLL:=Lib.hid (And.intro hp (And.intro hm (And.intro hcl (And.intro hN hb4))))
  have y4:=(hb4.cell (lt_of_cell y0)).trans y0
  rw[hN]
  clear hp hm hRs hcl hb4 hN y0
  gi_wp2_with fail
  have hI0:RingI B0 ρ R (2*nn) N L S cv kv W4 0 W4:=by
   obtain⟨hR,hrd,hro,hrc,hok,hlen,hbW,hDd,hD,hnn⟩:=HD.out
   refine⟨nn,0,?_,rfl,fun y v h=>(by cases h),?_,Keep.refl _ _⟩
   ·have h9:=hR.below HLL.out.2.2.2.2
    rw[←rd_le_none (show S.le=fun _=>none by have:=readP_le (linesP l) 0 rd0;rw[hrd] at this;exact this)] at h9
    exact h9
   ·have:=unk_len L (fun _=>none)
    rw[HLL.out.2.2.2.1] at this
    simp only[List.take_zero,ringL]
    omega
  have HI0:=Lib.hid hI0
  clear hI0
  have hRne:Hid (H2≠R.g∧H2≠R.bn∧w.heap.size≠R.g∧w.heap.size≠R.bn∧w.heap.size+1≠R.g∧w.heap.size+1≠R.bn∧D≠R.g∧D≠R.bn∧R.g<W.heap.size∧R.bn<W.heap.size∧B0≤R.g∧B0≤R.bn∧R.g≠R.bn):=Lib.hid (by
   obtain⟨hR,hrd,hro,hrc,hok,hlen,hbW,hDd,hD,hnn⟩:=HD.out
   have g1:=hR.hr R.g (by have:=hR.g;omega)
   have g2:=hR.hr R.bn (by have:=hR.e.1;omega)
   have g3:=hR.g
   have g4:=hR.e.1
   refine⟨fun e=>?_,fun e=>?_,by omega,by omega,by omega,by omega,fun e=>?_,fun e=>?_,hR.gl,hR.e.2.lt,g1,g2,fun e=>by rw[e] at g3;omega⟩
   ·have:=hro.2 H2 (by omega) (by rw[e];omega) (by rw[e];omega)
    omega
   ·have:=hro.2 H2 (by omega) (by rw[e];omega) (by rw[e];omega)
    omega
   ·have h9:=hR.cell
    rw[←e,hDd] at h9
    cases h9
   ·obtain⟨D9,⟨es,clock,h1,_⟩,_⟩:=hR.e.2
    rw[←e,hDd] at h1
    cases h1)
  gi_loopw [42] (fun x wr=>∃i:Nat,x = .int .i64 i∧i≤N∧RingI B0 ρ R (2*nn) N L S cv kv W4 i wr) (fun x _=>N-(RowKit.intOf x).toNat)
  case atStart=>exact⟨0,rfl,by omega,HI0.out⟩
  case round =>
   obtain⟨i,rfl,hi,line,m,hR,hrp,hle,hmu,hk⟩:=hrel
   have hsz:=hk.size
   have hs4:=HLL.out.2.2.2.2.size
   have z4:wr.cell? ⟨H2,0,none⟩=some (.pointer (some ⟨R.g,0,none⟩)):=hk.cell y4 (fun h=>by rcases h with h|h;exact hRne.out.1 h;exact hRne.out.2.1 h)
   by_cases hlt:i<N
   ·have hlt':(i:Int)<(N:Int):=by omega
    obtain⟨x,hx⟩:∃x,L[i]? = some x:=⟨_,List.getElem?_eq_getElem (by rw[HLL.out.2.2.2.1];exact hlt)⟩
    obtain⟨gl,rfl,hgl,hcx⟩:=HLL.out.2.2.1 i x hx
    obtain⟨y,hy⟩:=Option.isSome_iff_exists.1 ((HLL.out.2.1 x).1 (List.mem_of_getElem? hx))
    obtain⟨ln,hlp,hln⟩:∃ln,0<ln∧S.ls x=some ln:=by
     obtain⟨m9,h9⟩:=HD.out.2.2.2.2.1.ls x ((HLL.out.2.1 x).1 (List.mem_of_getElem? hx))
     exact⟨m9+1,by omega,h9⟩
    have hxv:=valid_le (HD.out.2.2.2.2.1.ds x y hy).1.1
    have hcx2:=hk.cell hcx (fun h=>by have h0:gl=R.g∨gl=R.bn:=h;have:=hRne.out;rcases h0 with h0|h0 <;> omega)
    have hk1:IntKind.i64.wrap ((i:Int)+1)=((i+1:Nat):Int):=by rw[IntWalk.i64_in _ (by omega)];omega
    have hbng:=hRne.out.2.2.2.2.2.2.2.2.2.2.2.2
    have hgz:=hR.gl
    have FA6:Hid (∀X:World,(Instr.fieldAt 73 (.pointer (some ⟨R.g,0,none⟩)) 6).run Tryz.prog X = .ok (.pointer (some ⟨R.g,6,none⟩)) X):=Lib.hid fun X=>by go_simp
    have FA1:Hid (∀X:World,(Instr.fieldAt 73 (.pointer (some ⟨R.g,0,none⟩)) 1).run Tryz.prog X = .ok (.pointer (some ⟨R.g,1,none⟩)) X):=Lib.hid fun X=>by go_simp
    have LDr:Hid (∀X:World,Below wr.heap.size wr X→(Instr.loadAt 63 (.pointer (some ⟨H2,0,none⟩))).run Tryz.prog X = .ok (.pointer (some ⟨R.g,0,none⟩)) X):=Lib.hid fun X hb=>by
     have c:=(hb.cell (lt_of_cell z4)).trans z4
     go_simp
    have LDl:Hid (∀X:World,Below wr.heap.size wr X→(Instr.loadAt 71 (.pointer (some ⟨R.g,6,none⟩))).run Tryz.prog X = .ok (.map (some R.bl)) X):=Lib.hid fun X hb=>by
     have c:X.cell? ⟨R.g,6,none⟩=some (.map (some R.bl)):=(hb.cell hR.gl).trans (by rw[Lib.cell_of_heap hR.cell];rfl)
     go_simp
    have LKl:Hid (∀X:World,Below wr.heap.size wr X→(Instr.lookup 71 (.map (some R.bl)) (.int .i32 (x:Nat)) false).run Tryz.prog X = .ok (.int .i64 (ln:Nat)) X):=Lib.hid fun X hb =>
     (hR.below hb).lnl hxv hln
    have STl:Hid (∀X:World,Below wr.heap.size wr X→(Instr.storeAt 3 (.pointer (some ⟨R.g,1,none⟩)) (.int .i64 (ln:Nat))).run Tryz.prog X = .ok () (X.setCell ⟨R.g,1,none⟩ (.int .i64 (ln:Nat)))∧RdW B0 ρ R ln (2*nn) m { S with le:=ringL S (N+1) (L.take i) fun _=>none } cv kv (X.setCell ⟨R.g,1,none⟩ (.int .i64 (ln:Nat)))∧Keep (fun b=>b=R.g) X (X.setCell ⟨R.g,1,none⟩ (.int .i64 (ln:Nat)))):=Lib.hid fun X hb=>by
     have hRX:=hR.below hb
     have q:X.cell? ⟨R.g,1,none⟩=some (.int .i64 (line:Nat)):=by rw[Lib.cell_of_heap hRX.cell];rfl
     have q2:X.frozen? ⟨R.g,1,none⟩=false:=Lib.frozen_of_heap hRX.cell _
     refine⟨by go_simp,hRX.setline ln⟩
    have HX:=Lib.hid (And.intro hx (And.intro hy (And.intro hln (And.intro hR (And.intro hrp (And.intro hle (And.intro hmu hk)))))))
    have hxi:=Lib.hid hi
    clear hx hy hln hR hrp hle hmu hk hcx
    gi_wp2_with fail
    refine wpIn_wide.2 ?_
    obtain⟨FF,hFF⟩:∃FF:StoB,FF=⟨wr,wr.heap.size,R.g,9,fun i v W=>match i with|0=>v = .pointer (some ⟨R.g,0,none⟩)|1=>v = .pointer (some ⟨R.g,0,none⟩)|2=>v = .pointer (some ⟨R.g,0,none⟩)|3=>v = .pointer (some ⟨R.g,6,none⟩)|4=>v = .map (some R.bl)|5=>v = .int .i32 (x:Nat)|6=>v = .int .i64 (ln:Nat)|7=>v = .pointer (some ⟨R.g,0,none⟩)|8=>v = .pointer (some ⟨R.g,1,none⟩)|_=>True,fun W=>RdW B0 ρ R ln (2*nn) m { S with le:=ringL S (N+1) (L.take i) fun _=>none } cv kv W∧Keep (fun b=>b=R.g) wr W⟩:=⟨_,rfl⟩
    have HOK:StoB.Ok FF:=by
     rw[hFF]
     refine⟨rfl,by show R.g<wr.heap.size;omega,fun i v A B hb=>?_⟩
     match i with
     | 0=>exact fun h=>h
     | 1=>exact fun h=>h
     | 2=>exact fun h=>h
     | 3=>exact fun h=>h
     | 4=>exact fun h=>h
     | 5=>exact fun h=>h
     | 6=>exact fun h=>h
     | 7=>exact fun h=>h
     | 8=>exact fun h=>h
     | _+9=>exact fun _=>trivial
    have H0:Below FF.H FF.w wr.drew:=by rw[hFF];exact below_drewN (Below.refl _ _) 1
    refine wp_region_stob FF (by kernel_rfl) (by kernel_rfl) (by kernel_rfl) HOK (by rw[hFF];kernel_rfl) (by rw[hFF];show (9:Nat)<10;decide) H0 ?hsl ?hdl
    case hsl =>
     refine BSteps.cons ?_ (BSteps.cons ?_ (BSteps.cons ?_ (BSteps.cons ?_ (BSteps.cons ?_ (BSteps.cons ?_ (BSteps.cons ?_ (BSteps.cons ?_ (BSteps.cons ?_ (BSteps.cons ?_ (BSteps.nil))))))))))
     ·intro a X9 hXB hL hd
      rw[hFF] at hXB
      refine⟨rfl,?_⟩
      have e0:a.eval (.tmp 4) = .pointer (some ⟨H2,0,none⟩):=hL.far 4 (by kernel_rfl)
      exact wp_value (exec_load rfl e0 (LDr.out X9 hXB)) ⟨_,rfl,.inl ⟨by rw[hFF];show (0:Nat)≠9;decide,Below.refl _ _,by rw[hFF];exact rfl⟩⟩
     ·intro a X9 hXB hL hd
      rw[hFF] at hXB
      refine⟨rfl,?_⟩
      have e0:a.eval (.tmp 4) = .pointer (some ⟨H2,0,none⟩):=hL.far 4 (by kernel_rfl)
      exact wp_value (exec_load rfl e0 (LDr.out X9 hXB)) ⟨_,rfl,.inl ⟨by rw[hFF];show (1:Nat)≠9;decide,Below.refl _ _,by rw[hFF];exact rfl⟩⟩
     ·intro a X9 hXB hL hd
      have q0:=hd 1 47 (by rw[hFF];show (1:Nat)≠9;decide) (by kernel_rfl) (by kernel_rfl)
      rw[hFF] at hXB q0
      refine⟨rfl,?_⟩
      have e0:a.eval (.tmp 47) = .pointer (some ⟨R.g,0,none⟩):=q0
      exact wp_value (exec_nilCheck rfl e0) ⟨_,rfl,.inl ⟨by rw[hFF];show (2:Nat)≠9;decide,Below.refl _ _,by rw[hFF];exact rfl⟩⟩
     ·intro a X9 hXB hL hd
      have q0:=hd 2 48 (by rw[hFF];show (2:Nat)≠9;decide) (by kernel_rfl) (by kernel_rfl)
      rw[hFF] at hXB q0
      refine⟨rfl,?_⟩
      have e0:a.eval (.tmp 48) = .pointer (some ⟨R.g,0,none⟩):=q0
      exact wp_value (exec_fieldAddr rfl e0 (FA6.out X9)) ⟨_,rfl,.inl ⟨by rw[hFF];show (3:Nat)≠9;decide,Below.refl _ _,by rw[hFF];exact rfl⟩⟩
     ·intro a X9 hXB hL hd
      have q0:=hd 3 49 (by rw[hFF];show (3:Nat)≠9;decide) (by kernel_rfl) (by kernel_rfl)
      rw[hFF] at hXB q0
      refine⟨rfl,?_⟩
      have e0:a.eval (.tmp 49) = .pointer (some ⟨R.g,6,none⟩):=q0
      exact wp_value (exec_load rfl e0 (LDl.out X9 hXB)) ⟨_,rfl,.inl ⟨by rw[hFF];show (4:Nat)≠9;decide,Below.refl _ _,by rw[hFF];exact rfl⟩⟩
     ·intro a X9 hXB hL hd
      rw[hFF] at hXB
      refine⟨rfl,?_⟩
      have e0:a.eval (.tmp 8) = .int .i32 (x:Nat):=hL.far 8 (by kernel_rfl)
      exact wp_value (exec_move rfl e0) ⟨_,rfl,.inl ⟨by rw[hFF];show (5:Nat)≠9;decide,Below.refl _ _,by rw[hFF];exact rfl⟩⟩
     ·intro a X9 hXB hL hd
      have q0:=hd 4 50 (by rw[hFF];show (4:Nat)≠9;decide) (by kernel_rfl) (by kernel_rfl)
      have q1:=hd 5 51 (by rw[hFF];show (5:Nat)≠9;decide) (by kernel_rfl) (by kernel_rfl)
      rw[hFF] at hXB q0 q1
      refine⟨rfl,?_⟩
      have e0:a.eval (.tmp 50) = .map (some R.bl):=q0
      have e1:a.eval (.tmp 51) = .int .i32 (x:Nat):=q1
      exact wp_value (exec_lookup rfl e0 e1 (LKl.out X9 hXB)) ⟨_,rfl,.inl ⟨by rw[hFF];show (6:Nat)≠9;decide,Below.refl _ _,by rw[hFF];exact rfl⟩⟩
     ·intro a X9 hXB hL hd
      have q0:=hd 0 46 (by rw[hFF];show (0:Nat)≠9;decide) (by kernel_rfl) (by kernel_rfl)
      rw[hFF] at hXB q0
      refine⟨rfl,?_⟩
      have e0:a.eval (.tmp 46) = .pointer (some ⟨R.g,0,none⟩):=q0
      exact wp_value (exec_nilCheck rfl e0) ⟨_,rfl,.inl ⟨by rw[hFF];show (7:Nat)≠9;decide,Below.refl _ _,by rw[hFF];exact rfl⟩⟩
     ·intro a X9 hXB hL hd
      have q0:=hd 7 53 (by rw[hFF];show (7:Nat)≠9;decide) (by kernel_rfl) (by kernel_rfl)
      rw[hFF] at hXB q0
      refine⟨rfl,?_⟩
      have e0:a.eval (.tmp 53) = .pointer (some ⟨R.g,0,none⟩):=q0
      exact wp_value (exec_fieldAddr rfl e0 (FA1.out X9)) ⟨_,rfl,.inl ⟨by rw[hFF];show (8:Nat)≠9;decide,Below.refl _ _,by rw[hFF];exact rfl⟩⟩
     ·intro a X9 hXB hL hd
      have q0:=hd 8 54 (by rw[hFF];show (8:Nat)≠9;decide) (by kernel_rfl) (by kernel_rfl)
      have q1:=hd 6 52 (by rw[hFF];show (6:Nat)≠9;decide) (by kernel_rfl) (by kernel_rfl)
      rw[hFF] at hXB q0 q1
      refine⟨rfl,?_⟩
      have e0:a.eval (.tmp 54) = .pointer (some ⟨R.g,1,none⟩):=q0
      have e1:a.eval (.tmp 52) = .int .i64 (ln:Nat):=q1
      obtain⟨hr9,hR9,hk9⟩:=STl.out X9 hXB
      refine wp_skipped (exec_store rfl e0 e1 hr9) ⟨undef,rfl,?_⟩
      exact .inr ⟨by subst hFF;rfl,by rw[hFF];exact hk9,by rw[hFF];exact⟨hR9,(Keep.of_all hXB).trans hk9⟩⟩
    intro a X9 hL hfin
    rw[hFF] at hfin
    obtain⟨f,ha,hf⟩:=hL.out [46,47,48,49,50,51,52,53,54] rfl
    clear hf hL H0 HOK hFF
    simp only[List.foldl_cons,List.foldl_nil,List.setIfInBounds_toArray,List.set_cons_zero,List.set_cons_succ] at ha
    subst ha
    obtain⟨hR5,hk5⟩:=hfin
    obtain⟨W5,hW5⟩:∃W5,X9=W5:=⟨_,rfl⟩
    rw[hW5] at hR5 hk5 ⊢
    have CE:=Lib.hid (pended L (N+1) W5 ρ m _ cv kv x hR5 (fun y9 h9=>(HLL.out.2.1 y9).2 h9) (fun y9 l9 h9=>by
     obtain⟨_,h2,h3⟩:=HD.out.2.2.2.2.1.ds y9 l9 h9
     exact⟨by omega,fun z hz=>valid_le (h3 z hz)⟩) HX.out.2.2.2.2.2.1 (by
     have:=unk_len L (ringL S (N+1) (L.take i) fun _=>none)
     rw[HLL.out.2.2.2.1] at this
     show unk L (ringL S (N+1) (L.take i) fun _=>none)<N+1
     omega) hxv (by have:=HX.out.2.2.2.2.2.2.1;show m+2*unk L (ringL S (N+1) (L.take i) fun _=>none)≤_;omega))
    have z5:W5.cell? ⟨H2,0,none⟩=some (.pointer (some ⟨R.g,0,none⟩)):=hk5.cell z4 hRne.out.1
    have H5:=Lib.hid (And.intro hR5 hk5)
    clear hR5 hk5 hW5
    gi_wp2_with fail
    refine (callsIn_wide.2 CE.out).mono ?_
    rintro e W6 ⟨rfl,⟨m',hR6,hm6⟩,hk6⟩
    obtain⟨no,hno⟩:∃no,endN (lenF S.ds (N+1) (ringL S (N+1) (L.take i) fun _=>none) x).1=no:=⟨_,rfl⟩
    rw[hno]
    have z6:W6.cell? ⟨H2,0,none⟩=some (.pointer (some ⟨R.g,0,none⟩)):=hk6.cell z5 hRne.out.2.1
    have HK6:Hid (Keep (fun b=>b=R.g∨b=R.bn) W4 W6):=Lib.hid ((HX.out.2.2.2.2.2.2.2.trans (H5.out.2.weaken (fun b _ h=>.inl h))).trans (hk6.weaken (fun b _ h=>.inr h)))
    by_cases hno0:no=0
    ·have hno0':(no:Int)=0:=by omega
     have H6:=Lib.hid (And.intro hR6 (And.intro hm6 (And.intro hno hno0)))
     clear hR6 hm6 hno hno0 hk6
     gi_wp2
     go_roundw
     case rel =>
      obtain⟨hR6,hm6,hno,hno0⟩:=H6.out
      obtain⟨hx,hy,hln,hR,hrp,hle,hmu,hk⟩:=HX.out
      refine⟨i+1,by go_num,by omega,ln,m',?_,?_,?_,?_,HK6.out⟩
      ·rw[ringL_snoc hx];exact hR6
      ·rw[ringP_snoc hx hrp,hno,hno0];rfl
      ·rw[ringL_snoc hx];exact (lenF_ok S.ds (N+1) _ x hle).2.1
      ·rw[ringL_snoc hx];exact Nat.le_trans hm6 hmu
     case measure=>simp[RowKit.intOf];omega
    ·have hno0':¬(no:Int)=0:=by omega
     have CF:=Lib.hid (pfaultR W6 hR6 no)
     have hrc6:ResC w.heap.size W6:=(HD.out.2.2.2.1.keep (X:=fun _=>False) (Keep.of_all HLL.out.2.2.2.2) (fun h=>h) (fun h=>h)).keep HK6.out (fun h=>by have:=hRne.out;rcases h with h|h <;> omega) (fun h=>by have:=hRne.out;rcases h with h|h <;> omega)
     have y2:W6.cell? ⟨w.heap.size,0,none⟩=some (.pointer none):=cell_one hrc6.1
     have y3:W6.cell? ⟨w.heap.size+1,0,none⟩=some .nilIface:=cell_one hrc6.2
     have f2:W6.frozen? ⟨w.heap.size,0,none⟩=false:=frozen_one hrc6.1
     have f3:W6.frozen? ⟨w.heap.size+1,0,none⟩=false:=frozen_one hrc6.2
     have H6:=Lib.hid (And.intro hrc6 (And.intro hno hno0))
     clear hR6 hm6 hno hno0 hk6 hrc6
     gi_wp2_with fail
     refine (callsIn_wide.2 CF.out).mono ?_
     rintro e V3 ⟨rfl,rfl⟩
     have HLP:=Lib.hid hlp
     clear hlp
     gi_wp2
     obtain⟨hrc6,hno,hno0⟩:=H6.out
     obtain⟨hx,hy,hln,hR,hrp,hle,hmu,hk⟩:=HX.out
     obtain⟨_,hrd,hro,hrc,hok,hlen,hbW,hDd,hD,hnn⟩:=HD.out
     have he:errP no ln = .iface 111 (.agg #[.int .i64 (no:Nat),.int .i64 (ln:Nat),.int .i64 0]):=by
      unfold errP
      rw[if_neg (by have:=HLP.out;omega)]
     rw[←he]
     have hd3:V3.heap[D]? = some (.deferred (some [])):=HK6.out.heap ((HLL.out.2.2.2.2.block D (Array.getElem?_eq_some_iff.1 hDd).1).trans hDd) (fun h=>by have:=hRne.out;rcases h with h|h <;> omega)
     have hb3:Below w.heap.size w V3:=(hbW.trans (HLL.out.2.2.2.2.mono hbW.size)).trans (HK6.out.below (by have:=hbW.size;have:=HLL.out.2.2.2.2.size;omega) (fun b h=>by have:=hRne.out;rcases h with h|h <;> omega))
     refine ends_at (Ds:=[D]) (by simp) rfl rfl (set_old (set_at hrc6.1) (by omega)) (set_at (set_old hrc6.2 (by omega))) (fun D' h=>by simp at h;subst h;exact set_old (set_old hd3 (by omega)) (by omega)) (fun W' hk9=>?_)
     have hrb:=ringP_bad hx hrp hno hno0
     rw[hln] at hrb
     refine⟨no,ln,S,L,.inr (.inr ⟨by rw[HNL.out];exact HB.out.1,by rw[hrd],by rw[hrd],HLL.out.1,HLL.out.2.1,by rw[HLL.out.2.2.2.1,hrb],by rw[HLL.out.2.2.2.1,hrb];rfl⟩),?_,.inr ⟨hno0,rfl⟩⟩
     have k2:Keep (fun b=>b=w.heap.size∨b=w.heap.size+1) V3 ((V3.setCell ⟨w.heap.size,0,none⟩ (.pointer none)).setCell ⟨w.heap.size+1,0,none⟩ (errP no ln)) :=
      Keep.setCell (X:=fun b=>b=w.heap.size∨b=w.heap.size+1) (p:=⟨w.heap.size+1,0,none⟩) (Keep.setCell (X:=fun b=>b=w.heap.size∨b=w.heap.size+1) (p:=⟨w.heap.size,0,none⟩) (Keep.refl _ _) (.inl rfl) _) (.inr rfl) _
     exact (hb3.trans (k2.below hb3.size (fun b h=>by omega))).trans (hk9.below (by have:=hb3.size;have:=k2.size;omega) (fun b h=>by simp at h;omega))
   ·have hiN:i=N:=by omega
    subst hiN
    have HX:=Lib.hid (And.intro hR (And.intro hrp (And.intro hle (And.intro hmu hk))))
    clear hR hrp hle hmu hk
    have CPR:=Lib.hid (pprops wr HX.out.1 (show RdOk nn { S with le:=_ } from⟨HD.out.2.2.2.2.1.cs,HD.out.2.2.2.2.1.ks,HD.out.2.2.2.2.1.ds,HD.out.2.2.2.2.1.fs,HD.out.2.2.2.2.1.ls⟩) HD.out.2.2.2.2.2.1 (by have:=HD.out.2.2.2.2.2.1;omega))
    gi_wp2_with fail
    refine (callsIn_wide.2 CPR.out).mono ?_
    rintro e W7 ⟨g,L',rfl,hp',hm',hPW,hb7⟩
    have hLL:L'=L:=rise_eq hp' HLL.out.1 (fun y=>(hm' y).trans (HLL.out.2.1 y).symm)
    subst hLL
    have hPW2:=hPW.le
    have hk7:Keep (fun b=>b=R.g∨b=R.bn) W4 W7:=HX.out.2.2.2.2.trans (Keep.of_all hb7)
    have hrc7:ResC w.heap.size W7:=(HD.out.2.2.2.1.keep (X:=fun _=>False) (Keep.of_all HLL.out.2.2.2.2) (fun h=>h) (fun h=>h)).keep hk7 (fun h=>by have:=hRne.out;rcases h with h|h <;> omega) (fun h=>by have:=hRne.out;rcases h with h|h <;> omega)
    have y2:W7.cell? ⟨w.heap.size,0,none⟩=some (.pointer none):=cell_one hrc7.1
    have y3:W7.cell? ⟨w.heap.size+1,0,none⟩=some .nilIface:=cell_one hrc7.2
    have f2:W7.frozen? ⟨w.heap.size,0,none⟩=false:=frozen_one hrc7.1
    have f3:W7.frozen? ⟨w.heap.size+1,0,none⟩=false:=frozen_one hrc7.2
    have H7:=Lib.hid (And.intro hPW2 (And.intro hk7 hrc7))
    clear hp' hm' hPW hb7 hPW2 hk7 hrc7
    gi_wp2
    obtain⟨hPW2,hk7,hrc7⟩:=H7.out
    obtain⟨_,hrd,hro,hrc,hok,hlen,hbW,hDd,hD,hnn⟩:=HD.out
    have hd3:W7.heap[D]? = some (.deferred (some [])):=hk7.heap ((HLL.out.2.2.2.2.block D (Array.getElem?_eq_some_iff.1 hDd).1).trans hDd) (fun h=>by have:=hRne.out;rcases h with h|h <;> omega)
    have hb3:Below w.heap.size w W7:=(hbW.trans (HLL.out.2.2.2.2.mono hbW.size)).trans (hk7.below (by have:=hbW.size;have:=HLL.out.2.2.2.2.size;omega) (fun b h=>by have:=hRne.out;rcases h with h|h <;> omega))
    refine ends_at (Ds:=[D]) (by simp) rfl rfl (set_old (set_at hrc7.1) (by omega)) (set_at (set_old hrc7.2 (by omega))) (fun D' h=>by simp at h;subst h;exact set_old (set_old hd3 (by omega)) (by omega)) (fun W' hk9=>?_)
    have ht:L'.take i=L':=by rw[←HLL.out.2.2.2.1];exact List.take_length
    have hrb:=HX.out.2.1
    rw[ht] at hrb
    have k2:Keep (fun b=>b=w.heap.size∨b=w.heap.size+1∨b=D) W7 ((W7.setCell ⟨w.heap.size,0,none⟩ (.pointer (some ⟨g,0,none⟩))).setCell ⟨w.heap.size+1,0,none⟩ .nilIface) :=
     Keep.setCell (X:=fun b=>b=w.heap.size∨b=w.heap.size+1∨b=D) (p:=⟨w.heap.size+1,0,none⟩) (Keep.setCell (X:=fun b=>b=w.heap.size∨b=w.heap.size+1∨b=D) (p:=⟨w.heap.size,0,none⟩) (Keep.refl _ _) (.inl rfl) _) (.inr (.inl rfl)) _
    have k3:=k2.trans (hk9.weaken (fun b _ h=>by simp at h;exact .inr (.inr h)))
    have hrl:(ringP S (i+1) L' fun _=>none).2=(ringP S (i+1) L' fun _=>none).2:=rfl
    refine⟨0,(ringP S (L'.length+1) L' fun _=>none).2,S,L',.inr (.inr ⟨by rw[HNL.out];exact HB.out.1,by rw[hrd],by rw[hrd],HLL.out.1,HLL.out.2.1,by rw[HLL.out.2.2.2.1];exact hrb.symm,rfl⟩),hb3.trans (k3.below hb3.size (fun b h=>by omega)),.inl ⟨rfl,g,rfl,hPW2.alien k3 (fun b hb=>?_)⟩⟩
    rcases hb with rfl|rfl|rfl
    ·exact alien_one hrc7.1 (by decide) (fun _ _ h=>by cases h)
    ·exact alien_one hrc7.2 (by decide) (fun _ _ h=>by cases h)
    ·exact alien_def hd3
end Go.Proofs.YtgpbaeehajkebaaGreatDoor
namespace Go.Proofs.YtgpbaeehajkebaaGreatDoor
open Go Go.RowKit Go.Kt Go.Kt.Rg Go.Maps
def PrOk (g:Nat) (l:List UInt8) (S:RdS) (L:List Nat) (w:World):Prop:=ParseR l 0 (ringP S (L.length+1) L fun _=>none).2 S L∧PrW g S (mdOf S L) w
theorem ParseR.ok {l:List UInt8} {line:Nat} {S:RdS} {L:List Nat} (h:ParseR l 0 line S L):S=(readP 0 rd0 (linesP l)).2.2∧(readP 0 rd0 (linesP l)).1=0∧RdOk 65536 S∧L.Pairwise (· < ·)∧(∀x,x∈L↔(S.ds x).isSome=true):=by
 rcases h with ⟨_,h,_⟩|⟨_,h1,h2,_⟩|⟨h0,h1,h2,h3,h4,_⟩
 ·cases h
 ·exact absurd h2.symm h1
 ·refine⟨h2,h1,?_,h3,h4⟩
  have:=readP_ok (linesP l) 0 0 rd0 rd0_ok h1
  rw[←h2,Nat.zero_add,linesP_len] at this
  exact this.mono (Nat.le_of_not_lt fun h=>h0 (.inr h))
def fileW:List UInt8:=[99,108,97,115,115,32,48,51,48,48,32,50,51,48,10,107,105,110,100,32,48,48,52,49,32,108,101,116,116,101,114,10,102,111,108,100,32,48,48,52,49,32,48,48,54,49,10,100,101,99,111,109,112,32,48,48,67,48,32,48,48,52,49,32,48,51,48,48]
def rdW:RdS:=⟨[(768,768,230)],[(65,65,1)],updN (fun _=>none) 192 [65,768],updN (fun _=>none) 65 [97],updN (fun _=>none) 192 4,fun _=>none⟩
end Go.Proofs.YtgpbaeehajkebaaGreatDoor
namespace Go.Proofs.YtgpbaeehajkebaaGreatDoor
open Go Go.RowKit Go.Kt Go.Kt.Rg Go.Maps
theorem lastV_append (l m:List Rw3) (e:Nat):lastV (l++m) e=match lastV m e with|some v=>some v|none=>lastV l e:=by
 induction l with
 | nil=>cases h:lastV m e <;> simp[lastV,h]
 | cons x t ih =>
   rw[List.cons_append,lastV,ih]
   cases h:lastV m e with
   | some v=>rfl
   | none=>simp only[lastV]
theorem clsV_han (S:RdS) {a:Int} (h:hanP a=true):clsV S a=0:=by
 have h0:4352≤a∧a<55204∧((44032≤a∧a<55204)∨(4352≤a∧a<4371)∨(4449≤a∧a<4470)∨(4520≤a∧a<4547)):=by
  simp[hanP,sylP,leadP,vowP,tailP] at h
  omega
 unfold clsV
 rw[if_neg (by omega)]
 obtain⟨e,he⟩:∃e:Nat,a=(e:Int):=⟨a.toNat,by omega⟩
 subst he
 rw[Int.toNat_natCast,lastV_append]
 have hn:lastV noR e=none:=lastV_none.2 (by intro x hx;simp[noR] at hx;subst hx;simp[holdsR];omega)
 rw[hn]
 simp only
 rw[lastV_append]
 have hh:lastV hanR e=some 0:=by
  simp only[hanR,lastV,holdsR]
  by_cases c4:4520≤e∧e≤4546
  ·simp[c4]
  ·by_cases c3:4449≤e∧e≤4469
   ·simp[c4,c3]
   ·by_cases c2:4352≤e∧e≤4370
    ·simp[c4,c3,c2]
    ·have c1:44032≤e∧e≤55203:=by omega
     simp[c4,c3,c2,c1]
 rw[hh]
 rfl
end Go.Proofs.YtgpbaeehajkebaaGreatDoor
namespace Go.Proofs.YtgpbaeehajkebaaGreatDoor
open Go Go.RowKit Go.Kt Go.Kt.Rg Go.Maps

theorem lastV_noR {n:Nat} (h:¬(55296≤n∧n≤57343)):lastV noR n=none:=lastV_none.2 fun x hx=>by
  rw[noR,List.mem_singleton] at hx
  subst hx
  exact h
theorem lastV_sur {n:Nat} (h:55296≤n∧n≤57343):lastV noR n=some 0:=by
  unfold noR lastV lastV
  simp only
  rw[if_pos (show holdsR (55296,57343,0) n from h)]
theorem lastV_hanR {n:Nat} (h1:sylP (n:Int)=false) (h2:jamP (n:Int)=false):lastV hanR n=none:=lastV_none.2 fun x hx=>by
  rw[syl_iff] at h1
  rw[jam_iff] at h2
  simp only[decide_eq_false_iff_not] at h1 h2
  simp only[hanR,List.mem_cons,List.not_mem_nil,or_false] at hx
  unfold holdsR
  rcases hx with rfl|rfl|rfl|rfl <;> (simp only;omega)
theorem lastV_high {k:Nat} {l:List Rw3} (hl:∀r∈l,r.1≤r.2.1∧r.2.1≤1114111) (hk:1114111<k):lastV l k=none:=lastV_none.2 fun x hx=>by
  have:=hl x hx
  unfold holdsR
  omega
theorem bad_cases {r:Int} (h:Lib.validRune r=false):r<0∨(55296≤r∧r≤57343)∨1114111<r:=by
  simp[Lib.validRune] at h
  omega
theorem good_cases {r:Int} (h:Lib.validRune r=true):0≤r∧¬(55296≤r∧r≤57343)∧r≤1114111:=by
  simp[Lib.validRune] at h
  omega
theorem xcls_eq {k:Nat} {S:RdS} (hS:RdOk k S) (r:Int):xclsV S.cs r=clsV S r:=by
  unfold xclsV
  cases hv:Lib.validRune r with
  | false =>
    rw[if_pos (.inl rfl)]
    unfold clsV
    rcases bad_cases hv with h|h|h
    · rw[if_pos h]
    · rw[if_neg (by omega),lastV_append,lastV_sur (by omega)];rfl
    · rw[if_neg (by omega),lastV_append,lastV_noR (by omega)]
      simp only
      rw[lastV_append,lastV_hanR (by rw[syl_iff];simp;omega) (by rw[jam_iff];simp;omega)]
      simp only
      rw[lastV_high hS.cs.2 (by omega)];rfl
  | true =>
    obtain⟨g1,g2,g3⟩:=good_cases hv
    cases h1:sylP r with
    | true =>
      rw[if_pos (.inr (.inl rfl)),clsV_han S (by rw[han_two,h1];rfl)]
    | false =>
      cases h2:jamP r with
      | true=>rw[if_pos (.inr (.inr rfl)),clsV_han S (by rw[han_two,h1,h2];rfl)]
      | false =>
        rw[if_neg (by simp)]
        obtain⟨n,rfl⟩:∃n:Nat,r=(n:Int):=⟨r.toNat,by omega⟩
        unfold clsV
        rw[if_neg (by omega),Int.toNat_natCast,lastV_append,lastV_noR (by omega)]
        simp only
        rw[lastV_append,lastV_hanR h1 h2]
        simp only
        rw[lastZ_nat]
theorem xknd_eq {k:Nat} {S:RdS} (hS:RdOk k S) (r:Int):xkndV S.ks r=kndV S r:=by
  unfold xkndV
  cases hv:Lib.validRune r with
  | false =>
    rw[if_pos rfl]
    unfold kndV
    rcases bad_cases hv with h|h|h
    · rw[if_pos h]
    · rw[if_neg (by omega),lastV_append,lastV_sur (by omega)];rfl
    · have e:lastV sylR r.toNat=none:=lastV_none.2 fun x hx=>by
        rw[sylR,List.mem_singleton] at hx
        subst hx
        unfold holdsR
        simp only
        omega
      rw[if_neg (by omega),lastV_append,lastV_noR (by omega)]
      simp only
      rw[lastV_append,lastV_high hS.ks.2 (by omega)]
      simp only
      rw[e];rfl
  | true =>
    obtain⟨g1,g2,g3⟩:=good_cases hv
    rw[if_neg (by simp)]
    obtain⟨n,rfl⟩:∃n:Nat,r=(n:Int):=⟨r.toNat,by omega⟩
    unfold kndV
    rw[if_neg (show ¬((n:Int)<0) by omega),Int.toNat_natCast,lastV_append,lastV_noR (by omega)]
    simp only
    rw[lastV_append,lastZ_nat]
    cases lastV S.ks n with
    | some v=>simp
    | none =>
      simp only[Option.getD_none]
      cases h1:sylP (n:Int) with
      | true =>
        rw[syl_iff] at h1
        have h1:=of_decide_eq_true h1
        unfold sylR lastV lastV
        simp only
        rw[if_pos (show holdsR (44032,55203,1) n from⟨by simp only;omega,by simp only;omega⟩)]
        rfl
      | false =>
        rw[syl_iff] at h1
        have h1:=of_decide_eq_false h1
        have e:lastV sylR n=none:=lastV_none.2 fun x hx=>by
          rw[sylR,List.mem_singleton] at hx
          subst hx
          unfold holdsR
          simp only
          omega
        rw[e];rfl
end Go.Proofs.YtgpbaeehajkebaaGreatDoor
namespace Go.Proofs.YtgpbaeehajkebaaGreatDoor
open Go Go.RowKit Go.Kt Go.Kt.Rg Go.Maps
/-! ### What is taken holds no CR -/
theorem dropw_nil {p:UInt8→Bool}:∀ {l:List UInt8},l.dropWhile p=[]→∀x∈l,p x=true
 | [],_,_,h=>by cases h
 | b::t,h,x,hx=>by
   rw[List.dropWhile_cons] at h
   by_cases hb:p b=true
   ·rw[if_pos hb] at h
    rcases List.mem_cons.1 hx with rfl|hx
    ·exact hb
    ·exact dropw_nil h x hx
   ·rw[if_neg hb] at h;cases h
theorem dropw_head {p:UInt8→Bool} {x:UInt8} {t:List UInt8}:∀ {l:List UInt8},l.dropWhile p=x::t→p x=false
 | [],h=>by cases h
 | b::u,h=>by
   rw[List.dropWhile_cons] at h
   by_cases hb:p b=true
   ·rw[if_pos hb] at h
    exact dropw_head h
   ·rw[if_neg hb] at h
    injection h with h1 _
    subst h1
    simpa using hb
/-! ### What words come to, whatever the lines' numbers -/
def RdE (S T:RdS):Prop:=S.cs=T.cs∧S.ks=T.ks∧S.ds=T.ds∧S.fs=T.fs
def accW:RdS→List (List (List UInt8))→Option RdS
 | S,[]=>some S
 | S,w::t=>if (takeP 1 S w).1≠0 then none else accW (takeP 1 S w).2 t
def AlkR (S T:RdS) (L:List Nat) (r:Int):Prop:=clsV S r=clsV T r∧kndV S r=kndV T r∧dcpV S r=dcpV T r∧fldV S r=fldV T r∧∀b,cmpV (mdOf S L) r b=cmpV (mdOf T L) r b
end Go.Proofs.YtgpbaeehajkebaaGreatDoor
namespace Go.Proofs.YtgpbaeehajkebaaGreatDoor
open Go Go.RowKit Go.Kt Go.Kt.Rg Go.Maps

structure XdS where
  cs:List (Nat × Nat × Int)
  ks:List (Nat × Nat × Int)
  fl:List Ln3
  dl:List Ln3
def fdL (l:List Ln3) (x:Nat):Option Ln3:=l.find? fun y=>y.1==x
theorem fdL_snoc (l:List Ln3) (y:Ln3) (x:Nat):fdL (l++[y]) x=match fdL l x with
    | some z=>some z
    | none=>if y.1=x then some y else none:=by
  unfold fdL
  rw[List.find?_append]
  cases l.find? fun y=>y.1==x with
  | some z=>rfl
  | none =>
    simp only[Option.none_or,List.find?_cons,List.find?_nil]
    by_cases h:y.1=x
    · rw[if_pos h];simp[h]
    · rw[if_neg h]
      have:(y.1==x)=false:=by simpa using h
      rw[this]
theorem fdL_put {A:Type} (f:Ln3→A) (l:List Ln3) (y:Ln3) (h:fdL l y.1=none) (x:Nat):(fdL (l++[y]) x).map f=updN (fun x=>(fdL l x).map f) y.1 (f y) x:=by
  rw[fdL_snoc]
  unfold updN
  by_cases e:x=y.1
  · subst e
    rw[h,if_pos rfl];simp
  · rw[if_neg e]
    cases hl:fdL l x with
    | some z=>simp only[hl]
    | none =>
      simp only[hl]
      rw[if_neg (fun h=>e h.symm)]
theorem spk_fd (l:List Ln3) (x:Nat):spkL l (x:Int)=(fdL l x).isSome:=by
  induction l with
  | nil=>rfl
  | cons y t ih =>
    unfold spkL fdL at ih ⊢
    rw[List.any_cons,List.find?_cons,ih]
    by_cases h:y.1=x
    · subst h;simp
    · have h1:((y.1:Int)==(x:Int))=false:=by rw[beq_eq_false_iff_ne];omega
      have h2:(y.1==x)=false:=by simpa using h
      rw[h1,h2];rfl
theorem of_fd (l:List Ln3) (r:Int):ofL l r=atZ (fun x=>(fdL l x).map (·.2.1)) r:=by
  unfold atZ
  by_cases h0:0≤r
  · rw[if_pos h0]
    obtain⟨n,rfl⟩:∃n:Nat,r=(n:Int):=⟨r.toNat,by omega⟩
    rw[Int.toNat_natCast]
    induction l with
    | nil=>rfl
    | cons y t ih =>
      rw[ofL_cons,ih]
      unfold fdL
      simp only[List.find?_cons]
      by_cases h:y.1=n
      · subst h;simp
      · have h2:(y.1==n)=false:=by simpa using h
        rw[if_neg (by omega),h2]
  · rw[if_neg h0]
    induction l with
    | nil=>rfl
    | cons y t ih=>rw[ofL_cons,ih,if_neg (by omega)]
structure XRel (X:XdS) (S:RdS):Prop where
  cs:S.cs=X.cs
  ks:S.ks=X.ks
  fs:S.fs=fun x=>(fdL X.fl x).map (·.2.1)
  ds:S.ds=fun x=>(fdL X.dl x).map (·.2.1)
  ls:S.ls=fun x=>(fdL X.dl x).map (·.2.2)
  nd:(X.dl.map (·.1)).Nodup
theorem xrel0:XRel ⟨[],[],[],[]⟩ rd0:=⟨rfl,rfl,rfl,rfl,rfl,List.nodup_nil⟩
theorem fd_mem {l:List Ln3} (hn:(l.map (·.1)).Nodup) {y:Ln3} (hy:y∈l):fdL l y.1=some y:=by
  induction l with
  | nil=>cases hy
  | cons z t ih =>
    unfold fdL at ih ⊢
    rw[List.map_cons,List.nodup_cons] at hn
    rw[List.find?_cons]
    rcases List.mem_cons.1 hy with rfl|hy
    · simp
    · have:(z.1==y.1)=false:=by
        rw[beq_eq_false_iff_ne]
        intro e
        exact hn.1 (by rw[e];exact List.mem_map_of_mem hy)
      rw[this]
      exact ih hn.2 hy
theorem fd_some {l:List Ln3} {x:Nat} {y:Ln3} (h:fdL l x=some y):y∈l∧y.1=x:=by
  unfold fdL at h
  exact⟨List.mem_of_find?_eq_some h,by simpa using List.find?_some h⟩
variable {X:XdS} {S:RdS}
theorem XRel.dcp (h:XRel X S) (r:Int):(ofL X.dl r).getD []=(atZ S.ds r).getD []:=by rw[of_fd,h.ds]
theorem XRel.fspk (h:XRel X S) (x:Nat):spkL X.fl (x:Int)=(S.fs x).isSome:=by
  rw[spk_fd,h.fs];simp
theorem XRel.dspk (h:XRel X S) (x:Nat):spkL X.dl (x:Int)=(S.ds x).isSome:=by
  rw[spk_fd,h.ds];simp
theorem XRel.cls (h:XRel X S) (r:Nat × Nat × Int):XRel { X with cs:=X.cs++[r] } { S with cs:=S.cs++[r] }:=⟨by simp only[h.cs],h.ks,h.fs,h.ds,h.ls,h.nd⟩
theorem XRel.knd (h:XRel X S) (r:Nat × Nat × Int):XRel { X with ks:=X.ks++[r] } { S with ks:=S.ks++[r] }:=⟨h.cs,by simp only[h.ks],h.fs,h.ds,h.ls,h.nd⟩
theorem XRel.fold (h:XRel X S) {x:Nat} (hx:(S.fs x).isSome=false) (u:List Nat) (at_:Nat):XRel { X with fl:=X.fl++[(x,u,at_)] } { S with fs:=updN S.fs x u }:=by
  refine⟨h.cs,h.ks,?_,h.ds,h.ls,h.nd⟩
  have h0:fdL X.fl x=none:=by rw[h.fs] at hx;simpa using hx
  funext z
  have:=fdL_put (·.2.1) X.fl (x,u,at_) h0 z
  simp only at this ⊢
  rw[this,h.fs]
theorem XRel.dec (h:XRel X S) {x:Nat} (hx:(S.ds x).isSome=false) (u:List Nat) (at_:Nat):XRel { X with dl:=X.dl++[(x,u,at_)] } { S with ds:=updN S.ds x u,ls:=updN S.ls x at_ }:=by
  have h0:fdL X.dl x=none:=by rw[h.ds] at hx;simpa using hx
  refine⟨h.cs,h.ks,h.fs,?_,?_,?_⟩
  · funext z
    have:=fdL_put (·.2.1) X.dl (x,u,at_) h0 z
    simp only at this ⊢
    rw[this,h.ds]
  · funext z
    have:=fdL_put (·.2.2) X.dl (x,u,at_) h0 z
    simp only at this ⊢
    rw[this,h.ls]
  · simp only[List.map_append,List.map_cons,List.map_nil]
    refine List.nodup_append.2 ⟨h.nd,(by simp),?_⟩
    intro a ha b hb
    rw[List.mem_singleton] at hb
    subst hb
    rintro rfl
    obtain⟨y,hy,e⟩:=List.mem_map.1 ha
    rw[←e,fd_mem h.nd hy] at h0
    cases h0
theorem XRel.mem (h:XRel X S) (x:Nat):(S.ds x).isSome=true↔∃y∈X.dl,y.1=x:=by
  rw[h.ds]
  constructor
  · intro h1
    cases hf:fdL X.dl x with
    | none=>simp only[hf] at h1;cases h1
    | some y=>exact⟨y,fd_some hf⟩
  · rintro⟨y,hy,rfl⟩
    simp only[fd_mem h.nd hy];rfl
theorem XRel.at (h:XRel X S) {y:Ln3} (hy:y∈X.dl):S.ds y.1=some y.2.1∧S.ls y.1=some y.2.2:=by
  rw[h.ds,h.ls]
  simp only
  rw[fd_mem h.nd hy]
  exact⟨rfl,rfl⟩
def LstB (ds:DsT) (l:List Ln3) (least:Int) (no line:Nat):Prop :=
  (least = -1∧no=0∧line=0∧∀y∈l,FineD ds y.1)∨∃y∈l,least=(y.1:Nat)∧BadN ds y.1 no∧line=y.2.2∧∀z∈l,(FineD ds z.1∨y.1≤z.1)
theorem lstB_nil (ds:DsT):LstB ds [] (-1) 0 0:=.inl ⟨rfl,rfl,rfl,fun y h=>by cases h⟩
theorem LstB.fine {ds:DsT} {l:List Ln3} {least:Int} {no line:Nat} {x:Ln3} (h:LstB ds l least no line) (hx:FineD ds x.1):LstB ds (l++[x]) least no line:=by
  rcases h with ⟨h1,h2,h3,h4⟩|⟨y,h1,h2,h3,h4,h5⟩
  · refine .inl ⟨h1,h2,h3,fun y hy=>?_⟩
    rcases List.mem_append.1 hy with hy|hy
    · exact h4 y hy
    · rw[List.mem_singleton.1 hy];exact hx
  · refine .inr ⟨y,List.mem_append_left _ h1,h2,h3,h4,fun z hz=>?_⟩
    rcases List.mem_append.1 hz with hz|hz
    · exact h5 z hz
    · rw[List.mem_singleton.1 hz];exact .inl hx
theorem LstB.far {ds:DsT} {l:List Ln3} {least:Int} {no line:Nat} {x:Ln3} (h:LstB ds l least no line) (h0:0≤least) (hx:least<(x.1:Int)):LstB ds (l++[x]) least no line:=by
  rcases h with ⟨h1,_⟩|⟨y,h1,h2,h3,h4,h5⟩
  · omega
  · refine .inr ⟨y,List.mem_append_left _ h1,h2,h3,h4,fun z hz=>?_⟩
    rcases List.mem_append.1 hz with hz|hz
    · exact h5 z hz
    · rw[List.mem_singleton.1 hz];exact .inr (by omega)
theorem LstB.new {ds:DsT} {l:List Ln3} {least:Int} {no line no':Nat} {x:Ln3} (h:LstB ds l least no line) (h0:¬(0≤least∧least<(x.1:Int))) (hx:BadN ds x.1 no'):LstB ds (l++[x]) (x.1:Nat) no' x.2.2:=by
  refine .inr ⟨x,List.mem_append_right _ (List.mem_singleton_self _),rfl,hx,rfl,fun z hz=>?_⟩
  rcases List.mem_append.1 hz with hz|hz
  · rcases h with ⟨_,_,_,h4⟩|⟨y,h1,h2,h3,h4,h5⟩
    · exact .inl (h4 z hz)
    · rcases h5 z hz with h|h
      · exact .inl h
      · exact .inr (by omega)
  · rw[List.mem_singleton.1 hz];exact .inr (Nat.le_refl _)
theorem lst_ring (h:XRel X S) {L:List Nat} (hp:L.Pairwise (· < ·)) (hm:∀x,x∈L↔(S.ds x).isSome=true) {least:Int} {no line:Nat} (hl:LstB S.ds X.dl least no line) :
    ringP S (L.length+1) L (fun _=>none)=(no,line)∧(least = -1↔no=0)∧-1≤least:=by
  rcases ringP_spec S L (L.length+1) (fun y hy=>(hm y).2 hy) (Nat.lt_succ_self _) L _ (leInv_none _) leOk_none with ⟨q1,q2⟩|⟨a,x,b,k,rfl,q2,q3,q4⟩
  · rcases hl with ⟨h1,h2,h3,_⟩|⟨y,h1,h2,h3,_⟩
    · rw[q1,h1,h2,h3];exact⟨rfl,by simp,by omega⟩
    · exact absurd (q2 _ ((hm _).2 ((h.mem _).2 ⟨y,h1,rfl⟩))) h3.not
  · obtain⟨y,hy,rfl⟩:=(h.mem _).1 ((hm x).1 (by simp))
    rcases hl with ⟨_,_,_,h4⟩|⟨z,h1,h2,h3,h4,h5⟩
    · exact absurd (h4 y hy) q3.not
    · have hz:z.1=y.1:=by
        have hzL:=(hm z.1).2 ((h.mem _).2 ⟨z,h1,rfl⟩)
        rcases List.mem_append.1 hzL with hza|hza
        · exact absurd (q2 _ hza) h3.not
        · rcases List.mem_cons.1 hza with e|hzb
          · exact e
          · have:=(List.pairwise_append.1 hp).2.1
            have h6:=(List.pairwise_cons.1 this).1 _ hzb
            rcases h5 y hy with h7|h7
            · exact absurd h7 q3.not
            · omega
      have e1:=(h.at h1).2
      rw[hz] at h3 e1
      rw[q4,e1,h4,q3.uniq h3]
      exact⟨rfl,by have:=h3.ne;omega,by omega⟩
def allD (S:RdS):List Nat:=(List.range 1114112).filter fun x=>(S.ds x).isSome
theorem allD_rise (S:RdS):(allD S).Pairwise (· < ·):=List.Pairwise.filter _ List.pairwise_lt_range
theorem allD_mem {k:Nat} (hS:RdOk k S) (x:Nat):x∈allD S↔(S.ds x).isSome=true:=by
  unfold allD
  rw[List.mem_filter,List.mem_range]
  refine⟨fun h=>h.2,fun h=>⟨?_,h⟩⟩
  cases hd:S.ds x with
  | none=>rw[hd] at h;cases h
  | some l =>
    have:=(hS.ds x l hd).1.1
    have:=valid_le this
    omega
theorem ParseR.uniq {l:List UInt8} {a b la lb:Nat} {S T:RdS} {L M:List Nat} (h:ParseR l a la S L) (h2:ParseR l b lb T M):a=b∧la=lb∧(a=0→S=T∧L=M):=by
  rcases h with ⟨h0,h1,h3⟩|⟨h0,h1,h3,h4⟩|⟨h0,h1,h3,h4,h5,h6,h7⟩ <;> rcases h2 with ⟨k0,k1,k3⟩|⟨k0,k1,k3,k4⟩|⟨k0,k1,k3,k4,k5,k6,k7⟩
  · exact⟨by omega,by omega,fun e=>by omega⟩
  · exact absurd h0 k0
  · exact absurd h0 k0
  · exact absurd k0 h0
  · exact⟨by omega,by omega,fun e=>absurd (h3.symm.trans e) h1⟩
  · exact absurd k1 h1
  · exact absurd k0 h0
  · exact absurd h1 k1
  · have hS:S=T:=h3.trans k3.symm
    subst hS
    have hL:L=M:=rise_eq h4 k4 (fun x=>(h5 x).trans (k5 x).symm)
    subst hL
    exact⟨h6.trans k6.symm,h7.trans k7.symm,fun _=>⟨rfl,rfl⟩⟩
end Go.Proofs.YtgpbaeehajkebaaGreatDoor
namespace Go.Proofs.YtgpbaeehajkebaaGreatDoor
open Go Go.RowKit Go.Kt Go.Kt.Rg Go.Maps
def rfE (l:List (Nat × Nat × Int)):List Value:=l.flatMap fun r=>[.int .i64 r.1,.int .i64 r.2.1,.int .i64 r.2.2]
theorem rfE_snoc (l:List (Nat × Nat × Int)) (r:Nat × Nat × Int):rfE (l++[r])=rfE l++[.int .i64 r.1,.int .i64 r.2.1,.int .i64 r.2.2]:=by simp[rfE]
def lnE (l:List (Ln3 × Value)):List Value:=l.flatMap fun r=>[.int .i64 (r.1.1:Nat),r.2,.int .i64 (r.1.2.2:Nat)]
theorem lnE_snoc (l:List (Ln3 × Value)) (r:Ln3 × Value):lnE (l++[r])=lnE l++[.int .i64 (r.1.1:Nat),r.2,.int .i64 (r.1.2.2:Nat)]:=by simp[lnE]
theorem rfE_at {l:List (Nat × Nat × Int)} {i:Nat} {r:Nat × Nat × Int} (h:l[i]? = some r):(rfE l)[i*3]? = some (.int .i64 r.1)∧(rfE l)[i*3+1]? = some (.int .i64 r.2.1)∧(rfE l)[i*3+2]? = some (.int .i64 r.2.2):=by
 induction l generalizing i with
 | nil=>simp at h
 | cons x t ih =>
   unfold rfE
   rw[List.flatMap_cons]
   cases i with
   | zero=>simp at h;subst h;exact⟨rfl,rfl,rfl⟩
   | succ i =>
     have:=ih (i:=i) (by simpa using h)
     rw[show (i+1)*3=i*3+3 by omega]
     exact this
theorem lnE_at {l:List (Ln3 × Value)} {i:Nat} {r:Ln3 × Value} (h:l[i]? = some r):(lnE l)[i*3]? = some (.int .i64 (r.1.1:Nat))∧(lnE l)[i*3+1]? = some r.2∧(lnE l)[i*3+2]? = some (.int .i64 (r.1.2.2:Nat)):=by
 induction l generalizing i with
 | nil=>simp at h
 | cons x t ih =>
   unfold lnE
   rw[List.flatMap_cons]
   cases i with
   | zero=>simp at h;subst h;exact⟨rfl,rfl,rfl⟩
   | succ i =>
     have:=ih (i:=i) (by simpa using h)
     rw[show (i+1)*3=i*3+3 by omega]
     exact this
def ToV (ρ:Nat→Nat) (v:Value) (l:List Nat) (w:World):Prop :=
 ∃ao cap,v = .slice ao l.length cap∧(l=[]∨∃b,ao=some ⟨b,0,none⟩∧ρ b=0∧b<w.heap.size∧∀(i:Nat) (x:Nat),l[i]? = some x→w.cell? ⟨b,i,none⟩=some (.int .i32 (x:Nat)))
theorem ToV.keep {ρ:Nat→Nat} {v:Value} {l:List Nat} {X:Nat→Prop} {A B:World} (h:ToV ρ v l A) (hk:Keep X A B) (hX:∀b,X b→ρ b≠0):ToV ρ v l B:=by
 obtain⟨ao,cap,rfl,h⟩:=h
 refine⟨ao,cap,rfl,?_⟩
 rcases h with h|⟨b,h1,h2,h3,h4⟩
 ·exact .inl h
 ·exact .inr ⟨b,h1,h2,Nat.lt_of_lt_of_le h3 hk.size,fun i x hx=>hk.cell (h4 i x hx) (fun e=>hX _ e h2)⟩
theorem ToV.role {ρ ρ':Nat→Nat} {v:Value} {l:List Nat} {w:World} (h:ToV ρ v l w) (e:∀b,b<w.heap.size→ρ' b=ρ b):ToV ρ' v l w:=by
 obtain⟨ao,cap,rfl,h⟩:=h
 refine⟨ao,cap,rfl,?_⟩
 rcases h with h|⟨b,h1,h2,h3,h4⟩
 ·exact .inl h
 ·exact .inr ⟨b,h1,(e b h3).trans h2,h3,h4⟩
theorem ToV.sl {ρ:Nat→Nat} {v:Value} {l:List Nat} {w:World} (h:ToV ρ v l w):Sl .i32 w v (toZ l):=by
 obtain⟨ao,cap,rfl,h⟩:=h
 rw[←toZ_len l]
 refine⟨ao,cap,rfl,?_⟩
 rcases h with h|⟨b,h1,h2,h3,h4⟩
 ·exact .inl (by rw[h];rfl)
 ·refine .inr ⟨b,0,h1,fun i x hx=>?_⟩
  rw[Nat.zero_add]
  unfold toZ at hx
  rw[List.getElem?_map] at hx
  cases hl:l[i]? with
  | none=>rw[hl] at hx;cases hx
  | some y =>
    rw[hl] at hx
    have:=h4 i y hl
    rw[this]
    exact congrArg some (by rw[←Option.some.inj hx])
def LnO (ρ:Nat→Nat) (k:Nat) (v:Value) (l:List Ln3) (w:World):Prop :=
 ∃z:List (Ln3 × Value),z.map (·.1)=l∧OwnS (fun b=>ρ b=k) 91 3 v l.length (lnE z) w∧∀p∈z,ToV ρ p.2 p.1.2.1 w
theorem LnO.keep {ρ:Nat→Nat} {k:Nat} {v:Value} {l:List Ln3} {X:Nat→Prop} {A B:World} (h:LnO ρ k v l A) (hk:Keep X A B) (hX:∀b,X b→ρ b≠k∧ρ b≠0):LnO ρ k v l B:=by
 obtain⟨z,h1,h2,h3⟩:=h
 exact⟨z,h1,h2.keep hk (fun b hb=>(hX b hb).1),fun p hp=>(h3 p hp).keep hk (fun b hb=>(hX b hb).2)⟩
theorem LnO.role {ρ ρ':Nat→Nat} {k:Nat} {v:Value} {l:List Ln3} {w:World} (h:LnO ρ k v l w) (e:∀b,b<w.heap.size→ρ' b=ρ b):LnO ρ' k v l w:=by
 obtain⟨z,h1,h2,h3⟩:=h
 exact⟨z,h1,own_role h2 e,fun p hp=>(h3 p hp).role e⟩
theorem rf_of {Y:Nat→Prop} {v:Value} {l:List (Nat × Nat × Int)} {w:World} (h:OwnS Y 135 3 v l.length (rfE l) w):RfW w v l:=by
 rcases h.shape with ⟨h1,h0⟩|⟨g,cap,h1,_⟩
 ·exact⟨none,0,by rw[h1,h0],.inl (List.length_eq_zero_iff.1 h0)⟩
 ·subst h1
  exact⟨_,cap,rfl,.inr ⟨g,rfl,fun i r hr=>⟨h.atN (rfE_at hr).1,h.atN (rfE_at hr).2.1,h.atN (rfE_at hr).2.2⟩⟩⟩
theorem LnO.lf {ρ:Nat→Nat} {k:Nat} {v:Value} {l:List Ln3} {w:World} (h:LnO ρ k v l w):LfW w v l:=by
 obtain⟨z,h1,h2,h3⟩:=h
 rcases h2.shape with ⟨e,h0⟩|⟨g,cap,e,_⟩
 ·exact⟨none,0,by rw[e,h0],.inl (List.length_eq_zero_iff.1 h0)⟩
 ·subst e
  refine⟨_,cap,rfl,.inr ⟨g,rfl,fun i r hr=>?_⟩⟩
  obtain⟨p,hp,rfl⟩:∃p,z[i]? = some p∧p.1=r:=by
   rw[←h1,List.getElem?_map] at hr
   cases hz:z[i]? with
   | none=>rw[hz] at hr;cases hr
   | some p=>rw[hz] at hr;exact⟨p,rfl,Option.some.inj hr⟩
  obtain⟨q1,q2,q3⟩:=lnE_at hp
  exact⟨h2.atN q1,⟨p.2,h2.atN q2,(h3 p (List.mem_of_getElem? hp)).sl⟩,h2.atN q3⟩
structure PxW (B0:Nat) (ρ:Nat→Nat) (g:Nat) (X:XdS) (cv kv fv dv:Value) (w:World):Prop where
 hr:∀b,ρ b≠0→B0≤b
 hB:B0≤w.heap.size
 rg:ρ g=1
 cell:w.heap[g]? = some (.cells #[cv,kv,fv,dv] 85 (0,0))
 c:OwnS (fun b=>ρ b=2) 135 3 cv X.cs.length (rfE X.cs) w
 k:OwnS (fun b=>ρ b=3) 135 3 kv X.ks.length (rfE X.ks) w
 f:LnO ρ 4 fv X.fl w
 d:LnO ρ 5 dv X.dl w
variable {B0 g:Nat} {ρ:Nat→Nat} {X:XdS} {cv kv fv dv:Value} {w w':World}
theorem PxW.gl (h:PxW B0 ρ g X cv kv fv dv w):g<w.heap.size:=(Array.getElem?_eq_some_iff.1 h.cell).1
theorem PxW.role {ρ':Nat→Nat} (h:PxW B0 ρ g X cv kv fv dv w) (e:∀b,b<w.heap.size→ρ' b=ρ b) (h0:∀b,w.heap.size≤b→ρ' b≠0→B0≤b):PxW B0 ρ' g X cv kv fv dv w where
 hr b hb:=by
  by_cases h1:b<w.heap.size
  ·exact h.hr b (by rw[←e b h1];exact hb)
  ·exact h0 b (by omega) hb
 hB:=h.hB
 rg:=(e _ h.gl).trans h.rg
 cell:=h.cell
 c:=own_role h.c e
 k:=own_role h.k e
 f:=h.f.role e
 d:=h.d.role e
theorem PxW.role_more (h:PxW B0 ρ g X cv kv fv dv w) (k:Nat):PxW B0 (moreR w ρ k) g X cv kv fv dv w :=
 h.role (fun b hb=>moreR_old b hb) (fun _ hb _=>Nat.le_trans h.hB hb)
theorem PxW.below (h:PxW B0 ρ g X cv kv fv dv w) (hb:Below w.heap.size w w'):PxW B0 ρ g X cv kv fv dv w' where
 hr:=h.hr
 hB:=Nat.le_trans h.hB hb.size
 rg:=h.rg
 cell:=(hb.block g h.gl).trans h.cell
 c:=h.c.keep (X:=fun _=>False) (Keep.of_all hb) (fun _ h=>h.elim)
 k:=h.k.keep (X:=fun _=>False) (Keep.of_all hb) (fun _ h=>h.elim)
 f:=h.f.keep (X:=fun _=>False) (Keep.of_all hb) (fun _ h=>h.elim)
 d:=h.d.keep (X:=fun _=>False) (Keep.of_all hb) (fun _ h=>h.elim)
theorem PxW.rp (h:PxW B0 ρ g X cv kv fv dv w):RpW g X.cs X.ks fv dv w:=⟨cv,kv,h.cell,rf_of h.c,rf_of h.k⟩
theorem PxW.newc (h:PxW B0 ρ g X cv kv fv dv w) {v':Value} {l':List (Nat × Nat × Int)} (hk:Keep (fun b=>b=g∨cv.ownBlock=some b) w w') (hc:w'.heap[g]? = some (.cells #[v',kv,fv,dv] 85 (0,0)))
 (ho:OwnS (fun b=>(cv.ownBlock=some b∨w.heap.size≤b)∧b≠g) 135 3 v' l'.length (rfE l') w'):PxW B0 (moreR w ρ 2) g { X with cs:=l' } v' kv fv dv w':=by
 have H:=h.role_more 2
 have hX:∀b,(b=g∨cv.ownBlock=some b)→moreR w ρ 2 b=1∨moreR w ρ 2 b=2:=fun b hb=>by
  rcases hb with rfl|hb
  ·exact .inl H.rg
  ·exact .inr (H.c.2 b hb)
 exact {
  hr:=H.hr,hB:=Nat.le_trans h.hB hk.size,rg:=H.rg,cell:=hc
  c:=ho.weaken (fun b hb=>by
   rcases hb.1 with h1|h1
   ·exact H.c.2 b h1
   ·exact moreR_new b h1)
  k:=H.k.keep hk (fun b hb h3=>by have:=hX b hb;omega)
  f:=H.f.keep hk (fun b hb=>by have:=hX b hb;omega)
  d:=H.d.keep hk (fun b hb=>by have:=hX b hb;omega) }
theorem PxW.newk (h:PxW B0 ρ g X cv kv fv dv w) {v':Value} {l':List (Nat × Nat × Int)} (hk:Keep (fun b=>b=g∨kv.ownBlock=some b) w w') (hc:w'.heap[g]? = some (.cells #[cv,v',fv,dv] 85 (0,0)))
 (ho:OwnS (fun b=>(kv.ownBlock=some b∨w.heap.size≤b)∧b≠g) 135 3 v' l'.length (rfE l') w'):PxW B0 (moreR w ρ 3) g { X with ks:=l' } cv v' fv dv w':=by
 have H:=h.role_more 3
 have hX:∀b,(b=g∨kv.ownBlock=some b)→moreR w ρ 3 b=1∨moreR w ρ 3 b=3:=fun b hb=>by
  rcases hb with rfl|hb
  ·exact .inl H.rg
  ·exact .inr (H.k.2 b hb)
 exact {
  hr:=H.hr,hB:=Nat.le_trans h.hB hk.size,rg:=H.rg,cell:=hc
  k:=ho.weaken (fun b hb=>by
   rcases hb.1 with h1|h1
   ·exact H.k.2 b h1
   ·exact moreR_new b h1)
  c:=H.c.keep hk (fun b hb h3=>by have:=hX b hb;omega)
  f:=H.f.keep hk (fun b hb=>by have:=hX b hb;omega)
  d:=H.d.keep hk (fun b hb=>by have:=hX b hb;omega) }
theorem PxW.newf (h:PxW B0 ρ g X cv kv fv dv w) {v' u:Value} {x:Ln3} (z:List (Ln3 × Value)) (hz:z.map (·.1)=X.fl) (hto:∀p∈z,ToV ρ p.2 p.1.2.1 w) (hu:ToV ρ u x.2.1 w) (hk:Keep (fun b=>b=g∨fv.ownBlock=some b) w w') (hc:w'.heap[g]? = some (.cells #[cv,kv,v',dv] 85 (0,0)))
 (ho:OwnS (fun b=>(fv.ownBlock=some b∨w.heap.size≤b)∧b≠g) 91 3 v' (z.length+1) (lnE (z++[(x,u)])) w'):PxW B0 (moreR w ρ 4) g { X with fl:=X.fl++[x] } cv kv v' dv w':=by
 have H:=h.role_more 4
 have hf:∀b,fv.ownBlock=some b→moreR w ρ 4 b=4:=fun b hb=>by
  obtain⟨_,_,h2,_⟩:=H.f
  exact h2.2 b hb
 have hX:∀b,(b=g∨fv.ownBlock=some b)→moreR w ρ 4 b=1∨moreR w ρ 4 b=4:=fun b hb=>by
  rcases hb with rfl|hb
  ·exact .inl H.rg
  ·exact .inr (hf b hb)
 have hto':∀ {v:Value} {l:List Nat},ToV ρ v l w→ToV (moreR w ρ 4) v l w':=fun h1=>(h1.role (fun b hb=>moreR_old b hb)).keep hk (fun b hb=>by have:=hX b hb;omega)
 exact {
  hr:=H.hr,hB:=Nat.le_trans h.hB hk.size,rg:=H.rg,cell:=hc
  c:=H.c.keep hk (fun b hb h3=>by have:=hX b hb;omega)
  k:=H.k.keep hk (fun b hb h3=>by have:=hX b hb;omega)
  f:=⟨z++[(x,u)],by simp[hz],by
   have hl:(X.fl++[x]).length=z.length+1:=by simp[←hz]
   simp only[hl]
   exact ho.weaken (fun b hb=>by
    rcases hb.1 with h1|h1
    ·exact hf b h1
    ·exact moreR_new b h1),fun p hp=>by
    rcases List.mem_append.1 hp with hp|hp
    ·exact hto' (hto p hp)
    ·rw[List.mem_singleton] at hp
     subst hp
     exact hto' hu⟩
  d:=H.d.keep hk (fun b hb=>by have:=hX b hb;omega) }
theorem PxW.newd (h:PxW B0 ρ g X cv kv fv dv w) {v' u:Value} {x:Ln3} (z:List (Ln3 × Value)) (hz:z.map (·.1)=X.dl) (hto:∀p∈z,ToV ρ p.2 p.1.2.1 w) (hu:ToV ρ u x.2.1 w) (hk:Keep (fun b=>b=g∨dv.ownBlock=some b) w w') (hc:w'.heap[g]? = some (.cells #[cv,kv,fv,v'] 85 (0,0)))
 (ho:OwnS (fun b=>(dv.ownBlock=some b∨w.heap.size≤b)∧b≠g) 91 3 v' (z.length+1) (lnE (z++[(x,u)])) w'):PxW B0 (moreR w ρ 5) g { X with dl:=X.dl++[x] } cv kv fv v' w':=by
 have H:=h.role_more 5
 have hf:∀b,dv.ownBlock=some b→moreR w ρ 5 b=5:=fun b hb=>by
  obtain⟨_,_,h2,_⟩:=H.d
  exact h2.2 b hb
 have hX:∀b,(b=g∨dv.ownBlock=some b)→moreR w ρ 5 b=1∨moreR w ρ 5 b=5:=fun b hb=>by
  rcases hb with rfl|hb
  ·exact .inl H.rg
  ·exact .inr (hf b hb)
 have hto':∀ {v:Value} {l:List Nat},ToV ρ v l w→ToV (moreR w ρ 5) v l w':=fun h1=>(h1.role (fun b hb=>moreR_old b hb)).keep hk (fun b hb=>by have:=hX b hb;omega)
 exact {
  hr:=H.hr,hB:=Nat.le_trans h.hB hk.size,rg:=H.rg,cell:=hc
  c:=H.c.keep hk (fun b hb h3=>by have:=hX b hb;omega)
  k:=H.k.keep hk (fun b hb h3=>by have:=hX b hb;omega)
  f:=H.f.keep hk (fun b hb=>by have:=hX b hb;omega)
  d:=⟨z++[(x,u)],by simp[hz],by
   have hl:(X.dl++[x]).length=z.length+1:=by simp[←hz]
   simp only[hl]
   exact ho.weaken (fun b hb=>by
    rcases hb.1 with h1|h1
    ·exact hf b h1
    ·exact moreR_new b h1),fun p hp=>by
    rcases List.mem_append.1 hp with hp|hp
    ·exact hto' (hto p hp)
    ·rw[List.mem_singleton] at hp
     subst hp
     exact hto' hu⟩ }
def PxOut (B0 g N no:Nat) (E:RdS) (w:World) (e:Ending) (w':World):Prop :=
 e = .returned (.int .i64 (no:Nat))∧Below B0 w w'∧∃ρ X cv kv fv dv,PxW B0 ρ g X cv kv fv dv w'∧(no=0→XRel X E)∧X.fl.length≤N∧X.dl.length≤N
end Go.Proofs.YtgpbaeehajkebaaGreatDoor
namespace Go.Proofs.YtgpbaeehajkebaaGreatDoor
open Go Go.RowKit Go.Kt Go.Kt.Rg Go.Maps
def xdcpV (l:List Ln3) (r:Int):List Nat:=if sylP r then partsP (r-44032).toNat else (ofL l r).getD []
def fullD (dl:List Ln3):Nat→Nat→Option Nat
 | 0,_=>none
 | f+1,r=>if xdcpV dl (r:Int)=[] then some 1 else sumO (fullD dl f) (xdcpV dl (r:Int))
variable {X:XdS} {S:RdS} {k:Nat}
theorem sumO_ones {g:Nat→Option Nat}:∀ {l:List Nat},(∀y∈l,g y=some 1)→sumO g l=some l.length
 | [],_=>rfl
 | y::t,h=>by
   rw[sumO,h y List.mem_cons_self,sumO_ones (fun z hz=>h z (List.mem_cons_of_mem _ hz)),List.length_cons,Nat.add_comm]
theorem parts_jam {n:Nat} (hn:n<11172):∀y∈partsP n,hanP (y:Int)=true∧sylP (y:Int)=false:=by
 intro y hy
 have h:jamP (y:Int)=true:=by
  rw[jam_iff]
  unfold partsP at hy
  simp only[List.mem_append,List.mem_cons,List.not_mem_nil,or_false] at hy
  rcases hy with (rfl|rfl)|hy
  ·simp;omega
  ·simp;omega
  ·split at hy
   ·cases hy
   ·rename_i h0
    rw[List.mem_singleton] at hy
    subst hy
    simp;omega
 refine⟨by rw[han_two,h,Bool.or_true],?_⟩
 rw[jam_iff] at h
 rw[syl_iff]
 simp at h ⊢
 omega
theorem syl_rng {x:Nat} (h:sylP (x:Int)=true):44032≤x∧x-44032<11172:=by
 rw[syl_iff] at h
 simp at h
 omega
theorem XRel.of_none (h:XRel X S) (hS:RdOk k S) {x:Nat} (hx:hanP (x:Int)=true):(ofL X.dl (x:Int)).getD []=[]:=by
 rw[h.dcp,atZ_nat]
 cases hd:S.ds x with
 | none=>rfl
 | some l =>
   have:=(hS.ds x l hd).1.2
   rw[hx] at this;cases this
theorem XRel.full (h:XRel X S) (hS:RdOk k S):∀(f x n:Nat),fullN S.ds f x=some n→fullD X.dl (f+1) x=some n
 | 0,x,n,e=>by cases e
 | f+1,x,n,e=>by
   rw[fullN] at e
   rw[fullD]
   cases hs:sylP (x:Int) with
   | true =>
     rw[if_pos hs] at e
     obtain⟨h1,h2⟩:=syl_rng hs
     have hx:xdcpV X.dl (x:Int)=partsP (x-44032):=by
      unfold xdcpV
      rw[if_pos hs,show ((x:Int)-44032).toNat=x-44032 by omega]
     rw[hx,if_neg (by unfold partsP;simp),sumO_ones (fun y hy=>?_)]
     ·exact e
     ·rw[fullD,if_pos]
      unfold xdcpV
      obtain⟨q1,q2⟩:=parts_jam h2 y hy
      rw[if_neg (by rw[q2];decide)]
      exact h.of_none hS q1
   | false =>
     rw[if_neg (by rw[hs];decide)] at e
     have hx:xdcpV X.dl (x:Int)=(S.ds x).getD []:=by
      unfold xdcpV
      rw[if_neg (by rw[hs];decide),h.dcp,atZ_nat]
     rw[hx]
     cases hd:S.ds x with
     | none=>rw[hd] at e;rw[if_pos (by rfl)];exact e
     | some l =>
       rw[hd] at e
       have hl:=(hS.ds x l hd).2.1.1
       simp only[Option.getD_some]
       rw[if_neg (fun e2=>by rw[e2] at hl;simp at hl)]
       exact sumO_mono (fun y a ha=>h.full hS f y a ha) e
/-! ### Flags of what ends -/
def OkZ (dl:List Ln3) (kn:List Bool) (z:Nat):Prop:=∀(m:Nat) (x:Ln3),dl[m]? = some x→x.1=z→kn[m]? = some true
def SoundK (ds:DsT) (dl:List Ln3) (kn:List Bool):Prop:=kn.length=dl.length∧∀(i:Nat) (y:Ln3),dl[i]? = some y→kn[i]? = some true→∃n,EndA ds y.1 n
theorem soundK0 (ds:DsT) (dl:List Ln3):SoundK ds dl (List.replicate dl.length false):=⟨by simp,fun i y hy h=>by
 rw[List.getElem?_replicate] at h
 split at h <;> cases h⟩
theorem XRel.ends (h:XRel X S) (hS:RdOk k S) {kn:List Bool} (hk:SoundK S.ds X.dl kn) {i:Nat} {y:Ln3} (hy:X.dl[i]? = some y) (ha:∀z∈y.2.1,OkZ X.dl kn z):∃n,EndA S.ds y.1 n:=by
 have hd:=(h.at (List.mem_of_getElem? hy)).1
 have key:∀(l:List Nat),(∀z∈l,OkZ X.dl kn z)→∃n,EndS S.ds l n:=by
  intro l
  induction l with
  | nil=>intro _;exact⟨0,ends_nil _⟩
  | cons z t ih =>
    intro hz
    obtain⟨b,hb⟩:=ih (fun u hu=>hz u (List.mem_cons_of_mem _ hu))
    obtain⟨a,ha⟩:∃a,EndA S.ds z a:=by
     cases hs:sylP (z:Int) with
     | true=>exact⟨_,EndA.syl hs⟩
     | false =>
       cases hdz:S.ds z with
       | none=>exact⟨1,EndA.ofN hs hdz⟩
       | some l =>
         obtain⟨u,hu,rfl⟩:=(h.mem z).1 (by rw[hdz];rfl)
         obtain⟨m,hm⟩:=List.getElem?_of_mem hu
         exact hk.2 m u hm (hz u.1 List.mem_cons_self m u hm rfl)
    exact⟨a+b,EndS.cons ha hb⟩
 obtain⟨n,hn⟩:=key y.2.1 ha
 have hs:sylP (y.1:Int)=false:=by
  have:=(hS.ds _ _ hd).1.2
  rw[han_two,Bool.or_eq_false_iff] at this
  exact this.1
 exact⟨n,EndA.ofL hs hd hn⟩
theorem XRel.known (h:XRel X S) (hS:RdOk k S) {kn:List Bool} (hk:SoundK S.ds X.dl kn) (hc:∀(i:Nat) (y:Ln3),X.dl[i]? = some y→(∀z∈y.2.1,OkZ X.dl kn z)→kn[i]? = some true) {i:Nat} {y:Ln3} (hy:X.dl[i]? = some y) :
 (kn[i]? = some true∧∃n,EndA S.ds y.1 n)∨(kn[i]? = some false∧NoEnd S.ds y.1):=by
 have key:∀(f:Nat) (i:Nat) (y:Ln3) (n:Nat),X.dl[i]? = some y→fullN S.ds f y.1=some n→kn[i]? = some true:=by
  intro f
  induction f with
  | zero=>intro i y n _ e;cases e
  | succ f ih =>
    intro i y n hy e
    have hd:=(h.at (List.mem_of_getElem? hy)).1
    have hs:sylP (y.1:Int)=false:=by
     have:=(hS.ds _ _ hd).1.2
     rw[han_two,Bool.or_eq_false_iff] at this
     exact this.1
    rw[fullN,if_neg (by rw[hs];decide),hd] at e
    refine hc i y hy fun z hz m x hx ex=>?_
    obtain⟨a,ha⟩:=sumO_some e z hz
    exact ih m x a hx (by rw[ex];exact ha)
 have hl:i<kn.length:=by rw[hk.1];exact (List.getElem?_eq_some_iff.1 hy).1
 cases hb:kn[i]'hl with
 | true =>
   have hb':kn[i]? = some true:=by rw[List.getElem?_eq_getElem hl,hb]
   exact .inl ⟨hb',hk.2 i y hy hb'⟩
 | false =>
   have hb':kn[i]? = some false:=by rw[List.getElem?_eq_getElem hl,hb]
   refine .inr ⟨hb',?_⟩
   rcases end_or S.ds y.1 with h1|⟨n,f,h1⟩
   ·exact h1
   ·have:=key f i y n hy h1
    rw[hb'] at this;cases this
/-! ### The least pair -/
def LeastI (l:List Ln3) (a b:Int):Option Nat→Prop
 | none=>∀y∈l,toZ y.2.1≠[a,b]
 | some x=>(∃y∈l,y.1=x∧toZ y.2.1=[a,b])∧∀z∈l,toZ z.2.1=[a,b]→x≤z.1
end Go.Proofs.YtgpbaeehajkebaaGreatDoor
namespace Go.Proofs.YtgpbaeehajkebaaGreatDoor
open Go Go.RowKit Go.Kt Go.Kt.Rg Go.Maps
set_option maxRecDepth 100000 in
set_option maxHeartbeats 4000000 in
theorem ydecomp {g:Nat} {cs ks:List (Nat × Nat × Int)} {fv dv:Value} (l:List Ln3) (r:Int) (w:World) (hR:RpW g cs ks fv dv w) (hF:LfW w dv l) (hr:I32 r) (hn:l.length≤1000000) (hz:∀x∈l,x.2.1.length≤1048576) :
 Calls Tryz.prog 77 #[.pointer (some ⟨g,0,none⟩),.int .i32 r] w fun e w'=>∃v,e = .returned v∧Sl .i32 w' v (toZ (xdcpV l r))∧Below w.heap.size w w':=by
 have hcv:IntKind.i64.wrap r=r:=IntWalk.i64_in _ (by have:=hr.1;have:=hr.2;omega)
 have CS:=Lib.hid (ysyl r w)
 cases hs:sylP r with
 | true =>
   rw[hs] at CS
   have h2:=hs
   rw[syl_iff] at h2
   have h2:=of_decide_eq_true h2
   obtain⟨n,rfl⟩:∃n:Nat,r=44032+(n:Int):=⟨(r-44032).toNat,by omega⟩
   have hn:n<11172:=by omega
   have e1:IntKind.i32.wrap ((44032+(n:Int))-44032)=n:=by rw[IntWalk.i32_in _ (by omega)];omega
   have HV:Hid (xdcpV l (44032+(n:Int))=partsP n):=Lib.hid (by unfold xdcpV;rw[if_pos hs,show (44032+(n:Int)-44032).toNat=n by omega])
   clear hR hF hr hz hs h2
   go_enter Tryz.func77,Tryz.ntmps77
   go_wp2_with fail
   refine CS.out.mono ?_
   rintro e w1 ⟨rfl,hb1⟩
   obtain⟨W1,hW1⟩:∃W1,w1.alloc (.cells #[.int .i32 (4352+(n:Int)/588),.int .i32 (4449+(n:Int) % 588/28)] 21)=W1:=⟨_,rfl⟩
   have ho:=own_full w1 [.int .i32 (4352+(n:Int)/588),.int .i32 (4449+(n:Int) % 588/28)] 21 (by show 2≤maxLen;decide)
   have hz1:ZnO w.heap.size (.slice (some ⟨w1.heap.size,0,none⟩) 2 2) [4352+(n:Int)/588,4449+(n:Int) % 588/28] W1:=by
    rw[←hW1]
    exact OwnS.weaken ho (fun b hb=>by subst hb;exact hb1.size)
   have hbW:Below w.heap.size w W1:=by rw[←hW1];exact hb1.alloc hb1.size _
   by_cases hc:n % 28=0
   ·have HP:Hid (toZ (partsP n)=[4352+(n:Int)/588,4449+(n:Int) % 588/28]):=Lib.hid (by
    unfold partsP
    rw[if_pos hc]
    simp[toZ]
    omega)
    have q0:((n:Int) % 28!=0)=false:=by
     have:(n:Int) % 28=0:=by omega
     rw[this];rfl
    have HW:=Lib.hid (And.intro hz1 (And.intro hbW hW1))
    clear hz1 hbW hW1 ho hb1 hc
    go_wp2
    go_ret
    exact⟨_,rfl,by rw[HV.out,HP.out,HW.out.2.2];exact HW.out.1.sl,by rw[HW.out.2.2];exact HW.out.2.1⟩
   ·have HP:Hid (toZ (partsP n)=[4352+(n:Int)/588,4449+(n:Int) % 588/28]++[4519+(n:Int) % 28]):=Lib.hid (by
    unfold partsP
    rw[if_neg hc]
    simp[toZ]
    omega)
    have q0:((n:Int) % 28!=0)=true:=by
     simp only[bne_iff_ne,ne_eq]
     omega
    obtain⟨v',W',hrun,hz',hb'⟩:=hz1.app hbW.size (by simp) (4519+(n:Int) % 28)
    have HRun:=Lib.hid hrun
    have HW:=Lib.hid (And.intro hz' (hbW.trans hb'))
    clear hz1 hbW ho hb1 hc hrun hz' hb'
    go_wp2_with (first|(at_builtin;refine wpList_append_eq rfl rfl rfl rfl HRun.out ?_;clear HRun)|fail)
    go_ret
    exact⟨_,rfl,by rw[HV.out,HP.out];exact HW.out.1.sl,HW.out.2⟩
 | false =>
   rw[hs] at CS
   have HS0:=Lib.hid hs
   obtain⟨cv,kv,hg,_,_⟩:=hR
   obtain⟨ao,cp,rfl,_⟩:=id hF
   obtain⟨m,hln⟩:∃m,l.length=m:=⟨_,rfl⟩
   rw[hln] at hn hF hg
   have HG:Hid (∀W,Below w.heap.size w W→W.cell? ⟨g,3,none⟩=some (.slice ao m cp)):=Lib.hid fun W h=>by
    rw[Lib.cell_of_heap ((h.block g (Array.getElem?_eq_some_iff.1 hg).1).trans hg)];rfl
   have HC:=Lib.hid (And.intro hF (And.intro hln hz))
   have HV:Hid (xdcpV l r=(ofL l r).getD []):=Lib.hid (by unfold xdcpV;rw[if_neg (by rw[hs];decide)])
   clear hF hg hln hr hz hs
   go_enter Tryz.func77,Tryz.ntmps77
   go_wp2_with fail
   refine CS.out.mono ?_
   rintro e w1 ⟨rfl,hb1⟩
   have HB1:=Lib.hid hb1
   clear hb1
   go_wp2_with fail
   go_loopw [7] (fun x wr=>∃k:Nat,x = .int .i64 (k:Nat)∧k≤m∧Hid (ofL l r=ofL (l.drop k) r∧Below w.heap.size w wr)) (fun x _=>m-(RowKit.intOf x).toNat)
   case atStart=>exact⟨0,rfl,Nat.zero_le _,Lib.hid ⟨by rw[List.drop_zero],HB1.out⟩⟩
   case round =>
    obtain⟨k,rfl,hk,H⟩:=hrel
    have f0:=HG.out wr H.out.2
    by_cases hlt:k<m
    ·have e1:(k:Int)<m:=by omega
     have hk0:(0:Int)≤(k:Int):=by omega
     have hk1:IntKind.i64.wrap ((k:Int)+1)=((k+1:Nat):Int):=by rw[IntWalk.i64_in _ (by omega)];omega
     obtain⟨x,hx⟩:∃x,l[k]? = some x:=⟨_,List.getElem?_eq_getElem (by rw[HC.out.2.1];omega)⟩
     have hLW:=HC.out.1.below H.out.2
     obtain⟨b,sv,rfl,d0,d1,hs⟩:=hLW.at hx
     have hst:=H.out.1
     have hdr:l.drop k=x::l.drop (k+1):=by
      obtain⟨h1,h2⟩:=List.getElem?_eq_some_iff.1 hx
      rw[List.drop_eq_getElem_cons h1,h2]
     rw[hdr,ofL_cons] at hst
     obtain⟨y,hy⟩:∃y:Int,(x.1:Int)=y:=⟨_,rfl⟩
     rw[hy] at d0 hst
     have HB:=Lib.hid H.out.2
     have CP:=Lib.hid (ycopy (toZ x.2.1) sv wr hs (by rw[toZ_len];exact HC.out.2.2 x (List.mem_of_getElem? hx)))
     clear hdr hx hy H hLW hs
     by_cases h1:y=r
     ·subst h1
      rw[if_pos rfl] at hst
      have HST:Hid (xdcpV l y=x.2.1):=Lib.hid (by rw[HV.out,hst];rfl)
      clear hst hlt
      go_wp2_with fail
      refine CP.out.mono ?_
      rintro e w2 ⟨v,rfl,hz2,hb2⟩
      have H2:=Lib.hid (And.intro hz2 (HB.out.trans (hb2.mono HB.out.size)))
      clear hz2 hb2
      go_wp2
      go_ret
      exact⟨_,rfl,by rw[HST.out];exact H2.out.1.sl,H2.out.2⟩
     ·have q1:(y==r)=false:=beq_eq_false_iff_ne.2 h1
      rw[if_neg h1] at hst
      have HST:=Lib.hid hst
      clear hst hlt
      go_wp2
      go_roundw
      case rel=>exact⟨k+1,by go_num,by omega,Lib.hid ⟨HST.out,HB.out⟩⟩
      case measure=>simp[RowKit.intOf];omega
    ·have e1:¬(k:Int)<m:=by omega
     have HST:Hid (xdcpV l r=[]):=Lib.hid (by rw[HV.out,H.out.1,List.drop_eq_nil_of_le (by rw[HC.out.2.1];omega)];rfl)
     clear hlt
     go_wp2
     go_ret
     exact⟨_,rfl,by rw[HST.out];exact⟨none,0,rfl,.inl rfl⟩,H.out.2⟩
end Go.Proofs.YtgpbaeehajkebaaGreatDoor
namespace Go.Proofs.YtgpbaeehajkebaaGreatDoor
open Go Go.RowKit Go.Kt Go.Kt.Rg Go.Maps
theorem LfW.at3 {w:World} {ao:Option Addr} {n cp:Nat} {l:List Ln3} (h:LfW w (.slice ao n cp) l) {k:Nat} {x:Ln3} (hx:l[k]? = some x) :
 ∃g v,ao=some ⟨g,0,none⟩∧w.cell? ⟨g,k*3,none⟩=some (.int .i64 (x.1:Nat))∧w.cell? ⟨g,k*3+1,none⟩=some v∧Sl .i32 w v (toZ x.2.1)∧w.cell? ⟨g,k*3+2,none⟩=some (.int .i64 (x.2.2:Nat)):=by
 obtain⟨ao',cp',e,hc⟩:=h
 cases e
 rcases hc with h|⟨g,e,h⟩
 ·rw[h] at hx;cases hx
 ·obtain⟨h1,⟨v,h2,h3⟩,h4⟩:=h k x hx
  exact⟨g,v,e,h1,h2,h3,h4⟩
end Go.Proofs.YtgpbaeehajkebaaGreatDoor
namespace Go.Proofs.YtgpbaeehajkebaaGreatDoor
open Go Go.RowKit Go.Kt Go.Kt.Rg Go.Maps
def encBo (kn:List Bool):List Value:=kn.map .bool
theorem encBo_at {kn:List Bool} {i:Nat} {b:Bool} (h:kn[i]? = some b):(encBo kn)[i]? = some (.bool b):=by simp[encBo,h]
theorem encBo_set (kn:List Bool) (i:Nat) (b:Bool):(encBo kn).set i (.bool b)=encBo (kn.set i b):=by simp[encBo]
def BoO (gb n:Nat) (kn:List Bool) (W:World):Prop:=kn.length=n∧OwnS (fun b=>b=gb) 4 1 (.slice (some ⟨gb,0,none⟩) n n) n (encBo kn) W
theorem BoO.cell {gb n:Nat} {kn:List Bool} {W:World} (h:BoO gb n kn W) {i:Nat} {b:Bool} (hb:kn[i]? = some b):W.cell? ⟨gb,i,none⟩=some (.bool b):=OwnS.at0 h.2 (encBo_at hb)
theorem BoO.drewN {gb n:Nat} {kn:List Bool} {W:World} (h:BoO gb n kn W) (q:Nat):BoO gb n kn (W.drewN q):=⟨h.1,h.2.keep (X:=fun _=>False) (Keep.of_all (below_drewN (Below.refl _ W) q)) (fun _ h=>h.elim)⟩
theorem BoO.set {gb n:Nat} {kn:List Bool} {W:World} (h:BoO gb n kn W) (i:Nat) (b:Bool):BoO gb n (kn.set i b) (W.setCell ⟨gb,i,none⟩ (.bool b)):=by
 refine⟨by rw[List.length_set];exact h.1,?_⟩
 rw[←encBo_set]
 exact⟨(h.2.1.stored i (.bool b)).1,h.2.2⟩
theorem BoO.fz {gb n:Nat} {kn:List Bool} {W:World} (h:BoO gb n kn W) (i:Nat):W.frozen? ⟨gb,i,none⟩=false:=h.2.1.frozenAt i
def fF:Option Value→Bool
 | some (.bool false)=>true
 | _=>false
def cntF (gb n:Nat) (W:World):Nat:=(List.range n).countP fun i=>fF (W.cell? ⟨gb,i,none⟩)
def cntL (kn:List Bool):Nat:=(List.range kn.length).countP fun i=>kn[i]? == some false
theorem BoO.cnt {gb n:Nat} {kn:List Bool} {W:World} (h:BoO gb n kn W):cntF gb n W=cntL kn:=by
 unfold cntF cntL
 rw[h.1]
 refine List.countP_congr fun i hi=>?_
 have hi2:i<kn.length:=by rw[h.1];exact List.mem_range.1 hi
 have hb:=List.getElem?_eq_getElem hi2
 rw[h.cell hb,hb]
 cases kn[i] <;> simp[fF]
theorem cntL_set {kn:List Bool} {i:Nat} (h:kn[i]? = some false):cntL (kn.set i true)+1≤cntL kn:=by
 unfold cntL
 rw[List.length_set]
 obtain⟨hi,hv⟩:=List.getElem?_eq_some_iff.1 h
 have h1:∀j,j≠i→(kn.set i true)[j]? = kn[j]?:=fun j hj=>List.getElem?_set_ne (fun e=>hj e.symm)
 have h2:(kn.set i true)[i]? = some true:=by rw[List.getElem?_set_self hi]
 have e1:(List.range kn.length).countP (fun j=>kn[j]? == some false)=((List.range kn.length).countP fun j=>(kn.set i true)[j]? == some false)+(List.range kn.length).countP fun j=>j==i:=by
  have:∀l:List Nat,l.countP (fun j=>kn[j]? == some false)=(l.countP fun j=>(kn.set i true)[j]? == some false)+l.countP fun j=>j==i:=by
   intro l
   induction l with
   | nil=>rfl
   | cons a t ih =>
     rw[List.countP_cons,List.countP_cons,List.countP_cons,ih]
     by_cases e:a=i
     ·subst e
      rw[h2,h]
      simp;omega
     ·rw[h1 a e]
      have:(a==i)=false:=by simpa using e
      rw[this]
      simp;omega
  exact this _
 have e2:(List.range kn.length).countP (fun j=>j==i)=1:=by
  rw[←List.count_eq_countP,List.count_range]
  simp[hi]
 omega
theorem cntL_same {kn:List Bool} {i:Nat} {b:Bool} (h:kn[i]? = some b):kn.set i b=kn:=by
 apply List.ext_getElem?
 intro j
 by_cases e:j=i
 ·subst e
  obtain⟨hi,_⟩:=List.getElem?_eq_some_iff.1 h
  rw[List.getElem?_set_self hi,h]
 ·rw[List.getElem?_set_ne (fun x=>e x.symm)]
def EndI (ds:DsT) (dl:List Ln3) (kn0:List Bool) (i:Nat) (more:Bool) (kn:List Bool):Prop :=
 SoundK ds dl kn∧cntL kn≤cntL kn0∧(more=true→cntL kn<cntL kn0)∧(more=false→kn=kn0∧∀(j:Nat) (y:Ln3),j<i→dl[j]? = some y→(∀z∈y.2.1,OkZ dl kn z)→kn[j]? = some true)
theorem EndI.start {ds:DsT} {dl:List Ln3} {kn0:List Bool} (h:SoundK ds dl kn0):EndI ds dl kn0 0 false kn0:=⟨h,Nat.le_refl _,(fun h=>by cases h),fun _=>⟨rfl,fun j y hj=>by omega⟩⟩
theorem EndI.yes {X:XdS} {S:RdS} {k i:Nat} {more:Bool} {kn0 kn:List Bool} {y:Ln3} {b:Bool} (hX:XRel X S) (hS:RdOk k S) (h:EndI S.ds X.dl kn0 i more kn) (hy:X.dl[i]? = some y) (hb:kn[i]? = some b) (ha:∀z∈y.2.1,OkZ X.dl kn z) :
 EndI S.ds X.dl kn0 (i+1) (more || !b) (kn.set i true):=by
 obtain⟨h1,h2,h3,h4⟩:=h
 cases b with
 | true =>
   rw[cntL_same hb]
   refine⟨h1,h2,fun e=>h3 (by simpa using e),fun e=>?_⟩
   obtain⟨q1,q2⟩:=h4 (by simpa using e)
   refine⟨q1,fun j u hj hu hz=>?_⟩
   by_cases e2:j=i
   ·subst e2;exact hb
   ·exact q2 j u (by omega) hu hz
 | false =>
   have hc:=cntL_set hb
   refine⟨⟨by rw[List.length_set];exact h1.1,fun j u hu hk=>?_⟩,by omega,fun _=>by omega,fun e=>by simp at e⟩
   by_cases e2:j=i
   ·subst e2
    rw[hy] at hu
    cases hu
    exact hX.ends hS h1 hy ha
   ·rw[List.getElem?_set_ne (fun x=>e2 x.symm)] at hk
    exact h1.2 j u hu hk
theorem EndI.no {ds:DsT} {dl:List Ln3} {i:Nat} {more b:Bool} {kn0 kn:List Bool} {y:Ln3} (h:EndI ds dl kn0 i more kn) (hy:dl[i]? = some y) (hb:kn[i]? = some b) (ha:¬ ∀z∈y.2.1,OkZ dl kn z) :
 EndI ds dl kn0 (i+1) more (kn.set i b):=by
 rw[cntL_same hb]
 obtain⟨h1,h2,h3,h4⟩:=h
 refine⟨h1,h2,h3,fun e=>?_⟩
 obtain⟨q1,q2⟩:=h4 e
 refine⟨q1,fun j u hj hu hz=>?_⟩
 by_cases e2:j=i
 ·subst e2
  rw[hy] at hu
  cases hu
  exact absurd hz ha
 ·exact q2 j u (by omega) hu hz
def AllI (dl:List Ln3) (kn:List Bool) (l:List Nat) (k:Nat) (A:Bool):Prop:=A=true↔∀z∈l.take k,OkZ dl kn z
def AllM (dl:List Ln3) (kn:List Bool) (l:List Nat) (k m z:Nat) (A:Bool):Prop:=A=true↔(∀z∈l.take k,OkZ dl kn z)∧∀(j:Nat) (x:Ln3),j<m→dl[j]? = some x→x.1=z→kn[j]? = some true
theorem AllI.enter {dl:List Ln3} {kn:List Bool} {l:List Nat} {k:Nat} {A:Bool} (h:AllI dl kn l k A) (z:Nat):AllM dl kn l k 0 z A:=by
 unfold AllM
 unfold AllI at h
 rw[h]
 exact⟨fun h=>⟨h,fun j x hj=>by omega⟩,fun h=>h.1⟩
theorem AllM.leave {dl:List Ln3} {kn:List Bool} {l:List Nat} {k z:Nat} {A:Bool} (h:AllM dl kn l k dl.length z A) (hz:l[k]? = some z):AllI dl kn l (k+1) A:=by
 unfold AllI
 unfold AllM at h
 rw[h,List.take_add_one,hz]
 constructor
 ·rintro⟨h1,h2⟩ u hu
  rcases List.mem_append.1 hu with hu|hu
  ·exact h1 u hu
  ·have:u=z:=by simpa using hu
   subst this
   exact fun m x hx e=>h2 m x (List.getElem?_eq_some_iff.1 hx).1 hx e
 ·intro h1
  refine⟨fun u hu=>h1 u (List.mem_append_left _ hu),fun j x _ hx e=>h1 z (List.mem_append_right _ (by simp)) j x hx e⟩
theorem AllM.off {dl:List Ln3} {kn:List Bool} {l:List Nat} {k m z:Nat} (h:AllM dl kn l k m z false):AllM dl kn l k (m+1) z false:=by
 unfold AllM at h ⊢
 constructor
 ·intro e;cases e
 ·rintro⟨h1,h2⟩
  exact h.2 ⟨h1,fun j x hj=>h2 j x (by omega)⟩
theorem AllM.other {dl:List Ln3} {kn:List Bool} {l:List Nat} {k m z:Nat} {x:Ln3} (h:AllM dl kn l k m z true) (hx:dl[m]? = some x) (hne:x.1≠z):AllM dl kn l k (m+1) z true:=by
 unfold AllM at h ⊢
 obtain⟨h1,h2⟩:=h.1 rfl
 refine⟨fun _=>⟨h1,fun j u hj hu e=>?_⟩,fun _=>rfl⟩
 by_cases ej:j=m
 ·subst ej
  rw[hx] at hu;cases hu
  exact absurd e hne
 ·exact h2 j u (by omega) hu e
theorem AllM.same {dl:List Ln3} {kn:List Bool} {l:List Nat} {k m z:Nat} {x:Ln3} {b:Bool} (h:AllM dl kn l k m z true) (hx:dl[m]? = some x) (he:x.1=z) (hb:kn[m]? = some b):AllM dl kn l k (m+1) z b:=by
 unfold AllM at h ⊢
 obtain⟨h1,h2⟩:=h.1 rfl
 constructor
 ·intro e
  subst e
  refine⟨h1,fun j u hj hu e=>?_⟩
  by_cases ej:j=m
  ·subst ej;exact hb
  ·exact h2 j u (by omega) hu e
 ·rintro⟨_,h4⟩
  have:=h4 m x (by omega) hx he
  rw[hb] at this
  exact Option.some.inj this
end Go.Proofs.YtgpbaeehajkebaaGreatDoor
