/- cells: the iterator from behind (written by gen_ag.py). -/
import Derived.Test.YtgpbaeehajkebaaGreatDoorGv22
import Derived.Test.YtgpbaeehajkebaaGreatDoorGv18
namespace Go.Proofs.YtgpbaeehajkebaaGreatDoor
open Go Go.RowKit Go.Kt Go.Shelf
attribute [local go_sem] Oper.semAt_some

theorem cBack_call (gp:Nat) (s:ByteArray) (w:World) :
    Calls Tryz.prog 8 #[.pointer (some ⟨gp,0,none⟩),.string s] w fun e w'=>e = .returned (.func (.func 22) #[] #[.pointer (some ⟨w.heap.size+1,0,none⟩),.pointer (some ⟨w.heap.size,0,none⟩)])∧(w.alloc (.cells #[.pointer (some ⟨gp,0,none⟩)] 22)).alloc (.cells #[.string s] 9)=w':=by
  go_enter Tryz.func8,Tryz.ntmps8
  go_wp2
  go_ret
  exact⟨by simp,rfl⟩
def bkI (S:RdS) (s:ByteArray) (pb tb ub:Nat) (J:List (Nat × Nat)→(Nat→Prop)→World→Prop) (pre:List (Nat × Nat)) (Y:Nat→Prop) (V:World):Prop :=
  J (bakF S s pre).1 Y V∧V.heap[pb]? = some (.cells #[.int .i64 ((bakF S s pre).2.1:Nat)] 3 (0,0))∧V.heap[tb]? = some (.cells #[.int .i64 ((bakF S s pre).2.2.1:Nat)] 3 (0,0))∧V.heap[ub]? = some (.cells (cuA (bakF S s pre).2.2.2) 52 (0,0))
def bkX (S:RdS) (s:ByteArray) (Jx:List (Nat × Nat)→(Nat→Prop)→World→Prop) (c:Code) (pre:List (Nat × Nat)) (Y:Nat→Prop) (V:World):Prop:=c = .ret∧Jx (bakF S s pre).1 Y V

set_option maxRecDepth 100000 in
set_option maxHeartbeats 4000000 in
theorem cback_iter {gp:Nat} {S:RdS} {md:MdT} (s:ByteArray) (bp bs:Nat) (wp w0:World) (hc:w0.cell? ⟨bs,0,none⟩=some (.string s)) (hq:w0.cell? ⟨bp,0,none⟩=some (.pointer (some ⟨gp,0,none⟩))) (hP:PrW gp S md wp) (h9:∀b,b<wp.heap.size→w0.heap[b]? = wp.heap[b]?) (hz9:wp.heap.size≤w0.heap.size)
    (hT:Lib.Utf8Tabs 3 4 wp) (hs:s.size≤4611686018427387904) :
    Iter2 Tryz.prog 22 #[.pointer (some ⟨bs,0,none⟩),.pointer (some ⟨bp,0,none⟩)] encCP (celL S s).reverse (fun b=>b<wp.heap.size∨b=bs∨b=bp) w0:=by
  intro l X J Jx W hNd hX hsame hsz hJ hJx hSl hY h0
  have hbs:bs<w0.heap.size:=lt_of_cell hc
  have hbp:bp<w0.heap.size:=lt_of_cell hq
  have SM:Hid (∀V:World,Keep X W V→(∀b,b<wp.heap.size→V.heap[b]? = wp.heap[b]?)∧wp.heap.size≤V.heap.size):=Lib.hid fun V hk =>
    ⟨fun b hb=>((hk.same b (by omega) (hNd b (.inl hb))).trans (hsame b (.inl hb))).trans (h9 b hb),Nat.le_trans (Nat.le_trans hz9 hsz) hk.size⟩
  have CN:=Lib.hid (fun V (hk:Keep X W V) a=>cunit s a V (hP.heap (SM.out V hk).1 (SM.out V hk).2) (tabs_heap hT (SM.out V hk).1) hs)
  have KS:Hid (∀V:World,Keep X W V→V.cell? ⟨bs,0,none⟩=some (.string s)∧V.cell? ⟨bp,0,none⟩=some (.pointer (some ⟨gp,0,none⟩))):=Lib.hid fun V hk =>
    ⟨(World.cell?_of_block (w:=w0) (a:=⟨bs,0,none⟩) ((hk.same bs (by omega) (hNd bs (.inr (.inl rfl)))).trans (hsame bs (.inr (.inl rfl))))).trans hc,(World.cell?_of_block (w:=w0) (a:=⟨bp,0,none⟩) ((hk.same bp (by omega) (hNd bp (.inr (.inr rfl)))).trans (hsame bp (.inr (.inr rfl))))).trans hq⟩
  have HK:=Lib.hid (And.intro hX (And.intro hJ (And.intro hJx (And.intro hSl hY))))
  have CE:=Lib.hid (fun (u v:CU) W hu hv=>cedge u v W hu hv)
  have HH:=Lib.hid (fun b=>untP_han S s b)
  have HZ:=Lib.hid (fun k=>bakF_han S s k)
  have HP:=Lib.hid (fun k h hz=>bakL_pre S s k h hz)
  have HC0:=Lib.hid h0
  have HNX:Hid (∀b,b<wp.heap.size→¬X b):=Lib.hid fun b hb=>hNd b (.inl hb)
  have HTT:=Lib.hid hT
  have htb:=tabs_size hT
  clear hNd hsame hc hq hP hT hJ hJx hSl hY h0 h9
  have hfn:∀k,Fence.wide.fn k:=fun _=>trivial
  have hdep:Fence.wide.depth=none:=rfl
  obtain⟨n,hn⟩:∃n,W.heap.size=n:=⟨_,rfl⟩
  refine (callsIn_wide (n:=0)).1 ?_
  refine callsIn_of_wp_marks Tryz.func22 rfl trivial ?_ rfl
  simp only[Tryz.ntmps22,List.size_toArray,List.length_cons,List.length_nil,Nat.reduceAdd,Nat.reduceSub,Array.replicate_succ,Array.replicate_zero,List.push_toArray,List.append_toArray,List.nil_append,List.cons_append]
  have c1:((W.alloc (.cells #[.func (.yield l) #[] #[]] 50)).drew).cell? ⟨bs,0,none⟩=some (.string s):=(KS.out _ ((Keep.refl X W).alloc _)).1
  have c2:(((W.alloc (.cells #[.func (.yield l) #[] #[]] 50)).alloc (.cells #[.int .i64 0] 3)).drew).cell? ⟨bs,0,none⟩=some (.string s):=(KS.out _ (((Keep.refl X W).alloc _).alloc _)).1
  have c3:((((W.alloc (.cells #[.func (.yield l) #[] #[]] 50)).alloc (.cells #[.int .i64 0] 3)).alloc (.cells #[.int .i64 0] 3)).drew).cell? ⟨bs,0,none⟩=some (.string s):=(KS.out _ ((((Keep.refl X W).alloc _).alloc _).alloc _)).1
  have c4:((((W.alloc (.cells #[.func (.yield l) #[] #[]] 50)).alloc (.cells #[.int .i64 0] 3)).alloc (.cells #[.int .i64 s.size] 3)).drew).cell? ⟨bs,0,none⟩=some (.string s):=(KS.out _ ((((Keep.refl X W).alloc _).alloc _).alloc _)).1
  have c5:((((W.alloc (.cells #[.func (.yield l) #[] #[]] 50)).alloc (.cells #[.int .i64 s.size] 3)).alloc (.cells #[.int .i64 0] 3)).drew).cell? ⟨bs,0,none⟩=some (.string s):=(KS.out _ ((((Keep.refl X W).alloc _).alloc _).alloc _)).1
  obtain⟨V1,hV1⟩:∃V1,((((W.alloc (.cells #[.func (.yield l) #[] #[]] 50)).alloc (.cells #[.int .i64 s.size] 3)).alloc (.cells #[.int .i64 s.size] 3)).alloc cuZ).drew=V1:=⟨_,rfl⟩
  have hzV:V1.heap.size=n+4:=by rw[←hV1];simp[hn,World.drew]
  have hd:∀ {A:World} {b:Nat} {o:Obj},A.heap[b]? = some o→A.drew.heap[b]? = some o:=fun h=>h
  have b0:V1.heap[n]? = some (.cells #[.func (.yield l) #[] #[]] 50 (0,0)):=by rw[←hV1];exact hd (alloc_old (alloc_old (alloc_old (alloc_at hn.symm))))
  have b1:V1.heap[n+1]? = some (.cells #[.int .i64 s.size] 3 (0,0)):=by rw[←hV1];exact hd (alloc_old (alloc_old (alloc_at (by simp[hn]))))
  have b2:V1.heap[n+2]? = some (.cells #[.int .i64 s.size] 3 (0,0)):=by rw[←hV1];exact hd (alloc_old (alloc_at (by simp[hn])))
  have b3:V1.heap[n+3]? = some (.cells (cuA ⟨0,false,false,false,0⟩) 52 (0,0)):=by rw[←hV1];exact hd (alloc_at (by simp[hn]))
  have hkN:Keep (fun _=>False) W V1:=by
    rw[←hV1]
    have h1:Keep (fun _=>False) W ((((W.alloc (.cells #[.func (.yield l) #[] #[]] 50)).alloc (.cells #[.int .i64 s.size] 3)).alloc (.cells #[.int .i64 s.size] 3)).alloc cuZ):=((((Keep.refl _ W).alloc _).alloc _).alloc _).alloc _
    exact⟨h1.os,h1.tape,h1.output,h1.size,h1.same⟩
  have hkV:Keep X W V1:=hkN.weaken fun _ _ h=>h.elim
  have c0:(((((W.alloc (.cells #[.func (.yield l) #[] #[]] 50)).alloc (.cells #[.int .i64 s.size] 3)).alloc (.cells #[.int .i64 s.size] 3)).alloc cuZ).drew).cell? ⟨bs,0,none⟩=some (.string s):=by rw[hV1];exact (KS.out V1 hkV).1
  have HV1:=Lib.hid hV1
  clear hV1 hd
  gi_wp2
  gi_region
  obtain⟨pb,hpb⟩:∃x,n+1=x:=⟨_,rfl⟩
  obtain⟨tb,htb2⟩:∃x,n+1+1=x:=⟨_,rfl⟩
  rw[htb2,hpb]
  have hh:n+1≤pb∧pb≤n+2∧n+1≤tb∧tb≤n+2∧pb≠tb:=by omega
  have d1:V1.heap[pb]? = some (.cells #[.int .i64 s.size] 3 (0,0)):=by rw[←hpb];exact b1
  have d2:V1.heap[tb]? = some (.cells #[.int .i64 s.size] 3 (0,0)):=by rw[←htb2];exact b2
  clear hpb htb2
  rotate_left
  obtain⟨tb,htb2⟩:∃x,n+1=x:=⟨_,rfl⟩
  obtain⟨pb,hpb⟩:∃x,n+1+1=x:=⟨_,rfl⟩
  rw[hpb,htb2]
  have hh:n+1≤pb∧pb≤n+2∧n+1≤tb∧tb≤n+2∧pb≠tb:=by omega
  have d1:V1.heap[pb]? = some (.cells #[.int .i64 s.size] 3 (0,0)):=by rw[←hpb];exact b2
  have d2:V1.heap[tb]? = some (.cells #[.int .i64 s.size] 3 (0,0)):=by rw[←htb2];exact b1
  clear hpb htb2
  all_goals
    obtain⟨hh1,hh2,hh3,hh4,hh5⟩:=hh
    gi_wp2_with fail
    rw[HV1.out]
    refine (callsIn_wide.2 (utfBack_call s _)).mono ?_
    rintro e w6 ⟨rfl,hw6⟩
    gi_wp2_with fail
    have hk6:Keep (fun _=>False) V1 w6:=by rw[←hw6];exact (Keep.refl _ _).alloc _
    have hz6:w6.heap.size=n+5:=by rw[←hw6];simp[hzV]
    have b6:w6.heap[n+4]? = some (.cells #[.string s] 9 (0,0)):=by rw[←hw6];exact alloc_at hzV.symm
    have v0:=hk6.heap b0 (fun h=>h)
    have v1:=hk6.heap d1 (fun h=>h)
    have v2:=hk6.heap d2 (fun h=>h)
    have v3:=hk6.heap b3 (fun h=>h)
    have hkW:Keep X W w6:=hkV.trans (hk6.weaken fun _ _ h=>h.elim)
    have hJ6:J [] (fun _=>False) w6:=HK.out.2.1 _ _ _ _ ((hkN.trans hk6).weaken fun _ _ h=>h.elim) HC0.out
    have hXn:∀b,n≤b→¬X b:=fun b hb h=>by have:=HK.out.1 b h;omega
    have hT6:=tabs_heap HTT.out (SM.out w6 hkW).1
    clear hw6 hk6 hkV hkN b0 b1 b2 b3 d1 d2 c0 c1 c2 c3 c4 c5 HC0
    refine loop_out (gf:=49) (lb:=#[.pointer (some ⟨n+4,0,none⟩)]) (encs:=enc2) rfl (enters_of Tryz.func49 (by kernel_rfl) rfl)
      (back_iter s (n+4) w6 (cell_one b6) hs hT6 (by omega)) (fun _=>rfl) (X:=fun b=>X b∨b=pb∨b=tb∨b=n+3)
      (fun b hb=>by rcases hb with h|h|h|h;have:=HK.out.1 b h;omega;omega;omega;omega)
      (fun b hb=>by
        rcases hb with h|h
        · subst h;exact⟨by rintro (h|h|h|h);exact hXn _ (by omega) h;omega;omega;omega,by omega⟩
        · exact⟨by rintro (h|h|h|h);exact HNX.out b (by omega) h;omega;omega;omega,by omega⟩) (fun _ _=>rfl) (Nat.le_refl _)
      (bkI S s (pb) (tb) (n+3) J) (bkX S s Jx)
      (fun pre Y V V' hk h=>⟨HK.out.2.1 _ _ _ _ (hk.weaken fun b _ h=>⟨by omega,h.2⟩) h.1,hk.heap h.2.1 (fun hx=>by have:=hx.1;omega),hk.heap h.2.2.1 (fun hx=>by have:=hx.1;omega),hk.heap h.2.2.2 (fun hx=>by have:=hx.1;omega)⟩)
      (fun c pre Y V V' hk h=>⟨h.1,HK.out.2.2.1 _ _ _ _ (hk.weaken fun b _ h=>⟨by omega,h.2⟩) h.2⟩) ⟨hJ6,v1,v2,v3⟩ ?round ?done ?stop
    case round =>
      rintro l' hl' pre ⟨at',r⟩ Y V hpre hi hk hY hlt hr
      gi_wp2
      refine⟨Keep.refl _ _,?_⟩
      rintro V2 _ hk2 ⟨hJ2,hp1,hp2,hp3⟩ hr2
      have hkX:Keep X W V2:=Keep.plus hkW hk2 (fun b hb h=>by rcases h with h|h|h|h;exact h;omega;omega;omega)
      have hn2:n+5≤V2.heap.size:=by have:=hk2.size;omega
      have hv0:=hk2.heap v0 (by rintro (h|h|h|h);exact hXn _ (by omega) h;omega;omega;omega)
      have hmem:(at',r)∈units s:=by
        obtain⟨q,hq⟩:=hpre
        have:(at',r)∈(units s).reverse:=by rw[←hq];simp
        simpa using this
      have hat:=(units_dec s s.size 0 (at',r) hmem).2
      simp only at hat
      have hpx:=HP.out _ hpre (by omega)
      have hst:bakF S s (pre++[(at',r)])=bakStep S s (bakF S s pre) (at',r):=bakF_snoc S s pre (at',r)
      have hh:=HZ.out pre
      obtain⟨Z,hZ⟩:∃Z,Z=fun b=>Y b∧b<V2.heap.size:=⟨_,rfl⟩
      have hZ1:∀b,Z b→n+5≤b∧b<V2.heap.size∧Y b:=fun b hb=>by rw[hZ] at hb;have:=(hY b hb.1).1;exact⟨by omega,hb.2,hb.1⟩
      have hJZ:J (bakF S s pre).1 Z V2:=by rw[hZ];exact HK.out.2.2.2.1 _ _ _ hJ2
      obtain⟨⟨out,pl,tt,ah⟩,hF⟩:∃z,bakF S s pre=z:=⟨_,rfl⟩
      rw[hst,hF] at hpx
      rw[hF] at hJZ hp1 hp2 hp3 hst hh
      simp only at hJZ hp1 hp2 hp3 hh
      obtain⟨uh,hu⟩:∃u,untP S s at'=u:=⟨_,rfl⟩
      have hhu:=HH.out (at':Int)
      have CU1:=CN.out V2 hkX (at':Int)
      unfold bakStep at hst hpx
      simp only at hst hpx
      rw[hu] at hhu CU1 hst hpx
      have HCU1:=Lib.hid CU1
      obtain⟨q1,q2⟩:=KS.out V2 hkX
      have HS:=Lib.hid hst
      have HPX:=Lib.hid hpx
      have HY:=Lib.hid hY
      have HI:=Lib.hid (And.intro hkX (And.intro hn2 (And.intro hv0 (And.intro hp1 (And.intro hp2 (And.intro hp3 (And.intro hJZ hZ1)))))))
      clear hst hpx hY hkX hn2 hv0 hp1 hp2 hp3 hJZ hZ1 hZ hF hJ2 hk2 hr2 hr hi hk hmem hpre CU1 hu v0 v1 v2 v3 b6 hJ6 hkW hT6
      gi_wp2_with fail
      refine (CallsIn.inRound l' (callsIn_wide.2 HCU1.out)).mono ?_
      rintro e V3 ⟨rfl,hb3⟩
      obtain⟨kX,n2,i0,i1,i2,i3,jZ,z1⟩:=HI.out
      obtain⟨m,hm⟩:∃m,V3.heap.size=m:=⟨_,rfl⟩
      have hz3:=hb3.size
      obtain⟨V5,hV5⟩:∃V,cuSet (V3.alloc cuZ) m uh=V:=⟨_,rfl⟩
      have ha4:(V3.alloc cuZ).heap[m]? = some (.cells (cuA ⟨0,false,false,false,0⟩) 52 (0,0)):=alloc_at hm.symm
      have hb5:Below m V3 V5:=by rw[←hV5];exact ((Below.refl m V3).alloc (by omega) _).trans (cuSet_below (Nat.le_refl _) _)
      have hb25:Below V2.heap.size V2 V5:=hb3.trans (hb5.mono (by omega))
      have a5:V5.heap[m]? = some (.cells (cuA uh) 52 (0,0)):=by rw[←hV5];exact cuSet_atA uh ha4
      have ST:Hid ((Instr.storeAt 52 (.pointer (some ⟨V3.heap.size,0,none⟩)) (cuV uh)).run Tryz.prog (V3.alloc cuZ) = .ok () V5):=Lib.hid (by rw[hm,←hV5];exact cu_storeA uh _ ha4)
      have e0:=(hb25.block n (by omega)).trans i0
      have e1:=(hb25.block (pb) (by omega)).trans i1
      have e2:=(hb25.block (tb) (by omega)).trans i2
      have e3:=(hb25.block (n+3) (by omega)).trans i3
      have k5:Keep X W V5:=kX.trans (.of_all hb25)
      have j5:J out Z V5:=HK.out.2.1 _ _ _ _ (.of_all hb25) jZ
      have ks5:=(KS.out V5 k5).1
      have g1:=cell_one e1
      obtain⟨⟨x0,x1,x2,x3,x4⟩,_⟩:=cu_cellsA e3
      obtain⟨⟨y0,y1,y2,y3,y4⟩,_⟩:=cu_cellsA a5
      have CE1:=Lib.hid (CE.out uh ah V5 hhu hh)
      have H5:=Lib.hid (And.intro hb25 (And.intro e0 (And.intro e1 (And.intro e2 (And.intro e3 (And.intro k5 (And.intro j5 (And.intro a5 (And.intro n2 z1)))))))))
      have hz5:V2.heap.size≤m∧m<V5.heap.size:=⟨by omega,(Array.getElem?_eq_some_iff.1 a5).1⟩
      have HZ5:=Lib.hid hz5
      have FB:Hid (∀V,Below V5.heap.size V5 V→bakF S s (pre++[(at',r)])=(out,at',tt,uh)→Kt.Left (fun b=>X b∨b=pb∨b=tb∨b=n+3) Y (bkI S s (pb) (tb) (n+3) J) (pre++[(at',r)]) V2 ((cuSet V (n+3) uh).setCell ⟨pb,0,none⟩ (.int .i64 at'))):=Lib.hid fun V hb hF=>by
        have hs5:=hb25.size
        have hs6:=hb.size
        refine⟨Z,((Keep.of_all (hb25.trans (hb.mono hs5))).trans (cuSet_keep (n:=n+3) (.inl (.inr (.inr (.inr rfl)))) uh)).setCell (p:=⟨pb,0,none⟩) (.inl (.inr (.inl rfl))) _,fun b hb=>.inl (z1 b hb).2.2,?_⟩
        unfold bkI
        rw[hF]
        have nz:∀b,b<n+5→¬Z b:=fun b hb h=>by have:=(z1 b h).1;omega
        have kS:Keep (fun b=>b=n+3) V (cuSet V (n+3) uh):=cuSet_keep (X:=fun b=>b=n+3) (n:=n+3) rfl uh
        exact⟨HK.out.2.1 _ _ _ _ ((cuSet_keep (n:=n+3) ⟨by omega,nz _ (by omega)⟩ uh).setCell (p:=⟨pb,0,none⟩) ⟨by show W.heap.size≤pb;omega,nz (pb) (by omega)⟩ _) (HK.out.2.1 _ _ _ _ (.of_all hb) j5),
          set_at (kS.heap ((hb.block _ (by omega)).trans e1) (by omega)),set_old (kS.heap ((hb.block _ (by omega)).trans e2) (by omega)) (by omega),set_old (cuSet_atA uh ((hb.block _ (by omega)).trans e3)) (by omega)⟩
      have FA:Hid (∀V6 V7 (Y':Nat→Prop),Below V5.heap.size V5 V6→bakF S s (pre++[(at',r)])=(out++[(pl,tt)],at',pl,uh)→Keep (fun b=>X b∨Z b) V6 V7→(∀b,Y' b→Z b∨V6.heap.size≤b) →
          (J (out++[(pl,tt)]) Y' V7→Kt.Left (fun b=>X b∨b=pb∨b=tb∨b=n+3) Y (bkI S s (pb) (tb) (n+3) J) (pre++[(at',r)]) V2 ((cuSet (V7.setCell ⟨tb,0,none⟩ (.int .i64 pl)) (n+3) uh).setCell ⟨pb,0,none⟩ (.int .i64 at'))) ∧
          (Jx (out++[(pl,tt)]) Y' V7→Kt.Left (fun b=>X b∨b=pb∨b=tb∨b=n+3) Y (bkX S s Jx .ret) (pre++[(at',r)]) V2 V7) ∧
          (V7.heap[pb]? = some (.cells #[.int .i64 pl] 3 (0,0))∧V7.heap[tb]? = some (.cells #[.int .i64 tt] 3 (0,0))∧V7.heap[n+3]? = some (.cells (cuA ah) 52 (0,0))∧V7.heap[m]? = some (.cells (cuA uh) 52 (0,0)))):=Lib.hid fun V6 V7 Y' hb hF hk7 hY'=>by
        have hs5:=hb25.size
        have hs6:=hb.size
        have hm5:m<V5.heap.size:=(Array.getElem?_eq_some_iff.1 a5).1
        have hno:∀b,n≤b→(b<n+5∨V2.heap.size≤b)→¬(X b∨Z b):=fun b h1 h2 h3=>by
          rcases h3 with h3|h3
          · exact hXn b h1 h3
          · have:=z1 b h3;omega
        have g1:=hk7.heap ((hb.block _ (by omega)).trans e1) (hno (pb) (by omega) (by omega))
        have g2:=hk7.heap ((hb.block _ (by omega)).trans e2) (hno (tb) (by omega) (by omega))
        have g3:=hk7.heap ((hb.block _ (by omega)).trans e3) (hno (n+3) (by omega) (by omega))
        have g4:=hk7.heap ((hb.block _ hm5).trans a5) (hno m (by omega) (by omega))
        have hK:Keep (fun b=>(X b∨b=pb∨b=tb∨b=n+3)∨Y b) V2 V7:=(Keep.of_all (hb25.trans (hb.mono hs5))).trans (hk7.weaken fun b _ h=>by rcases h with h|h;exact .inl (.inl h);exact .inr (z1 b h).2.2)
        have hS:∀b,Y' b→Y b∨V2.heap.size≤b:=fun b h=>by rcases hY' b h with h|h;exact .inl (z1 b h).2.2;exact .inr (by omega)
        have hn1:∀b,b<n+5→¬Y' b:=fun b hb h=>by rcases hY' b h with h|h;have:=(z1 b h).1;omega;omega
        refine⟨fun hJ7=>⟨Y',((hK.setCell (p:=⟨tb,0,none⟩) (.inl (.inr (.inr (.inl rfl)))) _).trans (cuSet_keep (n:=n+3) (.inl (.inr (.inr (.inr rfl)))) uh)).setCell (p:=⟨pb,0,none⟩) (.inl (.inr (.inl rfl))) _,hS,?_⟩,fun hJ7=>⟨Y',hK,hS,rfl,by rw[hF];exact hJ7⟩,g1,g2,g3,g4⟩
        unfold bkI
        rw[hF]
        have kS:Keep (fun b=>b=n+3) (V7.setCell ⟨tb,0,none⟩ (.int .i64 pl)) (cuSet (V7.setCell ⟨tb,0,none⟩ (.int .i64 pl)) (n+3) uh):=cuSet_keep (X:=fun b=>b=n+3) (n:=n+3) rfl uh
        exact⟨HK.out.2.1 _ _ _ _ ((((Keep.refl _ V7).setCell (p:=⟨tb,0,none⟩) ⟨by show W.heap.size≤tb;omega,hn1 (tb) (by omega)⟩ _).trans (cuSet_keep (n:=n+3) ⟨by omega,hn1 _ (by omega)⟩ uh)).setCell (p:=⟨pb,0,none⟩) ⟨by show W.heap.size≤pb;omega,hn1 (pb) (by omega)⟩ _) hJ7,
          set_at (kS.heap (set_old g1 (by omega)) (by omega)),set_old (kS.heap (set_at g2) (by omega)) (by omega),set_old (cuSet_atA uh (set_old g3 (by omega))) (by omega)⟩
      clear kX n2 i0 i1 i2 i3 jZ z1 hz3 hV5 ha4 hb5 hb25 e0 e1 e2 e3 k5 j5 a5 hz5 hb3 hh hhu
      rw[hm] at ST
      by_cases h0:pl<s.size
      · have h0':(pl:Int)<s.size:=by omega
        gi_wp2_with (first|(rw[hm];fail)|(refine wpListIn_store_eq (o:=⟨none,_,_,_,_,_⟩) rfl rfl rfl rfl rfl ST.out ?_;clear ST))
        refine (CallsIn.inRound l' (callsIn_wide.2 CE1.out)).mono ?_
        rintro e V6 ⟨rfl,hb6⟩
        obtain⟨_,f0,f1,f2,f3,k5,j5,am,n2,z1⟩:=H5.out
        obtain⟨hm2,hm5⟩:=HZ5.out
        clear x0 x1 x2 x3 x4 y0 y1 y2 y3 y4 g1 ks5
        have hF:=HS.out
        have hpx:=HPX.out
        cases hE:edgU uh ah with
        | true =>
          rw[if_pos ⟨h0,hE⟩] at hF hpx
          have hs5:=hb6.size
          have g0:=cell_one ((hb6.block n (by omega)).trans f0)
          have g1:=cell_one ((hb6.block (pb) (by omega)).trans f1)
          have g2:=cell_one ((hb6.block (tb) (by omega)).trans f2)
          have k6:Keep X W V6:=k5.trans (.of_all hb6)
          have hk6s:=k6.size
          have hyy:YieldAt Fence.wide 0 Tryz.prog l #[.int .i64 pl,.int .i64 tt] V6 _:=HK.out.2.2.2.2 out (pl,tt) Z V6 hpx (HK.out.2.1 _ _ _ _ (.of_all hb6) j5) (by omega) (fun b hb=>by have:=(z1 b hb).1;omega)
          obtain⟨fn,tmps,assign,body,hy,hR⟩:=hyy
          have HR:=Lib.hid hR
          have HFA:=Lib.hid (fun V7 Y'=>FA.out V6 V7 Y' hb6 hF)
          clear f0 f1 f2 f3 k5 j5 am z1 hF hpx k6 hb6 hE hR
          gi_wp2_with fail
          refine RoundIn.mono (F:=Fence.wide.inRound l') HR.out ?_
          rintro e V7 ⟨Y',hk7,hY',hor⟩
          obtain⟨q1,q2,p1,p2,p3,p4⟩:=HFA.out V7 Y' hk7 hY'
          have HQ1:=Lib.hid q1
          have HQ2:=Lib.hid q2
          clear q1 q2 hk7 hY' g0 g1 g2
          rcases hor with ⟨rfl,hJ7⟩|⟨rfl,hJx7⟩
          · have HQ:=Lib.hid (HQ1.out hJ7)
            obtain⟨V8,hV8⟩:∃V,V7.setCell ⟨tb,0,none⟩ (.int .i64 pl)=V:=⟨_,rfl⟩
            have r1:V8.heap[pb]? = some (.cells #[.int .i64 pl] 3 (0,0)):=by rw[←hV8];exact set_old p1 (by omega)
            have r2:V8.heap[n+3]? = some (.cells (cuA ah) 52 (0,0)):=by rw[←hV8];exact set_old p3 (by omega)
            have r3:V8.heap[m]? = some (.cells (cuA uh) 52 (0,0)):=by rw[←hV8];exact set_old p4 (by omega)
            obtain⟨V9,hV9⟩:∃V,cuSet V8 (n+3) uh=V:=⟨_,rfl⟩
            have s1:V9.heap[pb]? = some (.cells #[.int .i64 pl] 3 (0,0)):=by rw[←hV9];exact (cuSet_keep (X:=fun b=>b=n+3) (n:=n+3) rfl uh).heap r1 (by omega)
            have ST2:Hid ((Instr.storeAt 52 (.pointer (some ⟨n+3,0,none⟩)) (cuV uh)).run Tryz.prog (V7.setCell ⟨tb,0,none⟩ (.int .i64 pl)) = .ok () V9):=Lib.hid (by rw[hV8,←hV9];exact cu_storeA uh _ r2)
            obtain⟨⟨y0,y1,y2,y3,y4⟩,_⟩:=cu_cellsA r3
            rw[←hV8] at y0 y1 y2 y3 y4
            have HV9:=Lib.hid (And.intro hV8 hV9)
            have x0:=cell_one p1
            have x1:=cell_one p2
            have x2:=frozen_one p2
            have x3:=cell_one s1
            have x4:=frozen_one s1
            clear r1 r2 r3 s1 p1 p2 p3 p4 hV8 hV9 hJ7 HQ1 HQ2
            gi_wp2_with (refine wpListIn_store_eq (o:=⟨none,_,_,_,_,_⟩) rfl rfl rfl rfl rfl ST2.out ?_;clear ST2)
            rw[←HV9.out.2,←HV9.out.1]
            exact HQ.out
          · have HQ:=Lib.hid (HQ2.out hJx7)
            clear hJx7 HQ1 HQ2 p1 p2 p3 p4
            gi_wp2_with fail
            exact HQ.out
        | false =>
          rw[if_neg (fun h=>by rw[hE] at h;cases h.2)] at hF
          have HQ:=Lib.hid (FB.out V6 hb6 hF)
          have r1:=(hb6.block _ (by omega)).trans f1
          have r2:=(hb6.block _ (by omega)).trans f3
          obtain⟨V9,hV9⟩:∃V,cuSet V6 (n+3) uh=V:=⟨_,rfl⟩
          have s1:V9.heap[pb]? = some (.cells #[.int .i64 pl] 3 (0,0)):=by rw[←hV9];exact (cuSet_keep (X:=fun b=>b=n+3) (n:=n+3) rfl uh).heap r1 (by omega)
          have ST2:Hid ((Instr.storeAt 52 (.pointer (some ⟨n+3,0,none⟩)) (cuV uh)).run Tryz.prog V6 = .ok () V9):=Lib.hid (by rw[←hV9];exact cu_storeA uh _ r2)
          obtain⟨⟨y0,y1,y2,y3,y4⟩,_⟩:=cu_cellsA ((hb6.block _ hm5).trans am)
          have x3:=cell_one s1
          have x4:=frozen_one s1
          have HV9:=Lib.hid hV9
          clear f0 f1 f2 f3 k5 j5 am z1 hF hpx hb6 hE r1 r2 s1 hV9
          gi_wp2_with (refine wpListIn_store_eq (o:=⟨none,_,_,_,_,_⟩) rfl rfl rfl rfl rfl ST2.out ?_;clear ST2)
          rw[←HV9.out]
          exact HQ.out
      · have h0':¬(pl:Int)<s.size:=by omega
        obtain⟨_,f0,f1,f2,f3,k5,j5,am,n2,z1⟩:=H5.out
        obtain⟨hm2,hm5⟩:=HZ5.out
        have hF:=HS.out
        rw[if_neg (fun h=>h0 h.1)] at hF
        have HQ:=Lib.hid (FB.out V5 (Below.refl _ _) hF)
        obtain⟨V9,hV9⟩:∃V,cuSet V5 (n+3) uh=V:=⟨_,rfl⟩
        have s1:V9.heap[pb]? = some (.cells #[.int .i64 pl] 3 (0,0)):=by rw[←hV9];exact (cuSet_keep (X:=fun b=>b=n+3) (n:=n+3) rfl uh).heap f1 (by omega)
        have ST2:Hid ((Instr.storeAt 52 (.pointer (some ⟨n+3,0,none⟩)) (cuV uh)).run Tryz.prog V5 = .ok () V9):=Lib.hid (by rw[←hV9];exact cu_storeA uh _ f3)
        have z3:=cell_one s1
        have z4:=frozen_one s1
        have HV9:=Lib.hid hV9
        clear f0 f1 f2 f3 k5 j5 am z1 hF x0 x1 x2 x3 x4 s1 hV9
        gi_wp2_with (first|(refine wpListIn_store_eq (o:=⟨none,_,_,_,_,_⟩) rfl rfl rfl rfl rfl ST.out ?_;clear ST)|(refine wpListIn_store_eq (o:=⟨none,_,_,_,_,_⟩) rfl rfl rfl rfl rfl ST2.out ?_;clear ST2))
        rw[←HV9.out]
        exact HQ.out
    case done =>
      rintro D Y V hD hDd hI hY hk
      have hkX:Keep X W V:=Keep.plus hkW hk (fun b hb h=>by rcases h with h|h|h|h;exact h;omega;omega;omega)
      have hv0:=hk.heap v0 (by rintro (h|h|h|h);exact hXn _ (by omega) h;omega;omega;omega)
      obtain⟨hJ,hp1,hp2,hp3⟩:=hI
      obtain⟨q1,q2⟩:=KS.out V hkX
      have hsz:=hk.size
      by_cases hz:s.size=0
      · obtain rfl:=cempty s hz
        have HF:=Lib.hid (And.intro hJ (And.intro hkX hY))
        have HDD:=Lib.hid hDd
        clear hkX hv0 hJ hp1 hp2 hp3 hk hY hDd v0 v1 v2 v3 b6 hJ6 hkW hT6
        gi_wp2_with fail
        refine leaves_marks (Ds:=[D]) (by simp) (fun D' h=>by simp at h;subst h;exact HDD.out) (fun V' hk'=>⟨_,results_none rfl _ _ _,?_⟩)
        obtain⟨hJ,hkX,hY⟩:=HF.out
        have hk':Keep (fun b=>b=D) V V':=hk'.weaken fun b _ hb=>by simpa using hb
        exact⟨⟨_,rfl⟩,hkX.plus hk' (fun b hb h=>by have h:b=D:=h;omega),.inl ⟨Y,fun b hb=>by have:=(hY b hb).1;omega,HK.out.2.1 _ _ _ _ (hk'.weaken fun b _ h=>by have h:b=D:=h;subst h;exact⟨by omega,fun hy=>(hY _ hy).2 rfl⟩) hJ⟩⟩
      · have hne:=cfull s hz
        have hpx:(bakF S s (units s).reverse).1++[(0,(bakF S s (units s).reverse).2.2.1)] <+: (celL S s).reverse:=by rw[bakL_eq S s hz];exact List.prefix_refl _
        have hcl:=bakL_eq S s hz
        obtain⟨⟨out,pl,tt,ah⟩,hF⟩:∃z,bakF S s (units s).reverse=z:=⟨_,rfl⟩
        rw[hF] at hpx hcl hJ hp2
        simp only at hpx hcl hJ hp2
        have g0:=cell_one hv0
        have g1:=cell_one hp2
        have hyy:YieldAt Fence.wide 0 Tryz.prog l #[.int .i64 0,.int .i64 tt] V _:=HK.out.2.2.2.2 out (0,tt) Y V hpx hJ (by omega) (fun b hb=>by have:=(hY b hb).1;omega)
        obtain⟨fn,tmps,assign,body,hy,hR⟩:=hyy
        have HR:=Lib.hid hR
        have HF:=Lib.hid (And.intro hkX (And.intro hY (And.intro hcl hpx)))
        have HDD:=Lib.hid hDd
        have hDX:∀b,b=D→¬(X b∨Y b):=fun b h hx=>by
          subst h
          rcases hx with hx|hx
          · exact hXn b (by omega) hx
          · exact (hY b hx).2 rfl
        have HDX:=Lib.hid hDX
        clear hkX hv0 hJ hp1 hp2 hp3 hk hY hDd v0 v1 v2 v3 b6 hJ6 hkW hT6 hpx hcl hF hR hDX
        gi_wp2_with fail
        refine RoundIn.mono HR.out ?_
        rintro e V7 ⟨Y',hk7,hY',hor⟩
        have HH7:=Lib.hid (And.intro hk7 (And.intro hY' hor))
        obtain⟨v7,hv7⟩:∃v,e = .returned v:=by
          rcases hor with ⟨h,_⟩|⟨h,_⟩
          · exact⟨_,h⟩
          · exact⟨_,h⟩
        subst hv7
        clear hk7 hY' hor g0 g1
        gi_wp2_with fail
        refine leaves_marks (Ds:=[D]) (by simp) (fun D' h=>by simp at h;subst h;exact HH7.out.1.heap HDD.out (HDX.out _ rfl)) (fun V' hk'=>⟨_,results_none rfl _ _ _,?_⟩)
        obtain⟨hkX,hY,hcl,hpx⟩:=HF.out
        obtain⟨hk7,hY',hor⟩:=HH7.out
        have hk':Keep (fun b=>b=D) V7 V':=hk'.weaken fun b _ hb=>by simpa using hb
        have hs7:=hk7.size
        have hDV:D<V.heap.size:=(Array.getElem?_eq_some_iff.1 HDD.out).1
        have hYl:∀b,Y' b→W.heap.size≤b:=fun b hb=>by rcases hY' b hb with h|h;have:=(hY b h).1;omega;omega
        have hYD:∀b,b=D→¬Y' b:=fun b h hb=>by subst h;rcases hY' b hb with h|h;exact (hY _ h).2 rfl;omega
        have hkW7:Keep X W V7:=hkX.plus hk7 (fun b hb h=>by rcases h with h|h;exact h;have:=(hY b h).1;omega)
        refine⟨⟨_,rfl⟩,hkW7.plus hk' (fun b hb h=>by have h:b=D:=h;omega),?_⟩
        rcases hor with ⟨_,hJ7⟩|⟨_,hJ7⟩
        · refine .inl ⟨Y',hYl,?_⟩
          rw[hcl]
          exact HK.out.2.1 _ _ _ _ (hk'.weaken fun b _ h=>⟨by have h:b=D:=h;omega,hYD b h⟩) hJ7
        · exact .inr ⟨_,Y',hpx,hYl,HK.out.2.2.1 _ _ _ _ (hk'.weaken fun b _ h=>⟨by have h:b=D:=h;omega,hYD b h⟩) hJ7⟩
    case stop =>
      rintro D c pre Y V hD hDd hpre ⟨rfl,hJ⟩ hY hk
      have hkX:Keep X W V:=Keep.plus hkW hk (fun b hb h=>by rcases h with h|h|h|h;exact h;omega;omega;omega)
      have hsz:=hk.size
      have hs0:(bakF S s pre).1 <+: (celL S s).reverse:=by
        by_cases hz:s.size=0
        · have:pre=[]:=by
            obtain⟨q,hq⟩:=hpre
            have hu:=units_len s
            rw[←List.length_reverse,←hq] at hu
            simp at hu
            exact List.length_eq_zero_iff.1 (by omega)
          subst this
          exact List.nil_prefix
        · exact HP.out pre hpre hz
      have HF:=Lib.hid (And.intro hJ (And.intro hkX (And.intro hY hs0)))
      have HDD:=Lib.hid hDd
      clear hkX hJ hk hY hDd v0 v1 v2 v3 b6 hJ6 hkW hs0 hpre hT6
      gi_wp2_with fail
      refine leaves_marks (Ds:=[D]) (by simp) (fun D' h=>by simp at h;subst h;exact HDD.out) (fun V' hk'=>⟨_,results_none rfl _ _ _,?_⟩)
      obtain⟨hJ,hkX,hY,hs0⟩:=HF.out
      have hk':Keep (fun b=>b=D) V V':=hk'.weaken fun b _ hb=>by simpa using hb
      exact⟨⟨_,rfl⟩,hkX.plus hk' (fun b hb h=>by have h:b=D:=h;omega),.inr ⟨_,Y,hs0,fun b hb=>by have:=(hY b hb).1;omega,HK.out.2.2.1 _ _ _ _ (hk'.weaken fun b _ h=>by have h:b=D:=h;subst h;exact⟨by omega,fun hy=>(hY _ hy).2 rfl⟩) hJ⟩⟩
end Go.Proofs.YtgpbaeehajkebaaGreatDoor
