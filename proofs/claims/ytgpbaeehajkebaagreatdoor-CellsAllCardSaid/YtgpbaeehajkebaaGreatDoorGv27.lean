/- Parts of the proof of what the last text says. -/
import Derived.Test.YtgpbaeehajkebaaGreatDoorGv26
import Derived.Test.YtgpbaeehajkebaaGreatDoorAgx
import Derived.Test.YtgpbaeehajkebaaGreatDoorGv6
namespace Go.Proofs.YtgpbaeehajkebaaGreatDoor
open Go Go.RowKit Go.Kt Go.Kt.Rg Go.Maps
theorem docK_of {l:List UInt8} {line:Nat} {S:RdS} {L:List Nat} {B0 gx:Nat} {ρ:Nat→Nat} {X:XdS} {cv kv fv dv:Value} {w:World} (hP:ParseR l 0 line S L) (hX:XRel X S) (hW:PxW B0 ρ gx X cv kv fv dv w):DocK gx S w:=by
 obtain⟨_,_,hok,_,_⟩:=hP.ok
 have hlens:=hX.lens hok
 intro W h r hr
 refine⟨?_,?_⟩
 ·have h1:=ykindX r W (hW.below h).rp hr ⟨by have:=hlens.1.1;omega,by have:=hlens.1.2;omega⟩
  rw[←hX.ks,xknd_eq hok] at h1
  exact h1
 ·have h1:=yclass r W (hW.below h).rp hr ⟨by have:=hlens.1.1;omega,by have:=hlens.1.2;omega⟩
  rw[←hX.cs,xcls_eq hok] at h1
  exact h1
end Go.Proofs.YtgpbaeehajkebaaGreatDoor
namespace Go.Proofs.YtgpbaeehajkebaaGreatDoor
open Go Go.RowKit Go.Kt Go.Kt.Rg Go.Maps
attribute [local go_sem] Oper.semAt_some
theorem neq_seq22 (f b c:Nat) (w:World):(binOp .eql 30 (.func (.func f) #[] #[.pointer (some ⟨b,0,none⟩),.pointer (some ⟨c,0,none⟩)]) .nilFunc).run Tryz.prog w = .ok (.bool false) w:=by kernel_rfl
theorem csame_self (v1 v2:Value) (l:List (Nat × Nat)) (w:World) (h1:PrR w v1 l) (h2:PrR w v2 l) (m1:l.length≤4611686018427387904) :
 Calls Tryz.prog 9 #[v1,v2] w fun e w'=>e = .returned (.bool true)∧Drawn w w' :=
 (csame v1 v2 l l w h1 h2 m1 m1).mono fun e w' ⟨a,b⟩=>⟨by rw[a,decide_eq_true rfl],b⟩
set_option maxRecDepth 100000 in
set_option maxHeartbeats 4000000 in
theorem cellsAll_c (f s:ByteArray) (t:Int) (w:World) (hEE:(PEnv w∧KTabX w)∧Lib.Utf8Tabs 3 4 w) (_ht : -9223372036854775808≤t∧t≤9223372036854775807) :
 Calls Tryz.prog 3 #[.string f,.string s,.int .i64 t] w fun e w'=>e = .returned (.bool true)∧Below w.heap.size w w':=by
 obtain⟨hE,hT⟩:=hEE
 have hfn:∀k,Fence.wide.fn k:=fun _=>trivial
 have hdep:Fence.wide.depth=none:=rfl
 obtain⟨n,hn⟩:∃n,w.heap.size=n:=⟨_,rfl⟩
 obtain⟨w0,hw0⟩:∃w0,w.alloc (.cells #[.int .i64 t] 3)=w0:=⟨_,rfl⟩
 have hb0:Below w.heap.size w w0:=by rw[←hw0];exact (Below.refl _ _).alloc (Nat.le_refl _) _
 have e0:w0.heap[n]? = some (.cells #[.int .i64 t] 3 (0,0)):=by rw[←hw0];exact alloc_at hn.symm
 have hz0:w0.heap.size=n+1:=by rw[←hw0];simp[hn]
 have CB:=Lib.hid (cboth f w0 ⟨hE.1.below hb0,hE.2.below hb0⟩)
 have CW:=Lib.hid (fun W (h:Below w.heap.size w W)=>cworks W (hE.1.below h) (tabs_below hT (tabs_size hT) h))
 have HT:=Lib.hid hT
 have HW0:=Lib.hid hw0
 clear hE hT hw0
 refine (callsIn_wide (n:=0)).1 ?_
 refine callsIn_of_wp_marks Tryz.func3 rfl trivial ?_ rfl
 simp only[Tryz.ntmps3,List.size_toArray,List.length_cons,List.length_nil,Nat.reduceAdd,Nat.reduceSub,Array.replicate_succ,Array.replicate_zero,List.push_toArray,List.append_toArray,List.nil_append,List.cons_append]
 gi_wp2_with fail
 rw[HW0.out]
 refine (callsIn_wide.2 CB.out).mono ?_
 rintro e w1 ⟨hb1,⟨x,y,rfl⟩|⟨g,gx,line,S,L,X,cv,kv,fv,dv,B0,ρ,rfl,hP,hW1,hPX,hXR⟩⟩
 ·have HB1:=Lib.hid (hb0.trans (hb1.mono hb0.size))
  clear hb1 e0 hb0
  gi_wp2_with fail
  refine (callsIn_wide.2 (CW.out w1 HB1.out)).mono ?_
  rintro e w9 ⟨rfl,hb9⟩
  have HB9:=Lib.hid (HB1.out.trans (hb9.mono HB1.out.size))
  clear hb9
  gi_wp2
  refine leaves_marks (Ds:=[]) List.nodup_nil (fun D h=>(by cases h)) (fun W' hk'=>⟨_,results_tmp rfl _ _ _,rfl,?_⟩)
  exact HB9.out.trans (hk'.below HB9.out.size (fun b h=>by cases h))
 have HB1:=Lib.hid (hb0.trans (hb1.mono hb0.size))
 have e1:w1.heap[n]? = some (.cells #[.int .i64 t] 3 (0,0)):=(hb1.block n (by omega)).trans e0
 by_cases hs:4096<s.size
 ·have hs1:(4096:Int)<s.size:=by omega
  clear hs hW1 HT hb1 hP hPX hXR e0 hb0 e1
  gi_wp2_with fail
  refine (callsIn_wide.2 (CW.out w1 HB1.out)).mono ?_
  rintro e w9 ⟨rfl,hb9⟩
  have HB9:=Lib.hid (HB1.out.trans (hb9.mono HB1.out.size))
  clear hb9
  gi_wp2
  refine leaves_marks (Ds:=[]) List.nodup_nil (fun D h=>(by cases h)) (fun W' hk'=>⟨_,results_tmp rfl _ _ _,rfl,?_⟩)
  exact HB9.out.trans (hk'.below HB9.out.size (fun b h=>by cases h))
 have hs1:¬(4096:Int)<s.size:=by omega
 have hs2:(s.size:Int)≤4096:=by omega
 have hz1:n+1≤w1.heap.size:=by have:=hb1.size;omega
 have DK:=Lib.hid (docK_of hP hXR hPX)
 have HT1:Hid (Lib.Utf8Tabs 3 4 w1):=Lib.hid (tabs_below HT.out (tabs_size HT.out) HB1.out)
 have HP1:=Lib.hid hW1
 have CE:=Lib.hid (fun W (h:Below w1.heap.size w1 W) i=>cEdge s i W (HP1.out.below h) (tabs_below HT1.out (tabs_size HT1.out) h) (by omega))
 have CX:=Lib.hid (fun W (h:Below w1.heap.size w1 W) i=>yEdge s i W (DK.out.below h) (by omega))
 have CC:=Lib.hid (fun W (h:Below w1.heap.size w1 W)=>cCount s W (HP1.out.below h) (tabs_below HT1.out (tabs_size HT1.out) h) (by omega))
 have CIA:=Lib.hid (fun bp bs W hc hq h9 hz9=>call_iter s bp bs w1 W hc hq HP1.out h9 hz9 HT1.out (by omega))
 have CIB:=Lib.hid (fun bp bs W hc hq h9 hz9=>cback_iter s bp bs w1 W hc hq HP1.out h9 hz9 HT1.out (by omega))
 have HOUT:=Lib.hid (fun i (h:i<0∨(s.size:Int)<i)=>edgP_out S s i h)
 have CY:=Lib.hid (yAll s w1 DK.out (by omega))
 have hlen:=celL_len S s
 obtain⟨C,hC⟩:∃C,celL S s=C:=⟨_,rfl⟩
 rw[hC] at hlen CC CIA CIB CY
 have hl6:C.length≤4097:=by omega
 clear hW1 HT hb1 hC hP hPX hXR e0 hb0 CB HW0 hlen
 gi_wp2_with fail
 refine (callsIn_wide.2 CY.out).mono ?_
 rintro e w2 ⟨v2,rfl,⟨a9,c9,rfl,hv2⟩,hb2⟩
 have hv2:PrR w2 (.slice a9 C.length c9) C:=⟨a9,c9,rfl,hv2⟩
 obtain⟨q,hq⟩:∃q,w2.heap.size=q:=⟨_,rfl⟩
 have CA:=Lib.hid (cAll_call g s w2)
 have HV2:=Lib.hid hv2
 have e2:w2.heap[n]? = some (.cells #[.int .i64 t] 3 (0,0)):=(hb2.block n (by omega)).trans e1
 clear hv2 CY e1
 gi_wp2_with fail
 refine (callsIn_wide.2 CA.out).mono ?_
 rintro e V3 ⟨rfl,hV3⟩
 have hz3:V3.heap.size=q+2:=by rw[←hV3];simp[hq]
 have p0:V3.heap[q]? = some (.cells #[.pointer (some ⟨g,0,none⟩)] 22 (0,0)):=by rw[←hV3];exact alloc_old (alloc_at hq.symm)
 have p1:V3.heap[q+1]? = some (.cells #[.string s] 9 (0,0)):=by rw[←hV3];exact alloc_at (by simp[hq])
 have hb3:Below q w2 V3:=by rw[←hV3];exact ((Below.refl _ _).alloc (by omega) _).alloc (by simp;omega) _
 have CBk:=Lib.hid (cBack_call g s V3)
 rw[hz3] at CBk
 rw[hq]
 clear hV3 CA
 gi_wp2_with fail
 refine (callsIn_wide.2 CBk.out).mono ?_
 rintro e V4 ⟨rfl,hV4⟩
 have hz4:V4.heap.size=q+4:=by rw[←hV4];simp[hz3]
 have r2:V4.heap[q+2]? = some (.cells #[.pointer (some ⟨g,0,none⟩)] 22 (0,0)):=by rw[←hV4];exact alloc_old (alloc_at hz3.symm)
 have r3:V4.heap[q+3]? = some (.cells #[.string s] 9 (0,0)):=by rw[←hV4];exact alloc_at (by simp[hz3])
 have hb4:Below (q+2) V3 V4:=by rw[←hV4];exact ((Below.refl _ _).alloc (by omega) _).alloc (by simp;omega) _
 have r0:=(hb4.block q (by omega)).trans p0
 have r1:=(hb4.block (q+1) (by omega)).trans p1
 have hb24:Below q w2 V4:=hb3.trans (hb4.mono (by omega))
 have hq1:w1.heap.size≤q:=by have:=hb2.size;omega
 have hb14:Below w1.heap.size w1 V4:=hb2.trans (hb24.mono hq1)
 have e4:=(hb24.block n (by omega)).trans e2
 have HV4:=Lib.hid (HV2.out.below (by rw[hq];exact hb24))
 have IA:Hid (∀W,Below (q+4) V4 W→Iter2 Tryz.prog 18 #[.pointer (some ⟨q+1,0,none⟩),.pointer (some ⟨q,0,none⟩)] encCP C (fun b=>b<w1.heap.size∨b=q+1∨b=q) W):=Lib.hid fun W h =>
  CIA.out q (q+1) W (cell_one ((h.block (q+1) (by omega)).trans r1)) (cell_one ((h.block q (by omega)).trans r0)) (hb14.trans (h.mono (by omega))).block (hb14.trans (h.mono (by omega))).size
 have IB:Hid (∀W,Below (q+4) V4 W→Iter2 Tryz.prog 22 #[.pointer (some ⟨q+3,0,none⟩),.pointer (some ⟨q+2,0,none⟩)] encCP C.reverse (fun b=>b<w1.heap.size∨b=q+3∨b=q+2) W):=Lib.hid fun W h =>
  CIB.out (q+2) (q+3) W (cell_one ((h.block (q+3) (by omega)).trans r3)) (cell_one ((h.block (q+2) (by omega)).trans r2)) (hb14.trans (h.mono (by omega))).block (hb14.trans (h.mono (by omega))).size
 have HB14:=Lib.hid hb14
 clear hV4 CBk p0 p1 hb3 hb4 hb24 r0 r1 r2 r3 CIA CIB e2 hb2 hb14 HV2 hz3
 have hnil:=neq_seq22
 gi_wp2_with fail
 refine rounds_ind (fun m' act w'=>1≤m'∧∃(T:Nat) (Ds:List Nat),(T+m'=3∧Ds.Nodup∧(∀D,D∈Ds→q+4≤D∧w'.heap[D]? = some (.deferred (some [])))∧Below (q+4) V4 w') ∧
  ∃(u3 u4 u14 u15 u16 u17 u18 u19 u20 u21 u22 u23 u24 u25 u26 u27 u28 u29 u30 u31 u32 u33 u34 u35 u36 u37 u38 u39 u40 u41 u42 u43 u44 u45 u46 u47 u48 u49 u50 u51 u52 u53 u54 u55 u56 u57 u58 u59 u60 u61 u62 u63 u64 u65 u66 u67 u68 u69 u70 u71 u72 u73 u74 u75 u76 u77 u78 u79 u80 u81 u82 u83 u84 u85 u86 u87 u88 u89 u90 u91 u92 u93 u94 u95 u96 u97 u98 u99 u100 u101 u102 u103 u104 u105 u106 u107 u108 u109:Value),act={ tmps:=#[.string f,.string s,.int .i64 t,u3,u4,.pointer (some ⟨n,0,none⟩),.bool false,.pointer (some ⟨g,0,none⟩),.pointer (some ⟨gx,0,none⟩),.bool true,.slice a9 C.length c9,.func (.func 18) #[] #[.pointer (some ⟨q+1,0,none⟩),.pointer (some ⟨q,0,none⟩)],.func (.func 22) #[] #[.pointer (some ⟨q+3,0,none⟩),.pointer (some ⟨q+2,0,none⟩)],.int .i64 (T:Nat),u14,u15,u16,u17,u18,u19,u20,u21,u22,u23,u24,u25,u26,u27,u28,u29,u30,u31,u32,u33,u34,u35,u36,u37,u38,u39,u40,u41,u42,u43,u44,u45,u46,u47,u48,u49,u50,u51,u52,u53,u54,u55,u56,u57,u58,u59,u60,u61,u62,u63,u64,u65,u66,u67,u68,u69,u70,u71,u72,u73,u74,u75,u76,u77,u78,u79,u80,u81,u82,u83,u84,u85,u86,u87,u88,u89,u90,u91,u92,u93,u94,u95,u96,u97,u98,u99,u100,u101,u102,u103,u104,u105,u106,u107,u108,u109],defers:=Ds.map fun D=>{ target:=.collected D,args:=#[] } }) ?step (fun a w h=>by have:=h.1;omega) 3 ?init
 case init =>
  refine⟨by omega,0,[],⟨rfl,List.nodup_nil,fun D h=>(by cases h),by rw[←hz4];exact Below.refl _ _⟩,?_⟩
  (repeat apply Exists.intro)
  rfl
 case step =>
  rintro m' act w' ⟨_,T,Ds,⟨hT3,hnd,hDs,hk⟩,hinv⟩
  obtain⟨u3,hinv⟩:=hinv;obtain⟨u4,hinv⟩:=hinv;obtain⟨u14,hinv⟩:=hinv;obtain⟨u15,hinv⟩:=hinv;obtain⟨u16,hinv⟩:=hinv;obtain⟨u17,hinv⟩:=hinv;obtain⟨u18,hinv⟩:=hinv;obtain⟨u19,hinv⟩:=hinv;obtain⟨u20,hinv⟩:=hinv;obtain⟨u21,hinv⟩:=hinv;obtain⟨u22,hinv⟩:=hinv;obtain⟨u23,hinv⟩:=hinv;obtain⟨u24,hinv⟩:=hinv;obtain⟨u25,hinv⟩:=hinv;obtain⟨u26,hinv⟩:=hinv;obtain⟨u27,hinv⟩:=hinv;obtain⟨u28,hinv⟩:=hinv;obtain⟨u29,hinv⟩:=hinv;obtain⟨u30,hinv⟩:=hinv;obtain⟨u31,hinv⟩:=hinv;obtain⟨u32,hinv⟩:=hinv;obtain⟨u33,hinv⟩:=hinv;obtain⟨u34,hinv⟩:=hinv;obtain⟨u35,hinv⟩:=hinv;obtain⟨u36,hinv⟩:=hinv;obtain⟨u37,hinv⟩:=hinv;obtain⟨u38,hinv⟩:=hinv;obtain⟨u39,hinv⟩:=hinv;obtain⟨u40,hinv⟩:=hinv;obtain⟨u41,hinv⟩:=hinv;obtain⟨u42,hinv⟩:=hinv;obtain⟨u43,hinv⟩:=hinv;obtain⟨u44,hinv⟩:=hinv;obtain⟨u45,hinv⟩:=hinv;obtain⟨u46,hinv⟩:=hinv;obtain⟨u47,hinv⟩:=hinv;obtain⟨u48,hinv⟩:=hinv;obtain⟨u49,hinv⟩:=hinv;obtain⟨u50,hinv⟩:=hinv;obtain⟨u51,hinv⟩:=hinv;obtain⟨u52,hinv⟩:=hinv;obtain⟨u53,hinv⟩:=hinv;obtain⟨u54,hinv⟩:=hinv;obtain⟨u55,hinv⟩:=hinv;obtain⟨u56,hinv⟩:=hinv;obtain⟨u57,hinv⟩:=hinv;obtain⟨u58,hinv⟩:=hinv;obtain⟨u59,hinv⟩:=hinv;obtain⟨u60,hinv⟩:=hinv;obtain⟨u61,hinv⟩:=hinv;obtain⟨u62,hinv⟩:=hinv;obtain⟨u63,hinv⟩:=hinv;obtain⟨u64,hinv⟩:=hinv;obtain⟨u65,hinv⟩:=hinv;obtain⟨u66,hinv⟩:=hinv;obtain⟨u67,hinv⟩:=hinv;obtain⟨u68,hinv⟩:=hinv;obtain⟨u69,hinv⟩:=hinv;obtain⟨u70,hinv⟩:=hinv;obtain⟨u71,hinv⟩:=hinv;obtain⟨u72,hinv⟩:=hinv;obtain⟨u73,hinv⟩:=hinv;obtain⟨u74,hinv⟩:=hinv;obtain⟨u75,hinv⟩:=hinv;obtain⟨u76,hinv⟩:=hinv;obtain⟨u77,hinv⟩:=hinv;obtain⟨u78,hinv⟩:=hinv;obtain⟨u79,hinv⟩:=hinv;obtain⟨u80,hinv⟩:=hinv;obtain⟨u81,hinv⟩:=hinv;obtain⟨u82,hinv⟩:=hinv;obtain⟨u83,hinv⟩:=hinv;obtain⟨u84,hinv⟩:=hinv;obtain⟨u85,hinv⟩:=hinv;obtain⟨u86,hinv⟩:=hinv;obtain⟨u87,hinv⟩:=hinv;obtain⟨u88,hinv⟩:=hinv;obtain⟨u89,hinv⟩:=hinv;obtain⟨u90,hinv⟩:=hinv;obtain⟨u91,hinv⟩:=hinv;obtain⟨u92,hinv⟩:=hinv;obtain⟨u93,hinv⟩:=hinv;obtain⟨u94,hinv⟩:=hinv;obtain⟨u95,hinv⟩:=hinv;obtain⟨u96,hinv⟩:=hinv;obtain⟨u97,hinv⟩:=hinv;obtain⟨u98,hinv⟩:=hinv;obtain⟨u99,hinv⟩:=hinv;obtain⟨u100,hinv⟩:=hinv;obtain⟨u101,hinv⟩:=hinv;obtain⟨u102,hinv⟩:=hinv;obtain⟨u103,hinv⟩:=hinv;obtain⟨u104,hinv⟩:=hinv;obtain⟨u105,hinv⟩:=hinv;obtain⟨u106,hinv⟩:=hinv;obtain⟨u107,hinv⟩:=hinv;obtain⟨u108,hinv⟩:=hinv;obtain⟨u109,hinv⟩:=hinv
  subst hinv
  by_cases hT2:T<2
  ·have hT2':(T:Int)<2:=by omega
   have hzk:=hk.size
   have HND:=Lib.hid hnd
   have HDs:=Lib.hid hDs
   have HK:=Lib.hid hk
   have CG:=Lib.hid (cgathered C _ _ _ w' w' (enters_of Tryz.func18 (by kernel_rfl) rfl) (IA.out w' hk) (fun b hb=>by rcases hb with h|h|h <;> omega) (fun _ _=>rfl) (Nat.le_refl _) (by omega))
   clear hnd hDs hk
   gi_wp2_with fail
   refine (callsIn_wide.2 CG.out).mono ?_
   rintro e w5 ⟨v5,rfl,hv5,hb5⟩
   have hk5:Below (q+4) V4 w5:=HK.out.trans (hb5.mono (by omega))
   have CS:=Lib.hid (csame_self _ _ _ w5 hv5 (HV4.out.below (by rw[hz4];exact hk5)) (by omega))
   have H5:=Lib.hid (And.intro hk5 hb5)
   obtain⟨a5,c5,rfl,_⟩:=hv5
   clear hk5 hb5 CG
   gi_wp2_with fail
   refine (callsIn_wide.2 CS.out).mono ?_
   rintro e w6 ⟨rfl,hd6⟩
   have hb6:Below w5.heap.size w5 w6:=hd6.below
   have hk6:Below (q+4) V4 w6:=H5.out.1.trans (hb6.mono (by have:=H5.out.1.size;omega))
   have CG:=Lib.hid (cgathered C.reverse _ _ _ w6 w6 (enters_of Tryz.func22 (by kernel_rfl) rfl) (IB.out w6 hk6) (fun b hb=>by have:=hk6.size;rcases hb with h|h|h <;> omega) (fun _ _=>rfl) (Nat.le_refl _) (by rw[List.length_reverse];omega))
   have H6:=Lib.hid (And.intro hk6 (H5.out.2.trans (hb6.mono H5.out.2.size)))
   clear hd6 hb6 hk6 CS
   gi_wp2_with fail
   refine (callsIn_wide.2 CG.out).mono ?_
   rintro e w7 ⟨v7,rfl,hv7,hb7⟩
   have hk7:Below (q+4) V4 w7:=H6.out.1.trans (hb7.mono (by have:=H6.out.1.size;omega))
   have CTu:=Lib.hid (cturned _ C w7 (HV4.out.below (by rw[hz4];exact hk7)) (by omega))
   obtain⟨a7,c7,rfl,hv7⟩:=hv7
   have HV7:Hid (PrR w7 (.slice a7 C.length c7) C.reverse):=Lib.hid ⟨a7,c7,by rw[List.length_reverse],hv7⟩
   rw[List.length_reverse]
   have H7:=Lib.hid (And.intro hk7 (H6.out.2.trans (hb7.mono H6.out.2.size)))
   clear hk7 hb7 CG hv7
   gi_wp2_with fail
   refine (callsIn_wide.2 CTu.out).mono ?_
   rintro e w8 ⟨v8,rfl,hv8,hb8⟩
   have hk8:Below (q+4) V4 w8:=H7.out.1.trans (hb8.mono (by have:=H7.out.1.size;omega))
   have CS:=Lib.hid (csame_self _ _ _ w8 (HV7.out.below hb8) hv8 (by rw[List.length_reverse];omega))
   obtain⟨a8,c8,rfl,_⟩:=hv8
   rw[List.length_reverse] at CS ⊢
   have H8:=Lib.hid (And.intro hk8 (H7.out.2.trans (hb8.mono H7.out.2.size)))
   clear hk8 hb8 CTu
   gi_wp2_with fail
   refine (callsIn_wide.2 CS.out).mono ?_
   rintro e w9 ⟨rfl,hd9⟩
   have hb9:Below w8.heap.size w8 w9:=hd9.below
   have hk9:Below (q+4) V4 w9:=H8.out.1.trans (hb9.mono (by have:=H8.out.1.size;omega))
   have hw9:Below w'.heap.size w' w9:=H8.out.2.trans (hb9.mono H8.out.2.size)
   obtain⟨kb,hkb⟩:∃kb,w9.heap.size=kb:=⟨_,rfl⟩
   obtain⟨WA,hWA⟩:∃WA,w9.alloc (.cells #[.int .i64 0] 3)=WA:=⟨_,rfl⟩
   have hzA:WA.heap.size=kb+1:=by rw[←hWA];simp[hkb]
   have hkA:Keep (fun _=>False) w9 WA:=by rw[←hWA];exact (Keep.refl _ _).alloc _
   have hbA:Below (q+4) V4 WA:=hk9.trans (hkA.below (by have:=hk9.size;omega) (fun _ h=>h.elim))
   have hqk:q+4≤kb:=by have:=hk9.size;omega
   have nA:WA.heap[kb]? = some (.cells #[.int .i64 0] 3 (0,0)):=by rw[←hWA];exact alloc_at hkb.symm
   have et:WA.heap[n]? = some (.cells #[.int .i64 t] 3 (0,0)):=(hbA.block n (by omega)).trans e4
   have hwA:Below w'.heap.size w' WA:=hw9.trans (hkA.below hw9.size (fun _ h=>h.elim))
   have rD:Hid (∀D,D∈Ds→q+4≤D∧D<kb∧WA.heap[D]? = some (.deferred (some []))):=Lib.hid fun D hD=>by
    obtain⟨h1,h3⟩:=HDs.out D hD
    have hl:=(Array.getElem?_eq_some_iff.1 h3).1
    exact⟨h1,by have:=hw9.size;omega,(hwA.block D hl).trans h3⟩
   have hfin:Hid (∀(D:Nat) (W:World) (D2:Nat) (W3:World),W.heap[D]? = some (.deferred (some []))→kb+1≤D→Below (q+4) V4 W→W.heap.size≤D2→W3.heap[D2]? = some (.deferred (some []))→Keep (fun x=>x=kb) W W3→Keep (fun x=>x=kb) WA W →
    (T+1+m'=3∧(D2::D::Ds).Nodup∧(∀D',D'∈D2::D::Ds→q+4≤D'∧W3.heap[D']? = some (.deferred (some [])))∧Below (q+4) V4 W3)):=Lib.hid (by
    intro D W D2 W3 hDd hD hbW hD2 hDd2 hk3 hkW
    have hDl:=(Array.getElem?_eq_some_iff.1 hDd).1
    refine⟨by omega,List.nodup_cons.2 ⟨?_,List.nodup_cons.2 ⟨fun h=>by have:=(rD.out D h).2.1;omega,HND.out⟩⟩,fun D' hD'=>?_,hbW.trans (hk3.below (by have:=hbW.size;omega) (fun b hb=>by omega))⟩
    ·intro h
     rcases List.mem_cons.1 h with h|h
     ·omega
     ·have:=(rD.out D2 h).2.1;have:=hkW.size;omega
    ·rcases List.mem_cons.1 hD' with rfl|hD'
     ·exact⟨by have:=hkW.size;omega,hDd2⟩
     ·rcases List.mem_cons.1 hD' with rfl|hD'
      ·exact⟨by omega,hk3.heap hDd (by omega)⟩
      ·obtain⟨h1,h2',h3⟩:=rD.out D' hD'
       exact⟨h1,hk3.heap (hkW.heap h3 (by omega)) (by omega)⟩)
   have HWA:=Lib.hid hWA
   clear hd9 hb9 hw9 hkA hk9 CS hWA hwA
   gi_wp2_with fail
   rw[HWA.out]
   refine loop_out2 (gf:=18) (lb:=#[.pointer (some ⟨q+1,0,none⟩),.pointer (some ⟨q,0,none⟩)]) (encs:=encCP) rfl (enters_of Tryz.func18 (by kernel_rfl) rfl)
    (IA.out WA hbA) (fun _=>rfl) (X:=fun b=>b=kb)
    (fun b hb=>by omega) (fun b hb=>by rcases hb with h|h|h <;> exact⟨by omega,by omega⟩) (fun _ _=>rfl) (Nat.le_refl _)
    (fun pre Y W=>W.heap[kb]? = some (.cells #[.int .i64 (pre.length:Nat)] 3 (0,0)))
    (fun c pre Y W=>c = .exit 2∧∃v:Int,0≤v∧v≤4097∧W.heap[kb]? = some (.cells #[.int .i64 v] 3 (0,0)))
    (fun pre Y W W' hk h'=>hk.heap h' (fun hx=>by have:=hx.1;omega))
    (fun pre Y W h'=>h')
    (fun c pre Y W W' hk h=>by obtain⟨h1,v,q1,q2,h3⟩:=h;exact⟨h1,v,q1,q2,hk.heap h3 (fun hx=>by have:=hx.1;omega)⟩) nA ?round ?done ?stop
   case round =>
    rintro l' hl' pre ⟨lo,up⟩ Y W5 hpre hi hk5 hY hlt hr
    simp only[encCP]
    gi_wp2
    refine⟨Keep.refl _ _,?_⟩
    rintro W2 _ hk2 hv hr2
    have hlen:pre.length<C.length:=by
     obtain⟨rest,hrest⟩:=hpre
     rw[←hrest];simp
    have x0:=cell_one hv
    have x1:=frozen_one hv
    have xt:=cell_one (hk2.heap et (fun hx=>by omega))
    obtain⟨k,hk9⟩:∃k,pre.length=k:=⟨_,rfl⟩
    have HV:=Lib.hid hv
    have HK9:=Lib.hid hk9
    rw[hk9] at x0 hlen
    have hk10:(k:Int)≤4097:=by omega
    clear hv hk2 hr2 hr hi hk5 hpre hk9
    gi_wp2_with fail
    ·exact⟨Y,(Keep.refl _ _).setCell (p:=⟨kb,0,none⟩) (.inl rfl) _,fun b h=>.inl h,rfl,_,by omega,by omega,set_at (u:=.int .i64 ((k:Int)+1)) HV.out⟩
    ·refine⟨Y,(Keep.refl _ _).setCell (p:=⟨kb,0,none⟩) (.inl rfl) _,fun b h=>.inl h,?_⟩
     have h9:=set_at (u:=.int .i64 ((k:Int)+1)) HV.out
     have e9:(pre++[(lo,up)]).length=k+1:=by simp[HK9.out]
     show (W2.setCell ⟨kb,0,none⟩ (.int .i64 ((k:Int)+1))).heap[kb]? = some (.cells #[.int .i64 ((pre++[(lo,up)]).length:Nat)] 3 (0,0))
     rw[e9]
     exact h9
   case done =>
    rintro D Y W hD hDd hv hY hDW
    have hbW:Below (q+4) V4 W:=hbA.trans (hDW.below (by have:=hbA.size;omega) (fun b hb=>by omega))
    obtain⟨v0,hvv,hq0,hq9⟩:∃v0:Int,v0=(C.length:Nat)∧0≤v0∧v0≤4097:=⟨_,rfl,by omega,by omega⟩
    have hv0:W.heap[kb]? = some (.cells #[.int .i64 v0] 3 (0,0)):=by rw[hvv];exact hv
    have hzW:=hDW.size
    have et:=hDW.heap et (by omega)
    clear hv hvv nA
    have HTb:Hid (Lib.Utf8Tabs 3 4 w1):=HT1
    gi_wp2_with fail
    refine loop_out2 (gf:=22) (lb:=#[.pointer (some ⟨q+3,0,none⟩),.pointer (some ⟨q+2,0,none⟩)]) (encs:=encCP) rfl (enters_of Tryz.func22 (by kernel_rfl) rfl)
     (IB.out W hbW) (fun _=>rfl) (X:=fun b=>b=kb)
     (fun b hb=>by omega) (fun b hb=>by rcases hb with h|h|h <;> exact⟨by omega,by omega⟩) (fun _ _=>rfl) (Nat.le_refl _)
     (fun pre Y W=>W.heap[kb]? = some (.cells #[.int .i64 (v0-(pre.length:Nat))] 3 (0,0)))
     (fun c pre Y W=>c = .exit 4∧∃v:Int,W.heap[kb]? = some (.cells #[.int .i64 v] 3 (0,0)))
     (fun pre Y W W' hk h'=>hk.heap h' (fun hx=>by have:=hx.1;omega))
     (fun pre Y W h'=>h')
     (fun c pre Y W W' hk h=>by obtain⟨h1,v,h3⟩:=h;exact⟨h1,v,hk.heap h3 (fun hx=>by have:=hx.1;omega)⟩) (by simpa using hv0) ?round2 ?done2 ?stop2
    case round2 =>
     rintro l' hl' pre ⟨lo,up⟩ Y W5 hpre hi hk5 hY hlt hr
     simp only[encCP]
     gi_wp2
     refine⟨Keep.refl _ _,?_⟩
     rintro W2 _ hk2 hv hr2
     have hlen:pre.length<C.length:=by
      obtain⟨rest,hrest⟩:=hpre
      have:=congrArg List.length hrest
      simp at this
      omega
     have x0:=cell_one hv
     have x1:=frozen_one hv
     have xt:=cell_one (hk2.heap et (fun hx=>by omega))
     obtain⟨k,hk9⟩:∃k,pre.length=k:=⟨_,rfl⟩
     have HV:=Lib.hid hv
     have HK9:=Lib.hid hk9
     rw[hk9] at x0 hlen
     have hw9:IntKind.i64.wrap (v0-(k:Nat)-1)=v0-(k:Nat)-1:=IntWalk.i64_in _ (by omega)
     clear hv hk2 hr2 hr hi hk5 hpre hk9 hlen
     gi_wp2_with fail
     ·refine⟨Y,(Keep.refl _ _).setCell (p:=⟨kb,0,none⟩) (.inl rfl) _,fun b h=>.inl h,rfl,_,set_at (u:=.int .i64 (v0-(k:Nat)-1)) HV.out⟩
     ·refine⟨Y,(Keep.refl _ _).setCell (p:=⟨kb,0,none⟩) (.inl rfl) _,fun b h=>.inl h,?_⟩
      have h9:=set_at (u:=.int .i64 (v0-(k:Nat)-1)) HV.out
      have e9:v0-(((pre++[(lo,up)]).length:Nat):Int)=v0-(k:Nat)-1:=by simp[HK9.out];omega
      show (W2.setCell ⟨kb,0,none⟩ (.int .i64 (v0-(k:Nat)-1))).heap[kb]? = some (.cells #[.int .i64 (v0-(((pre++[(lo,up)]).length:Nat):Int))] 3 (0,0))
      rw[e9]
      exact h9
    case done2 =>
     rintro D2 Y2 W3 hD2 hDd2 hv3 hY2 hkW3
     have HF:=Lib.hid (hfin.out D W D2 W3 hDd (by omega) hbW hD2 hDd2 hkW3 hDW)
     clear hv3 hkW3 hDd2 hfin hv0 hbW hDd hDW
     gi_wp2_with fail
     refine⟨by omega,T+1,D2::D::Ds,HF.out,?_⟩
     (repeat apply Exists.intro)
     rfl
    case stop2 =>
     rintro D2 c pre Y2 W3 hD2 hDd2 hpre ⟨rfl,v,hv3⟩ hY2 hkW3
     have HF:=Lib.hid (hfin.out D W D2 W3 hDd (by omega) hbW hD2 hDd2 hkW3 hDW)
     clear hv3 hkW3 hDd2 hfin hv0 hbW hDd hDW hpre
     gi_wp2_with fail
     refine⟨by omega,T+1,D2::D::Ds,HF.out,?_⟩
     (repeat apply Exists.intro)
     rfl
   case stop =>
    rintro D c pre Y W hD hDd hpre ⟨rfl,v0,hq0,hq9,hv0⟩ hY hDW
    have hbW:Below (q+4) V4 W:=hbA.trans (hDW.below (by have:=hbA.size;omega) (fun b hb=>by omega))
    have hzW:=hDW.size
    have et:=hDW.heap et (by omega)
    clear nA hpre
    have HTb:Hid (Lib.Utf8Tabs 3 4 w1):=HT1
    gi_wp2_with fail
    refine loop_out2 (gf:=22) (lb:=#[.pointer (some ⟨q+3,0,none⟩),.pointer (some ⟨q+2,0,none⟩)]) (encs:=encCP) rfl (enters_of Tryz.func22 (by kernel_rfl) rfl)
     (IB.out W hbW) (fun _=>rfl) (X:=fun b=>b=kb)
     (fun b hb=>by omega) (fun b hb=>by rcases hb with h|h|h <;> exact⟨by omega,by omega⟩) (fun _ _=>rfl) (Nat.le_refl _)
     (fun pre Y W=>W.heap[kb]? = some (.cells #[.int .i64 (v0-(pre.length:Nat))] 3 (0,0)))
     (fun c pre Y W=>c = .exit 4∧∃v:Int,W.heap[kb]? = some (.cells #[.int .i64 v] 3 (0,0)))
     (fun pre Y W W' hk h'=>hk.heap h' (fun hx=>by have:=hx.1;omega))
     (fun pre Y W h'=>h')
     (fun c pre Y W W' hk h=>by obtain⟨h1,v,h3⟩:=h;exact⟨h1,v,hk.heap h3 (fun hx=>by have:=hx.1;omega)⟩) (by simpa using hv0) ?round3 ?done3 ?stop3
    case round3 =>
     rintro l' hl' pre ⟨lo,up⟩ Y W5 hpre hi hk5 hY hlt hr
     simp only[encCP]
     gi_wp2
     refine⟨Keep.refl _ _,?_⟩
     rintro W2 _ hk2 hv hr2
     have hlen:pre.length<C.length:=by
      obtain⟨rest,hrest⟩:=hpre
      have:=congrArg List.length hrest
      simp at this
      omega
     have x0:=cell_one hv
     have x1:=frozen_one hv
     have xt:=cell_one (hk2.heap et (fun hx=>by omega))
     obtain⟨k,hk9⟩:∃k,pre.length=k:=⟨_,rfl⟩
     have HV:=Lib.hid hv
     have HK9:=Lib.hid hk9
     rw[hk9] at x0 hlen
     have hw9:IntKind.i64.wrap (v0-(k:Nat)-1)=v0-(k:Nat)-1:=IntWalk.i64_in _ (by omega)
     clear hv hk2 hr2 hr hi hk5 hpre hk9 hlen
     gi_wp2_with fail
     ·refine⟨Y,(Keep.refl _ _).setCell (p:=⟨kb,0,none⟩) (.inl rfl) _,fun b h=>.inl h,rfl,_,set_at (u:=.int .i64 (v0-(k:Nat)-1)) HV.out⟩
     ·refine⟨Y,(Keep.refl _ _).setCell (p:=⟨kb,0,none⟩) (.inl rfl) _,fun b h=>.inl h,?_⟩
      have h9:=set_at (u:=.int .i64 (v0-(k:Nat)-1)) HV.out
      have e9:v0-(((pre++[(lo,up)]).length:Nat):Int)=v0-(k:Nat)-1:=by simp[HK9.out];omega
      show (W2.setCell ⟨kb,0,none⟩ (.int .i64 (v0-(k:Nat)-1))).heap[kb]? = some (.cells #[.int .i64 (v0-(((pre++[(lo,up)]).length:Nat):Int))] 3 (0,0))
      rw[e9]
      exact h9
    case done3 =>
     rintro D2 Y2 W3 hD2 hDd2 hv3 hY2 hkW3
     have HF:=Lib.hid (hfin.out D W D2 W3 hDd (by omega) hbW hD2 hDd2 hkW3 hDW)
     clear hv3 hkW3 hDd2 hfin hv0 hbW hDd hDW
     gi_wp2_with fail
     refine⟨by omega,T+1,D2::D::Ds,HF.out,?_⟩
     (repeat apply Exists.intro)
     rfl
    case stop3 =>
     rintro D2 c pre Y2 W3 hD2 hDd2 hpre ⟨rfl,v,hv3⟩ hY2 hkW3
     have HF:=Lib.hid (hfin.out D W D2 W3 hDd (by omega) hbW hD2 hDd2 hkW3 hDW)
     clear hv3 hkW3 hDd2 hfin hv0 hbW hDd hDW hpre
     gi_wp2_with fail
     refine⟨by omega,T+1,D2::D::Ds,HF.out,?_⟩
     (repeat apply Exists.intro)
     rfl
  ·obtain rfl:T=2:=by omega
   have hzk:=hk.size
   have HND:=Lib.hid hnd
   have HDs:=Lib.hid hDs
   have HK:=Lib.hid (And.intro hk (HB14.out.trans (hk.mono (by omega))))
   clear hnd hDs hk
   gi_wp2_with fail
   gi_loopw [15] (fun z wr=>∃i:Int,z = .int .i64 i∧-2≤i∧i≤s.size+3∧Hid (Below w'.heap.size w' wr)) (fun z _=>(s.size+3-RowKit.intOf z).toNat)
   case atStart=>exact⟨-2,rfl,by omega,by omega,Lib.hid (Below.refl _ _)⟩
   case round =>
    obtain⟨i,rfl,hi1,hi2,HI⟩:=hrel
    by_cases hlt:i≤s.size+2
    ·have hw1:Below w1.heap.size w1 wr:=HK.out.2.trans (HI.out.mono HK.out.2.size)
     obtain⟨b,hbb⟩:∃b,edgP S s i=b:=⟨_,rfl⟩
     have CEi:=Lib.hid (CE.out wr hw1 i)
     have CXi:=Lib.hid (fun W (h:Below w1.heap.size w1 W)=>CX.out W h i)
     rw[hbb] at CEi CXi
     have HW1:=Lib.hid hw1
     have hi9:IntKind.i64.wrap (i+1)=i+1:=IntWalk.i64_in _ (by omega)
     clear hbb hw1
     cases b
     all_goals
      gi_wp2_with fail
      refine (callsIn_wide.2 CEi.out).mono ?_
      rintro e W5 ⟨rfl,hb5⟩
      have H5:=Lib.hid hb5
      clear hb5
      gi_wp2_with fail
      refine (callsIn_wide.2 (CXi.out W5 (HW1.out.trans (H5.out.mono HW1.out.size)))).mono ?_
      rintro e W6 ⟨rfl,hb6⟩
      have H6:=Lib.hid (H5.out.trans (hb6.mono H5.out.size))
      clear hb6
      gi_wp2_with fail
      go_roundw
      case rel=>exact⟨i+1,rfl,by omega,by omega,Lib.hid (HI.out.trans (H6.out.mono HI.out.size))⟩
      case measure=>simp[RowKit.intOf];omega
    ·obtain rfl:i=s.size+3:=by omega
     have hw1:Below w1.heap.size w1 wr:=HK.out.2.trans (HI.out.mono HK.out.2.size)
     have CN:=Lib.hid (CC.out wr hw1)
     have CEm:=Lib.hid (fun W (h:Below w1.heap.size w1 W)=>CE.out W h (-9223372036854775808))
     have CEx:=Lib.hid (fun W (h:Below w1.heap.size w1 W)=>CE.out W h 9223372036854775807)
     rw[HOUT.out (-9223372036854775808) (by omega)] at CEm
     rw[HOUT.out 9223372036854775807 (by omega)] at CEx
     have HW1:=Lib.hid hw1
     clear hw1 HOUT CE CX CC
     gi_wp2_with fail
     refine (callsIn_wide.2 CN.out).mono ?_
     rintro e W5 ⟨rfl,hb5⟩
     have H5:=Lib.hid hb5
     clear hb5
     gi_wp2_with fail
     refine (callsIn_wide.2 (CEm.out W5 (HW1.out.trans (H5.out.mono HW1.out.size)))).mono ?_
     rintro e W6 ⟨rfl,hb6⟩
     have H6:=Lib.hid (H5.out.trans (hb6.mono H5.out.size))
     clear hb6
     gi_wp2_with fail
     refine (callsIn_wide.2 (CEx.out W6 (HW1.out.trans (H6.out.mono HW1.out.size)))).mono ?_
     rintro e W7 ⟨rfl,hb7⟩
     have H7:=Lib.hid (H6.out.trans (hb7.mono H6.out.size))
     clear hb7
     gi_wp2_with fail
     have hw7:Below w.heap.size w W7:=HB1.out.trans ((HW1.out.trans (H7.out.mono HW1.out.size)).mono HB1.out.size)
     refine (callsIn_wide.2 (CW.out W7 hw7)).mono ?_
     rintro e W8 ⟨rfl,hb8⟩
     have H8:=Lib.hid (And.intro (hw7.trans (hb8.mono hw7.size)) (HI.out.trans ((H7.out.trans (hb8.mono H7.out.size)).mono HI.out.size)))
     clear hb8 hw7
     gi_wp2_with fail
     refine leaves_marks (Ds:=Ds) HND.out (fun D hD=>by
      obtain⟨h1,h3⟩:=HDs.out D hD
      exact (H8.out.2.block D (Array.getElem?_eq_some_iff.1 h3).1).trans h3) (fun W' hk'=>⟨_,results_tmp rfl _ _ _,rfl,?_⟩)
     exact H8.out.1.trans (hk'.below H8.out.1.size (fun D h=>by have:=(HDs.out D h).1;omega))
end Go.Proofs.YtgpbaeehajkebaaGreatDoor
