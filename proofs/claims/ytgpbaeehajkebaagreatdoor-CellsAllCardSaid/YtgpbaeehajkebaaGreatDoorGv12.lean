/- Parts of the proof of what the last text says. -/
import Derived.Test.YtgpbaeehajkebaaGreatDoorOjx
import Derived.Test.YtgpbaeehajkebaaGreatDoorGv10
import Derived.Test.YtgpbaeehajkebaaGreatDoorGv11
import Derived.Test.YtgpbaeehajkebaaGreatDoorGv6
import Derived.OwnWalk
import Derived.Deep.AppendLies
import Derived.BigRegionIn
import Derived.LoopIn
import Derived.BigFrameIn
namespace Go.Proofs.YtgpbaeehajkebaaGreatDoor
open Go Go.RowKit Go.Kt Go.Kt.Os Go.Sort
set_option maxRecDepth 100000 in
set_option maxHeartbeats 1000000 in
theorem oSort (blk off cap n:Nat) (d:Array Int) (w:World) (hn:d.size=n) (hH:Holds E32 w blk off d) (hblk:blk<w.heap.size) (hsz:n<4611686018427387904) :
 Calls Tryz.prog 99 #[.slice (some ⟨blk,off,none⟩) n cap] w fun e w'=>e = .returned (.tuple #[])∧∃d',(PermIn 0 n d d'∧SortedIn ltInt 0 n d')∧SW w blk off d' w':=by
 have C0:=Tryz.bits_Len (n:Int) w (by omega) (by omega)
 rw[Int.toNat_natCast] at C0
 have hl:Lib.bitLen n<4611686018427387904:=by have:=bl_le 64 n;show Lib.bitLenAux 64 n<_;omega
 obtain⟨k,hk⟩:∃k,Lib.bitLen n=k:=⟨_,rfl⟩
 rw[hk] at C0 hl
 have D0:=oPdq blk off cap n hsz (n+1) 0 n k d w (by omega) hn hH hblk (by omega) (Nat.le_refl _) hl (.inl rfl)
 rw[show ((0:Nat):Int)=0 from rfl] at D0
 have C:=Lib.hid C0
 have D:=Lib.hid D0
 clear C0 D0 hk hH hn
 go_enter Tryz.func99,Tryz.ntmps99
 go_wp2_with (first|(go_at_call 130;refine C.out.mono ?_;rintro e w1 ⟨rfl,rfl⟩)|(go_at_call 129;refine D.out.mono ?_;rintro e w2 ⟨rfl,hd⟩))
 go_end0
 exact⟨rfl,hd⟩
set_option maxRecDepth 100000 in
set_option maxHeartbeats 1000000 in
theorem oIns_nil (w:World):Calls Tryz.prog 149 #[.slice none 0 0,.int .i64 0,.int .i64 0] w fun e w'=>e = .returned (.tuple #[])∧w'=w:=by
 go_enter Tryz.func149,Tryz.ntmps149
 go_wp2
 go_loopw [6] (fun vi wr=>vi = .int .i64 1∧wr=w) (fun _ _=>0)
 case atStart=>exact⟨rfl,rfl⟩
 case round =>
  obtain⟨rfl,rfl⟩:=hrel
  go_wp2
  go_end0
  exact⟨rfl,rfl⟩
set_option maxRecDepth 100000 in
set_option maxHeartbeats 1000000 in
theorem oPdq_nil (w:World):Calls Tryz.prog 129 #[.slice none 0 0,.int .i64 0,.int .i64 0,.int .i64 0] w fun e w'=>e = .returned (.tuple #[])∧w'=w:=by
 go_enter Tryz.func129,Tryz.ntmps129
 go_wp2
 go_loopw [1,2,3,8,9] (fun s1 s2 s3 s8 s9 wr=>s1 = .int .i64 0∧s2 = .int .i64 0∧s3 = .int .i64 0∧s8 = .bool true∧s9 = .bool true∧wr=w) (fun _ _ _ _ _ _=>0)
 case atStart=>exact⟨rfl,rfl,rfl,rfl,rfl,rfl⟩
 case round =>
  obtain⟨rfl,rfl,rfl,rfl,rfl,rfl⟩:=hrel
  go_wp2_with (go_at_call 149;refine (oIns_nil _).mono ?_;rintro e w1 ⟨rfl,rfl⟩)
  (try simp only[Exit.inBlock,Exit.then]);refine bodyPost_ret (results_none rfl _ _ _) rfl ?_
  exact⟨rfl,rfl⟩
set_option maxRecDepth 100000 in
set_option maxHeartbeats 1000000 in
theorem oSort_nil (w:World):Calls Tryz.prog 99 #[.slice none 0 0] w fun e w'=>e = .returned (.tuple #[])∧w'=w:=by
 have C0:=Tryz.bits_Len 0 w (by omega) (by omega)
 rw[show Lib.bitLen (0:Int).toNat=0 from rfl] at C0
 have C:=Lib.hid C0
 clear C0
 go_enter Tryz.func99,Tryz.ntmps99
 go_wp2_with (first|(go_at_call 130;refine C.out.mono ?_;rintro e w1 ⟨rfl,rfl⟩)|(go_at_call 129;refine (oPdq_nil _).mono ?_;rintro e w2 ⟨rfl,rfl⟩))
 go_end0
 exact⟨rfl,rfl⟩
end Go.Proofs.YtgpbaeehajkebaaGreatDoor
namespace Go.Proofs.YtgpbaeehajkebaaGreatDoor
open Go Go.RowKit Go.Kt Go.Kt.Rg Go.Maps Go.Kt.Os Go.Sort
def RsV (B:Nat) (v:Value) (L:List Nat) (w:World):Prop :=
 (L=[]∧v = .slice none 0 0)∨∃g cp,v = .slice (some ⟨g,0,none⟩) L.length cp∧L.length≤cp∧B≤g∧g<w.heap.size∧∀(i:Nat) (x:Nat),L[i]? = some x→w.cell? ⟨g,i,none⟩=some (.int .i32 (x:Nat))
theorem pcollect (vs:Nat→Option Value) (gf:Nat) (lb:Array Value) (Nd:Nat→Prop) (w w0:World) (eg:∀args w,(callFunc gf args).run Tryz.prog w = .ok (.enter gf args) w)
 (hit:Iter5 Tryz.prog gf lb encK (OkK vs) (FinK vs) (fun _=>False) Nd w0) (hNd:∀b,Nd b→b<w.heap.size) (hNdw:∀b,Nd b→w.heap[b]? = w0.heap[b]?) (hw0:w0.heap.size≤w.heap.size) (hbd:∀x,(vs x).isSome=true→x<1114112) :
 Calls Tryz.prog 98 #[.func (.func gf) #[] lb] w fun e w'=>∃L ao cp,FinK vs L∧e = .returned (.slice ao L.length cp)∧OwnS (fun b=>w.heap.size≤b) 21 1 (.slice ao L.length cp) L.length (encN L) w'∧Below w.heap.size w w':=by
 have C:=Lib.hid (pappend_any vs gf lb Nd w w0 eg hit hNd hNdw hw0 hbd)
 clear eg hit hNd hNdw hw0 hbd
 go_enter Tryz.func98,Tryz.ntmps98
 go_wp2_with fail
 refine C.out.mono ?_
 rintro e w1 ⟨L,ao,cp,h1,rfl,h2,h3⟩
 have H:=Lib.hid (And.intro h1 (And.intro h2 h3))
 clear h1 h2 h3
 go_wp2
 go_ret
 exact⟨L,ao,cp,H.out.1,rfl,H.out.2.1,H.out.2.2⟩
theorem rise_of {L:List Nat} {d':Array Int} {n:Nat} (hn:L.length=n) (hnd:L.Nodup) (hp:PermIn 0 n (L.map (fun x:Nat=>(x:Int))).toArray d') (hs:SortedIn ltInt 0 n d') :
 ∃Ls:List Nat,Ls.length=n∧d'=(Ls.map (fun x:Nat=>(x:Int))).toArray∧Ls.Perm L∧Ls.Pairwise (· < ·):=by
 obtain⟨h1,_,h3⟩:=hp
 have hz:d'.size=n:=by rw[h1];simp[hn]
 have e1:d'.extract 0 n=d':=by rw[←hz];simp
 have e2:((L.map (fun x:Nat=>(x:Int))).toArray).extract 0 n=(L.map (fun x:Nat=>(x:Int))).toArray:=by
  have:((L.map (fun x:Nat=>(x:Int))).toArray).size=n:=by simp[hn]
  rw[←this];simp
  exact List.take_of_length_le (by simp)
 rw[e1,e2] at h3
 have h3:d'.toList.Perm (L.map (fun x:Nat=>(x:Int))):=h3
 have hnn:∀y∈d'.toList,0≤y:=fun y hy=>by
  obtain⟨x,_,rfl⟩:=List.mem_map.1 (h3.mem_iff.1 hy)
  omega
 have hb:(d'.toList.map Int.toNat).map (fun x:Nat=>(x:Int))=d'.toList:=by
  rw[List.map_map]
  conv=>rhs;rw[←List.map_id d'.toList]
  refine List.map_congr_left fun y hy=>?_
  have:=hnn y hy
  simp only[Function.comp,id]
  omega
 have hperm:(d'.toList.map Int.toNat).Perm L:=by
  have:=h3.map Int.toNat
  rw[List.map_map] at this
  have e:(Int.toNat∘fun x:Nat=>(x:Int))=id:=by funext x;simp
  rw[e,List.map_id] at this
  exact this
 have hlen:(d'.toList.map Int.toNat).length=n:=by rw[List.length_map];exact hz
 refine⟨d'.toList.map Int.toNat,hlen,?_,hperm,?_⟩
 ·rw[hb]
 ·have hnd2:=hperm.nodup_iff.2 hnd
  rw[List.pairwise_iff_getElem]
  intro i j hi hj hij
  have h4:=hs i j (Nat.zero_le _) hij (by omega)
  have h5:i<d'.size:=by omega
  have h6:j<d'.size:=by omega
  rw[getElem!_pos d' i h5,getElem!_pos d' j h6] at h4
  have h7:¬d'[j]<d'[i]:=by simpa [ltInt] using h4
  have h8:=(List.pairwise_iff_getElem.1 hnd2) i j hi hj hij
  have h9:(d'.toList.map Int.toNat)[i]=(d'[i]).toNat:=by simp
  have h10:(d'.toList.map Int.toNat)[j]=(d'[j]).toNat:=by simp
  rw[h9,h10] at h8 ⊢
  omega
set_option maxRecDepth 100000 in
set_option maxHeartbeats 2000000 in
theorem psorted (vs:Nat→Option Value) (gf:Nat) (lb:Array Value) (Nd:Nat→Prop) (w w0:World) (eg:∀args w,(callFunc gf args).run Tryz.prog w = .ok (.enter gf args) w)
 (hit:Iter5 Tryz.prog gf lb encK (OkK vs) (FinK vs) (fun _=>False) Nd w0) (hNd:∀b,Nd b→b<w.heap.size) (hNdw:∀b,Nd b→w.heap[b]? = w0.heap[b]?) (hw0:w0.heap.size≤w.heap.size) (hbd:∀x,(vs x).isSome=true→x<1114112) :
 Calls Tryz.prog 63 #[.func (.func gf) #[] lb] w fun e w'=>∃L v,L.Pairwise (· < ·)∧(∀x,x∈L↔(vs x).isSome=true)∧e = .returned v∧RsV w.heap.size v L w'∧Below w.heap.size w w':=by
 have C:=Lib.hid (pcollect vs gf lb Nd w w0 eg hit hNd hNdw hw0 hbd)
 have HBD:=Lib.hid hbd
 clear eg hit hNd hNdw hw0 hbd
 go_enter Tryz.func63,Tryz.ntmps63
 go_wp2_with fail
 refine C.out.mono ?_
 rintro e w1 ⟨L,ao,cp,h1,rfl,h2,h3⟩
 rcases h2.shape with ⟨hv,h0⟩|⟨g,cap,hv,hg,hgl⟩
 ·have hL:L=[]:=List.eq_nil_of_length_eq_zero h0
  subst hL
  cases hv
  have H:=Lib.hid (And.intro h1 h3)
  have C2:=Lib.hid (oSort_nil w1)
  clear h1 h2 h3
  simp only[List.length_nil]
  go_wp2_with fail
  refine C2.out.mono ?_
  rintro e w2 ⟨rfl,rfl⟩
  go_wp2
  go_ret
  exact⟨[],_,List.Pairwise.nil,H.out.1.2,rfl,.inl ⟨rfl,rfl⟩,H.out.2⟩
 ·cases hv
  obtain⟨n,hn⟩:∃n,L.length=n:=⟨_,rfl⟩
  have hln:n≤1114112:=by rw[←hn];exact nodup_le 1114112 L h1.1 (fun x hx=>HBD.out x ((h1.2 x).1 hx))
  obtain⟨d,hd⟩:∃d:Array Int,(L.map (fun x:Nat=>(x:Int))).toArray=d:=⟨_,rfl⟩
  have hds:d.size=n:=by rw[←hd];simp[hn]
  have hH:Holds E32 w1 g 0 d:=fun j hj=>by
   have hjl:j<L.length:=by omega
   refine⟨?_,by rw[Nat.zero_add];exact h2.frozen j⟩
   rw[Nat.zero_add]
   refine h2.at0 (i:=j) ?_
   have e1:d[j]! = (L[j]:Int):=by rw[getElem!_pos d j hj];simp[←hd]
   rw[e1]
   simp[encN,List.getElem?_map,List.getElem?_eq_getElem hjl]
  rw[hn]
  have C2:=Lib.hid (oSort g 0 cp n d w1 hds hH hgl (by omega))
  have hcp:Hid (n≤cp):=Lib.hid (by
   rcases h2.1.2 with ⟨hv,_⟩|⟨g',cap',cur,hv,_,hgg,hnc,_⟩
   ·cases hv
   ·cases hv;rw[hn] at hnc;exact hnc)
  have H:=Lib.hid (And.intro h1 (And.intro h3 (And.intro hn (And.intro hg (And.intro hgl (And.intro hd hds))))))
  clear h1 h2 h3 hH hn hds hg hgl hd hln
  go_wp2_with fail
  refine C2.out.mono ?_
  rintro e w2 ⟨rfl,d',hps,hsw⟩
  have H2:=Lib.hid (And.intro hps hsw)
  clear hps hsw
  go_wp2
  go_ret
  obtain⟨h1,h3,hn,hg,hgl,hd,hds⟩:=H.out
  obtain⟨hps,hsw⟩:=H2.out
  rw[←hd] at hps
  obtain⟨Ls,hl,hd',hpm,hpw⟩:=rise_of hn h1.1 hps.1 hps.2
  have hgw:w.heap.size≤g:=hg
  refine⟨Ls,_,hpw,fun x=>by rw[hpm.mem_iff];exact h1.2 x,rfl,.inr ⟨g,cp,by rw[hl];rfl,by rw[hl];exact hcp.out,hgw,Nat.lt_of_lt_of_le hgl hsw.keep.size,fun i x hx=>?_⟩,h3.trans (hsw.keep.below h3.size (fun b hb=>by omega))⟩
  have hil:=(List.getElem?_eq_some_iff.1 hx).1
  have hsz:d'.size=Ls.length:=by rw[hd'];simp
  have:=(hsw.holds i (by omega)).1
  rw[Nat.zero_add,getElem!_pos d' i (by omega)] at this
  rw[this]
  have e1:d'[i]=(x:Int):=by
   simp only[hd',List.getElem_toArray,List.getElem_map]
   rw[(List.getElem?_eq_some_iff.1 hx).2]
  rw[e1]
theorem pdecomposed {B0:Nat} {ρ:Nat→Nat} {R:RdB} {line n m:Nat} {S:RdS} {cv kv:Value} (w:World) (hR:RdW B0 ρ R line n m S cv kv w) (hbd:∀x,(S.ds x).isSome=true→x<1114112) :
 Calls Tryz.prog 32 #[.pointer (some ⟨R.g,0,none⟩)] w fun e w'=>∃L v,L.Pairwise (· < ·)∧(∀x,x∈L↔(S.ds x).isSome=true)∧e = .returned v∧RsV w.heap.size v L w'∧Below w.heap.size w w':=by
 have c4:w.cell? ⟨R.g,4,none⟩=some (.map (some R.bd)):=by rw[Lib.cell_of_heap hR.cell];rfl
 obtain⟨hB,vs,hM,hs,_⟩:=hR.d
 obtain⟨w1,hw1⟩:∃w1,w.alloc (.cells #[.map (some R.bd)] 70)=w1:=⟨_,rfl⟩
 have hb1:Below w.heap.size w w1:=by rw[←hw1];exact (Below.refl _ _).alloc (Nat.le_refl _) _
 have hz1:w1.heap.size=w.heap.size+1:=by rw[←hw1];exact Array.size_push _
 have hbs:w1.cell? ⟨w.heap.size,0,none⟩=some (.map (some R.bd)):=by rw[←hw1,Lib.cell_of_heap (heap_alloc_new _ _)];rfl
 have hM1:MapG Tryz.prog 21 R.bd n (ptF vs) w1:=hM.below hb1 hM.lt
 have hit:=pkeys_iter R.bd n vs w.heap.size w1 hbs hM1
 have hml:=hM.lt
 have CS:=Lib.hid (psorted vs _ _ _ w1 w1 enters_keys hit (fun b hb=>by rcases hb with rfl|rfl <;> omega) (fun _ _=>rfl) (Nat.le_refl _) (fun x hx=>hbd x (by rw[←hs x];exact hx)))
 have CK:=Lib.hid (pkeys_call R.bd w)
 have HS:=Lib.hid hs
 have HB:=Lib.hid (And.intro hb1 (And.intro hz1 hw1))
 clear hR hB hM hs hb1 hz1 hbs hM1 hit hml hbd hw1
 go_enter Tryz.func32,Tryz.ntmps32
 go_wp2_with fail
 refine CK.out.mono ?_
 rintro e w2 ⟨rfl,hw2⟩
 have e2:w2=w1:=hw2.symm.trans HB.out.2.2
 subst e2
 clear hw2
 go_wp2_with fail
 refine CS.out.mono ?_
 rintro e w3 ⟨L,v,h1,h2,rfl,h4,h5⟩
 have H:=Lib.hid (And.intro h1 (And.intro h2 (And.intro h4 h5)))
 clear h1 h2 h4 h5
 go_wp2
 go_ret
 obtain⟨h1,h2,h4,h5⟩:=H.out
 refine⟨L,v,h1,fun x=>by rw[h2 x,HS.out x],rfl,?_,HB.out.1.trans (h5.mono (by have:=HB.out.2.1;omega))⟩
 rcases h4 with h4|⟨g,cp,h6,h7,h8,h9,h10⟩
 ·exact .inl h4
 ·exact .inr ⟨g,cp,h6,h7,by have:=HB.out.2.1;omega,h9,h10⟩
end Go.Proofs.YtgpbaeehajkebaaGreatDoor
namespace Go.Proofs.YtgpbaeehajkebaaGreatDoor
open Go Go.RowKit Go.Kt Go.Kt.Rg Go.Maps Go.Kt.Os Go.Sort
def RowsV (v:Value) (rows:List (Nat × Nat × Int)) (w:World):Prop :=
 ∃g cp,v = .slice (some ⟨g,0,none⟩) rows.length cp∧rows.length≤cp∧∀(i:Nat) (r:Nat × Nat × Int),rows[i]? = some r→w.cell? ⟨g,i*3,none⟩=some (.int .i32 r.1)∧w.cell? ⟨g,i*3+1,none⟩=some (.int .i32 r.2.1)∧w.cell? ⟨g,i*3+2,none⟩=some (.int .i64 r.2.2)
theorem RowsV.below {v:Value} {rows:List (Nat × Nat × Int)} {A B:World} (h:RowsV v rows A) (hb:RowKit.Below A.heap.size A B):RowsV v rows B:=by
 obtain⟨g,cp,rfl,h1,h2⟩:=h
 exact⟨g,cp,rfl,h1,fun i r hr=>⟨(hb.cell (lt_of_cell (h2 i r hr).1)).trans (h2 i r hr).1,(hb.cell (lt_of_cell (h2 i r hr).2.1)).trans (h2 i r hr).2.1,(hb.cell (lt_of_cell (h2 i r hr).2.2)).trans (h2 i r hr).2.2⟩⟩
def edgL (rows:List (Nat × Nat × Int)):List Nat:=rows.flatMap fun r=>[r.1,r.2.1+1]
theorem edgL_snoc (l:List (Nat × Nat × Int)) (r:Nat × Nat × Int):edgL (l++[r])=edgL l++[r.1,r.2.1+1]:=by simp[edgL]
theorem edgL_len (l:List (Nat × Nat × Int)):(edgL l).length=2*l.length:=by
 induction l with
 | nil=>rfl
 | cons r t ih=>simp[edgL] at ih ⊢;omega
theorem edge_mem {E:List Nat} {d d':Array Int} {n m:Nat} {F:Nat→Int} (hd:(E.map (fun x:Nat=>(x:Int))).toArray=d) (hds:d.size=n) (hp:PermIn 0 n d d') (hF:∀x,(∃t,t<m∧F t=x)↔∃t,t<n∧d'[t]! = x) (X:Int) :
 (∃t,t<m∧F t=X)↔∃y∈E,(y:Int)=X:=by
 obtain⟨h1,_,h3⟩:=hp
 have hz:d'.size=n:=by rw[h1];exact hds
 have e1:d'.extract 0 n=d':=by rw[←hz];simp
 have e2:d.extract 0 n=d:=by rw[←hds];simp
 rw[e1,e2] at h3
 rw[hF]
 have h5:(∃t,t<n∧d'[t]! = X)↔X∈d'.toList:=by
  constructor
  ·rintro⟨t,ht,rfl⟩
   rw[getElem!_pos d' t (by omega)]
   exact Array.getElem_mem_toList (by omega)
  ·intro h
   obtain⟨t,ht,he⟩:=List.getElem_of_mem h
   have ht2:t<d'.size:=by simpa using ht
   exact⟨t,by omega,by rw[getElem!_pos d' t ht2,←he];rfl⟩
 rw[h5,h3.mem_iff,←hd]
 simp[eq_comm]
def EdgI (h:Nat) (rows:List (Nat × Nat × Int)) (w:World) (k:Nat) (v:Value) (wr:World):Prop :=
 OwnS (fun b=>h≤b) 21 1 v (2*k) (encN (edgL (rows.take k))) wr∧RowKit.Below h w wr
set_option maxRecDepth 100000 in
set_option maxHeartbeats 4000000 in
theorem pedgesOf (rows:List (Nat × Nat × Int)) (sv:Value) (w:World) (hS:RowsV sv rows w) (hne:rows≠[]) (hn:rows.length≤1000000) (hr:∀r∈rows,r.1≤1114111∧r.2.1≤1114111) :
 Calls Tryz.prog 103 #[sv] w fun e w'=>∃(L:List Nat) (v:Value),e = .returned v∧RsV w.heap.size v L w'∧L.Pairwise (· < ·)∧(∀x,x∈L↔x∈edgL rows)∧RowKit.Below w.heap.size w w':=by
 obtain⟨g,cp,rfl,hcp,hc⟩:=hS
 obtain⟨n,hl⟩:∃n,rows.length=n:=⟨_,rfl⟩
 have h0:1≤n:=by rw[←hl];exact List.length_pos_iff.2 hne
 rw[hl] at hcp hn ⊢
 obtain⟨h,hh⟩:∃h,w.heap.size=h:=⟨_,rfl⟩
 have HC:=Lib.hid hc
 have HR:=Lib.hid hr
 have HL:=Lib.hid (And.intro hl hne)
 rw[hh]
 have q1:IntKind.i64.wrap (2*(n:Int))=((2*n:Nat):Int):=by rw[IntWalk.i64_in _ (by omega)];omega
 clear hc hr hl hne
 go_enter Tryz.func103,Tryz.ntmps103
 go_wp2_with (at_make;refine wpList_make_own _ rfl _ _ _ rfl w.heap.size 21 _ (.int .i32 0) 1 Tryz.underlying78 rfl rfl rfl .i64 .i64 (2*(n:Int)) (2*n) rfl rfl (by omega) (by show 4*(2*n)≤_;omega) (by unfold maxLen;omega) (Nat.le_refl _) ?_;intro w1 hown1 hgr1)
 have H1:Hid (EdgI h rows w 0 (.slice (some ⟨h,0,none⟩) (2*0) (2*n)) w1):=Lib.hid (by
  try rw[hh] at hown1
  refine⟨⟨⟨hown1.1,?_⟩,fun b hb=>by simp[Value.ownBlock] at hb;omega⟩,⟨hgr1.os,hgr1.tape,hgr1.output,hgr1.size,fun x hx=>hgr1.block x (by omega) (fun e=>by cases e)⟩⟩
  rcases hown1.2 with h2|⟨g2,c2,C,e2,h5⟩
  ·exact .inl h2
  ·exact .inr ⟨g2,c2,C,e2,Nat.zero_le _,h5.2⟩)
 clear hown1 hgr1
 go_loopw [3,12] (fun v j wr=>∃(k:Nat) (ao:Option Addr) (cap:Nat),v = .slice ao (2*k) cap∧j = .int .i64 k∧k≤n∧EdgI h rows w k (.slice ao (2*k) cap) wr) (fun _ j _=>n-(RowKit.intOf j).toNat)
 case atStart=>exact⟨0,_,_,rfl,rfl,by omega,H1.out⟩
 case round =>
  clear H1
  obtain⟨k,ao,cap,rfl,rfl,hk,hI⟩:=hrel
  by_cases hlt:k<n
  ·have hlt':(k:Int)<(n:Int):=by omega
   obtain⟨r,hr⟩:∃r,rows[k]? = some r:=⟨_,List.getElem?_eq_getElem (by rw[HL.out.1];exact hlt)⟩
   have hc:=HC.out k r hr
   have hrb:=HR.out r (List.mem_of_getElem? hr)
   have htk:edgL (rows.take (k+1))=edgL (rows.take k)++[r.1,r.2.1+1]:=by rw[List.take_add_one,hr];exact edgL_snoc _ _
   obtain⟨lo,hi,vv⟩:=r
   simp only at hc hrb htk
   obtain⟨hown,hbw⟩:=hI
   have hs:=hbw.size
   have d0:=(hbw.cell (by have:=lt_of_cell hc.1;omega)).trans hc.1
   have d1:=(hbw.cell (by have:=lt_of_cell hc.2.1;omega)).trans hc.2.1
   have d2:=(hbw.cell (by have:=lt_of_cell hc.2.2;omega)).trans hc.2.2
   have q2:IntKind.i32.wrap ((hi:Int)+1)=((hi+1:Nat):Int):=by rw[IntWalk.i32_in _ (by omega)];omega
   obtain⟨W1,hW1⟩:∃W1,wr.alloc (.cells #[.int .i32 (lo:Nat),.int .i32 (hi:Nat),.int .i64 vv] 126)=W1:=⟨_,rfl⟩
   have hb1:RowKit.Below wr.heap.size wr W1:=by rw[←hW1];exact (RowKit.Below.refl _ _).alloc (Nat.le_refl _) _
   have hz1:W1.heap.size=wr.heap.size+1:=by rw[←hW1];exact Array.size_push _
   have hx1:W1.heap[wr.heap.size]? = some (.cells #[.int .i32 (lo:Nat),.int .i32 (hi:Nat),.int .i64 vv] 126 (0,0)):=by rw[←hW1];exact heap_alloc_new _ _
   have HW:=Lib.hid (And.intro hb1 (And.intro hz1 (And.intro hx1 (And.intro hown (And.intro hbw htk)))))
   have e0:W1.cell? ⟨wr.heap.size,0,none⟩=some (.int .i32 (lo:Nat)):=by rw[Lib.cell_of_heap hx1];rfl
   have e1:W1.cell? ⟨wr.heap.size,1,none⟩=some (.int .i32 (hi:Nat)):=by rw[Lib.cell_of_heap hx1];rfl
   obtain⟨W2,hW2⟩:∃W2,W1.alloc (.cells #[.int .i32 (lo:Nat),.int .i32 ((hi:Int)+1)] 21)=W2:=⟨_,rfl⟩
   have hb2:RowKit.Below h w W2:=by rw[←hW2];exact (hbw.trans (hb1.mono (by omega))).alloc (by omega) _
   have hz2:W2.heap.size=wr.heap.size+2:=by
    have h8:W2.heap.size=W1.heap.size+1:=by rw[←hW2];exact Array.size_push _
    omega
   have hx2:W2.heap[W1.heap.size]? = some (.cells #[.int .i32 (lo:Nat),.int .i32 ((hi:Int)+1)] 21 (0,0)):=by rw[←hW2];exact heap_alloc_new _ _
   have ho1:=OwnS.keep (X:=fun _=>False) hown (Keep.of_all hb1) (fun _ h=>h.elim)
   have ho2:=OwnS.keep (X:=fun _=>False) ho1 (Keep.of_all (show RowKit.Below W1.heap.size W1 W2 by rw[←hW2];exact (RowKit.Below.refl _ _).alloc (Nat.le_refl _) _)) (fun _ h=>h.elim)
   obtain⟨ti,hti,hzz,hs1',hbt⟩:=info_parts tinfoI32
   obtain⟨g2,cap2,w3,hrun,ho3,hgr,hat,hlt3⟩:=run_append_lies (P:=Tryz.prog) W2 78 78 0 21 ti (.int .i32 0) 1 4 Tryz.underlying78 hti hzz hs1' hbt rfl (by decide) (.slice ao (2*k) cap) (2*k) (encN (edgL (rows.take k))) ho2.1 ⟨W1.heap.size,0,none⟩ 2 2 [.int .i32 (lo:Nat),.int .i32 ((hi:Int)+1)] rfl
    (fun j u hj=>by rw[Addr.add_lit,Lib.cell_of_heap hx2];simpa using hj) (by intro u hu;simp at hu;rcases hu with rfl|rfl <;> rfl) (by decide) (by unfold maxLen;omega) (by omega) (Nat.zero_le _) _ rfl
   have hg2:h≤g2:=by
    rcases hat with hx|hx
    ·exact ho2.2 g2 hx
    ·have:=hb2.size;omega
   have hfin:EdgI h rows w (k+1) (.slice (some ⟨g2,0,none⟩) (2*k+2) cap2) w3:=by
    refine⟨⟨?_,fun b hb=>by simp[Value.ownBlock] at hb;omega⟩,hb2.trans ((keep_grown hgr).below (by have:=hb2.size;omega) (fun b hb=>ho2.2 b hb))⟩
    have e:encN (edgL (rows.take (k+1)))=encN (edgL (rows.take k))++[.int .i32 (lo:Nat),.int .i32 ((hi:Int)+1)]:=by
     rw[htk]
     simp[encN]
    rw[e]
    exact ho3
   have HF:=Lib.hid hfin
   have HRun:=Lib.hid hrun
   have e0:W1.cell? ⟨wr.heap.size,0,none⟩=some (.int .i32 (lo:Nat)):=by rw[Lib.cell_of_heap hx1];rfl
   have e1:W1.cell? ⟨wr.heap.size,1,none⟩=some (.int .i32 (hi:Nat)):=by rw[Lib.cell_of_heap hx1];rfl
   clear hc hrb htk hown hbw hs hb1 hz1 hx1 hlt hr hb2 hz2 hx2 ho1 ho2 hti hzz hs1' hbt hrun ho3 hgr hat hlt3 hg2 hfin
   go_wp2_with (at_builtin;refine wpList_append_eq rfl rfl rfl rfl (fun _=>HRun.out) ?_)
   exact⟨⟨k+1,some ⟨g2,0,none⟩,cap2,rfl,by go_num,by omega,HF.out⟩,by simp[RowKit.intOf];omega⟩
  ·have hkn:k=n:=by omega
   subst hkn
   have hlt':¬(k:Int)<(k:Int):=by omega
   obtain⟨hown,hbw⟩:=hI
   have htk:rows.take k=rows:=by rw[←HL.out.1];exact List.take_length
   rw[htk] at hown
   rcases hown.shape with ⟨_,h0'⟩|⟨gb,cap',hv,hg,hgl⟩
   ·omega
   cases hv
   obtain⟨d,hd⟩:∃d:Array Int,((edgL rows).map (fun x:Nat=>(x:Int))).toArray=d:=⟨_,rfl⟩
   have hel:(edgL rows).length=2*k:=by rw[edgL_len,HL.out.1]
   have hds:d.size=2*k:=by rw[←hd];simp[hel]
   have hH:Holds E32 wr gb 0 d:=fun j hj=>by
    have hjl:j<(edgL rows).length:=by omega
    refine⟨?_,by rw[Nat.zero_add];exact hown.frozen j⟩
    rw[Nat.zero_add]
    refine hown.at0 (i:=j) ?_
    have e1:d[j]! = ((edgL rows)[j]:Int):=by rw[getElem!_pos d j hj];simp[←hd]
    rw[e1]
    simp[encN,List.getElem?_map,List.getElem?_eq_getElem hjl]
   have C2:=Lib.hid (oSort gb 0 cap (2*k) d wr hds hH hgl (by omega))
   have hcp:2*k≤cap∧cap≤maxLen:=by
    rcases hown.1.2 with ⟨hv,_⟩|⟨g',cap',cur,hv,_,hgg,hnc,hcm,_⟩
    ·cases hv
    ·cases hv;exact⟨hnc,hcm⟩
   have H:=Lib.hid (And.intro hbw (And.intro hd (And.intro hds (And.intro hg (And.intro hgl (And.intro hel hcp))))))
   clear hown hbw htk hd hds hH hg hgl hel hcp hlt
   go_wp2_with fail
   refine C2.out.mono ?_
   rintro e w2 ⟨rfl,d',hps,hsw⟩
   have hds':d'.size=2*k:=by rw[hps.1.1];exact H.out.2.2.1
   have hRW:RW gb 0 (2*k) (fun t=>d'[t]!) w2:=fun t ht=>hsw.holds t (by omega)
   have hsd:∀i j,i≤j→j<2*k→d'[i]!≤d'[j]!:=fun i j hij hj=>by
    by_cases e:i=j
    ·rw[e];exact Int.le_refl _
    ·have:=hps.2 i j (Nat.zero_le _) (by omega) hj
     have h7:¬d'[j]! < d'[i]!:=by simpa [ltInt] using this
     omega
   have C3:=Lib.hid (oCompact gb 0 cap (2*k) (fun t=>d'[t]!) w2 hRW hsd (by omega) H.out.2.2.2.2.2.2.1 (by have:=H.out.2.2.2.2.2.2.2;unfold maxLen at this;omega))
   have H2:=Lib.hid (And.intro hps hsw)
   clear hps hsw hds' hRW hsd
   go_wp2_with fail
   refine C3.out.mono ?_
   rintro e w3 hO
   obtain⟨m,F,rfl,hm1,hm2,hF1,hF2,hF3,hk3⟩:=hO
   have H3:=Lib.hid (And.intro hm1 (And.intro hm2 (And.intro hF1 (And.intro hF2 (And.intro hF3 hk3)))))
   clear hm1 hm2 hF1 hF2 hF3 hk3
   go_wp2
   go_ret
   obtain⟨hbw,hd,hds,hg,hgl,hel,hcp1,hcp2⟩:=H.out
   obtain⟨hps,hsw⟩:=H2.out
   obtain⟨hm1,hm2,hF1,hF2,hF3,hk3⟩:=H3.out
   have hkey:=edge_mem hd hds hps.1 hF2
   have hge:h≤gb:=hg
   refine⟨(List.range m).map fun t=>(F t).toNat,_,rfl,.inr ⟨gb,cap,by simp only[List.length_map,List.length_range];rfl,by simp only[List.length_map,List.length_range];omega,hge,Nat.lt_of_lt_of_le hgl (Nat.le_trans hsw.keep.size hk3.size),fun i x hx=>?_⟩,?_,fun x=>?_,hbw.trans ((hsw.keep.trans hk3).below (by have:=hbw.size;omega) (fun b hb=>by omega))⟩
   ·have him:i<m:=by have:=(List.getElem?_eq_some_iff.1 hx).1;simpa using this
    have hxe:(F i).toNat=x:=by
     have:=(List.getElem?_eq_some_iff.1 hx).2
     simpa using this
    obtain⟨y,_,hy⟩:=(hkey (F i)).1 ⟨i,him,rfl⟩
    have h9:=hF3 i him
    rw[Nat.zero_add] at h9
    rw[h9,←hxe,←hy,Int.toNat_natCast]
   ·rw[List.pairwise_map]
    refine List.pairwise_lt_range.imp_of_mem ?_
    intro i j hi hj hij
    rw[List.mem_range] at hi hj
    have h1:=hF1 i j hij hj
    obtain⟨y,_,hy⟩:=(hkey (F i)).1 ⟨i,hi,rfl⟩
    omega
   ·rw[List.mem_map]
    constructor
    ·rintro⟨t,ht,rfl⟩
     rw[List.mem_range] at ht
     obtain⟨y,hy,he⟩:=(hkey (F t)).1 ⟨t,ht,rfl⟩
     rw[←he,Int.toNat_natCast]
     exact hy
    ·intro hx
     obtain⟨t,ht,he⟩:=(hkey (x:Int)).2 ⟨x,hx,rfl⟩
     exact⟨t,List.mem_range.2 ht,by rw[he];simp⟩
end Go.Proofs.YtgpbaeehajkebaaGreatDoor
namespace Go.Proofs.YtgpbaeehajkebaaGreatDoor
open Go Go.RowKit Go.Kt Go.Kt.Rg Go.Maps
attribute [local go_sem] Oper.semAt_some
def backL (rows:List (Nat × Nat × Int)):List (Nat × Nat × Nat × Int):=((List.range rows.length).map fun i=>(i,rows.getD i (0,0,0))).reverse
theorem backL_len (rows:List (Nat × Nat × Int)):(backL rows).length=rows.length:=by simp[backL]
theorem backL_get (rows:List (Nat × Nat × Int)) {k:Nat} (hk:k<rows.length):(backL rows)[k]? = some (rows.length-1-k,rows.getD (rows.length-1-k) (0,0,0)):=by
 unfold backL
 rw[List.getElem?_reverse (by simpa using hk)]
 simp only[List.length_map,List.length_range,List.getElem?_map]
 rw[List.getElem?_range (by omega)]
 rfl
def encB (x:Nat × Nat × Nat × Int):Array Value:=#[.int .i64 x.1,.agg #[.int .i32 x.2.1,.int .i32 x.2.2.1,.int .i64 x.2.2.2]]
theorem pback_call (g n cp:Nat) (w:World) :
 Calls Tryz.prog 105 #[.slice (some ⟨g,0,none⟩) n cp] w fun e w'=>e = .returned (.func (.func 132) #[] #[.pointer (some ⟨w.heap.size,0,none⟩)])∧w.alloc (.cells #[.slice (some ⟨g,0,none⟩) n cp] 69)=w':=by
 go_enter Tryz.func105,Tryz.ntmps105
 go_wp2
 go_ret
 exact⟨rfl,rfl⟩
theorem enters_back:∀args w,(callFunc 132 args).run Tryz.prog w = .ok (.enter 132 args) w:=enters_of Tryz.func132 (by kernel_rfl) rfl
set_option maxRecDepth 100000 in
set_option maxHeartbeats 4000000 in
theorem pback_iter (rows:List (Nat × Nat × Int)) (n g cp bs:Nat) (w0:World) (hn:rows.length=n) (hbs:w0.cell? ⟨bs,0,none⟩=some (.slice (some ⟨g,0,none⟩) n cp)) (hn2:n≤1073741824)
 (hc:∀(i:Nat) (r:Nat × Nat × Int),rows[i]? = some r→w0.cell? ⟨g,i*3,none⟩=some (.int .i32 r.1)∧w0.cell? ⟨g,i*3+1,none⟩=some (.int .i32 r.2.1)∧w0.cell? ⟨g,i*3+2,none⟩=some (.int .i64 r.2.2)) :
 Iter2 Tryz.prog 132 #[.pointer (some ⟨bs,0,none⟩)] encB (backL rows) (fun x=>x=bs∨x=g) w0:=by
 intro m X J Jx W hNd hX hsame hsz hJ hJx hSl hY h0
 have q1:W.cell? ⟨bs,0,none⟩=some (.slice (some ⟨g,0,none⟩) n cp):=(World.cell?_of_block (a:=⟨bs,0,none⟩) (hsame bs (.inl rfl))).trans hbs
 have HC:Hid (∀(i:Nat) (r:Nat × Nat × Int),rows[i]? = some r→W.cell? ⟨g,i*3,none⟩=some (.int .i32 r.1)∧W.cell? ⟨g,i*3+1,none⟩=some (.int .i32 r.2.1)∧W.cell? ⟨g,i*3+2,none⟩=some (.int .i64 r.2.2)):=Lib.hid fun i r hr=>by
  have h:=hc i r hr
  have e:=hsame g (.inr rfl)
  exact⟨(World.cell?_of_block (a:=⟨g,_,none⟩) e).trans h.1,(World.cell?_of_block (a:=⟨g,_,none⟩) e).trans h.2.1,(World.cell?_of_block (a:=⟨g,_,none⟩) e).trans h.2.2⟩
 have hXb:Hid (¬X bs∧¬X g):=Lib.hid ⟨hNd bs (.inl rfl),hNd g (.inr rfl)⟩
 have HK:=Lib.hid (And.intro hX (And.intro hJ (And.intro hJx (And.intro hSl hY))))
 have HG:=Lib.hid (fun k (hk:k<rows.length)=>backL_get rows hk)
 have HLN:Hid ((backL rows).length=n):=Lib.hid (by rw[backL_len,hn])
 have HN:=Lib.hid hn
 obtain⟨L,hL⟩:∃L,backL rows=L:=⟨_,rfl⟩
 rw[hL] at HK HG HLN ⊢
 have hfn:∀k,Fence.wide.fn k:=fun _=>trivial
 have hdep:Fence.wide.depth=none:=rfl
 have q0:IntKind.i64.wrap ((n:Int)-1)=(n:Int)-1:=IntWalk.i64_in _ (by omega)
 clear hNd hsame hsz hX hJ hJx hSl hY hc hbs hn hL
 refine (callsIn_wide (n:=0)).1 ?_
 refine callsIn_of_wp Tryz.func132 rfl trivial ?_ rfl
 simp only[Tryz.ntmps132,List.size_toArray,List.length_cons,List.length_nil,Nat.reduceAdd,Nat.reduceSub,Array.replicate_succ,Array.replicate_zero,List.push_toArray,List.append_toArray,List.nil_append,List.cons_append]
 gi_wp2_with fail
 gi_loopw [3] (fun x wr=>∃(k:Nat) (Y:Nat→Prop),x = .int .i64 ((n:Int)-1-k)∧k≤n∧(∀y,Y y→W.heap.size≤y)∧J (L.take k) Y wr∧Keep X W wr) (fun x _=>(RowKit.intOf x+1).toNat)
 case atStart=>exact⟨0,fun _=>False,by simp,by omega,fun _ h=>h.elim,by simpa using h0,Keep.refl _ _⟩
 case round =>
  obtain⟨k,Y,rfl,hk,hYl,hJs,hkp⟩:=hrel
  have q2:=hkp.cell q1 hXb.out.1
  have HI:=Lib.hid (And.intro hYl (And.intro hJs hkp))
  by_cases hlt:k<n
  ·obtain⟨i,hi⟩:∃i,n-1-k=i:=⟨_,rfl⟩
   have hii:(n:Int)-1-k=(i:Int):=by omega
   have hin:i<n:=by omega
   obtain⟨r,hr⟩:∃r,rows[i]? = some r:=⟨_,List.getElem?_eq_getElem (by rw[HN.out];exact hin)⟩
   have hg:=HG.out k (by rw[HN.out];exact hlt)
   rw[HN.out,hi,List.getD_eq_getElem?_getD,hr] at hg
   have hcr:=HC.out i r hr
   have htk:L.take (k+1)=L.take k++[(i,r)]:=by rw[List.take_add_one,hg];rfl
   have hpx:L.take k++[(i,r)] <+: L:=by rw[←htk];exact List.take_prefix _ _
   obtain⟨lo,hi',vv⟩:=r
   simp only at hcr
   have d0:=hkp.cell hcr.1 hXb.out.2
   have d1:=hkp.cell hcr.2.1 hXb.out.2
   have d2:=hkp.cell hcr.2.2 hXb.out.2
   have b0:(0:Int)≤(i:Int):=by omega
   have b1:(i:Int)<(n:Int):=by omega
   have hyy:YieldAt Fence.wide 0 Tryz.prog m #[.int .i64 (i:Nat),.agg #[.int .i32 (lo:Nat),.int .i32 (hi':Nat),.int .i64 vv]] wr _:=HK.out.2.2.2.2 (L.take k) (i,lo,hi',vv) Y wr hpx hJs hkp.size hYl
   obtain⟨fn,tmps,assign,body,hy,hR⟩:=hyy
   have q3:IntKind.i64.wrap ((i:Int)-1)=(i:Int)-1:=IntWalk.i64_in _ (by omega)
   have HT:=Lib.hid (And.intro htk (And.intro hpx hi))
   rw[hii]
   clear hg hcr htk hpx hYl hJs hkp hr hi hii
   gi_wp2_with fail
   refine hR.mono ?_
   rintro e3 V3 ⟨Y',hk4,hY',(⟨rfl,hJ3⟩|⟨rfl,hJx3⟩)⟩
   all_goals have hk3:=HI.out.2.2
   all_goals have hzk:=hk3.size
   all_goals have hkW:Keep X W V3:=⟨hk4.os.trans hk3.os,hk4.tape.trans hk3.tape,hk4.output.trans hk3.output,Nat.le_trans hk3.size hk4.size,fun b hb hx=>(hk4.same b (Nat.lt_of_lt_of_le hb hk3.size) (fun h=>by rcases h with h|h;exact hx h;have:=HI.out.1 b h;omega)).trans (hk3.same b hb hx)⟩
   all_goals have hYl2:∀b,Y' b→W.heap.size≤b:=fun b hb=>by rcases hY' b hb with h|h;exact HI.out.1 b h;omega
   ·have HF:=Lib.hid (And.intro hYl2 (And.intro hJ3 hkW))
    clear hk4 hk3 hYl2 hJ3 hkW hY'
    gi_wp2_with fail
    go_roundw
    case rel=>exact⟨k+1,Y',by have:=HT.out.2.2;congr 1;omega,by omega,HF.out.1,by rw[HT.out.1];exact HF.out.2.1,HF.out.2.2⟩
    case measure=>(simp[RowKit.intOf] <;> omega)
   ·have HF:=Lib.hid (And.intro hYl2 (And.intro hJx3 hkW))
    clear hk4 hk3 hYl2 hJx3 hkW hY'
    gi_wp2_with fail
    refine bodyPost_ret (results_none rfl _ _ _) rfl ?_
    exact⟨⟨_,rfl⟩,HF.out.2.2,.inr ⟨_,Y',HT.out.2.1,HF.out.1,HF.out.2.1⟩⟩
  ·have hkn:k=n:=by omega
   subst hkn
   have b0:¬(0:Int)≤(k:Int)-1-k:=by omega
   have e:L.take k=L:=by rw[←HLN.out];exact List.take_length
   rw[e] at HI
   clear hYl hJs hkp e
   gi_wp2_with fail
   go_end0
   exact⟨⟨_,rfl⟩,HI.out.2.2,.inl ⟨Y,HI.out.1,HI.out.2.1⟩⟩
end Go.Proofs.YtgpbaeehajkebaaGreatDoor
namespace Go.Proofs.YtgpbaeehajkebaaGreatDoor
open Go Go.RowKit Go.Kt Go.Kt.Rg Go.Maps Go.Kt.Os Go.Sort

abbrev Rw3:=Nat × Nat × Int
def holdsR (x:Rw3) (e:Nat):Prop:=x.1≤e∧e≤x.2.1
instance (x:Rw3) (e:Nat):Decidable (holdsR x e):=inferInstanceAs (Decidable (_∧_))
def lastV:List Rw3→Nat→Option Int
  | [],_=>none
  | x::t,e=>match lastV t e with
    | some v=>some v
    | none=>if holdsR x e then some x.2.2 else none
theorem lastV_none {l:List Rw3} {e:Nat}:lastV l e=none↔∀x∈l,¬holdsR x e:=by
  induction l with
  | nil=>exact⟨fun _ _ h=>(by cases h),fun _=>rfl⟩
  | cons x t ih =>
    unfold lastV
    cases h:lastV t e with
    | some v =>
      refine⟨fun h1=>(by cases h1),fun h1=>?_⟩
      have:=ih.2 (fun y hy=>h1 y (List.mem_cons_of_mem _ hy))
      rw[h] at this;cases this
    | none =>
      have h2:=ih.1 h
      simp only
      split
      · rename_i h3
        exact⟨fun h1=>(by cases h1),fun h1=>absurd h3 (h1 x List.mem_cons_self)⟩
      · rename_i h3
        exact⟨fun _ y hy=>by rcases List.mem_cons.1 hy with rfl|hy;exact h3;exact h2 y hy,fun _=>rfl⟩
def ToldW (E:List Nat) (l:List Rw3) (P:Nat→Prop) (V:Nat→Int):Prop :=
  ∀j e,E[j]? = some e→(P j↔lastV l e=none)∧V j=(lastV l e).getD 0
theorem ToldW.cons {E:List Nat} {l:List Rw3} {P P':Nat→Prop} {V V':Nat→Int} (h:ToldW E l P V) {x:Rw3} {first at_:Nat} (hE:E.Pairwise (· < ·)) (hf:E[first]? = some x.1) (ha:∀e,E[at_]? = some e→x.2.1<e) (hat:at_<E.length)
    (hb:∀j e,first≤j→j<at_→E[j]? = some e→P j→e≤x.2.1)
    (hP:∀j,j<E.length→(P' j↔P j∧(j<first∨at_≤j))) (hV1:∀j,P j→first≤j→j<at_→V' j=x.2.2) (hV2:∀j,j<E.length→¬(P j∧first≤j∧j<at_)→V' j=V j):ToldW E (x::l) P' V':=by
  have hlt:∀i j a b,E[i]? = some a→E[j]? = some b→i<j→a<b:=fun i j a b hi hj hij=>by
    have h1:=(List.getElem?_eq_some_iff.1 hi)
    have h2:=(List.getElem?_eq_some_iff.1 hj)
    rw[←h1.2,←h2.2]
    exact (List.pairwise_iff_getElem.1 hE) i j h1.1 h2.1 hij
  intro j e hj
  have hjl:=(List.getElem?_eq_some_iff.1 hj).1
  obtain⟨h1,h2⟩:=h j e hj
  obtain⟨ea,hea⟩:∃ea,E[at_]? = some ea:=⟨_,List.getElem?_eq_getElem hat⟩
  have hax:=ha ea hea
  rw[hP j hjl]
  unfold lastV
  cases hl:lastV l e with
  | some v =>
    have hp:¬P j:=fun hp=>by have:=h1.1 hp;rw[hl] at this;cases this
    rw[hV2 j hjl (fun h=>hp h.1),h2,hl]
    exact⟨⟨fun h=>absurd h.1 hp,fun h=>(by cases h)⟩,rfl⟩
  | none =>
    have hp:P j:=h1.2 hl
    simp only
    by_cases hh:holdsR x e
    · have hjf:first≤j:=by
        refine Nat.le_of_not_lt fun hlt2=>?_
        have:=hlt j first e x.1 hj hf hlt2
        have:=hh.1
        omega
      have hja:j<at_:=by
        refine Nat.lt_of_not_le fun hle=>?_
        have:=hh.2
        by_cases e2:at_=j
        · subst e2;rw[hea] at hj;cases hj;omega
        · have:=hlt at_ j ea e hea hj (by omega)
          omega
      rw[if_pos hh,hV1 j hp hjf hja]
      exact⟨⟨fun h=>(by omega),fun h=>(by cases h)⟩,rfl⟩
    · have hn:¬(first≤j∧j<at_):=fun hq=>hh (by
        have hle:=hb j e hq.1 hq.2 hj hp
        refine⟨?_,hle⟩
        by_cases e2:first=j
        · subst e2;rw[hf] at hj;cases hj;exact Nat.le_refl _
        · have:=hlt first j x.1 e hf hj (by omega)
          omega)
      rw[if_neg hh,hV2 j hjl (fun h=>hn h.2),h2,hl]
      exact⟨⟨fun _=>rfl,fun _=>⟨hp,by omega⟩⟩,rfl⟩
end Go.Proofs.YtgpbaeehajkebaaGreatDoor
namespace Go.Proofs.YtgpbaeehajkebaaGreatDoor
open Go Go.RowKit Go.Kt Go.Kt.Rg Go.Maps Go.Kt.Os Go.Sort
def runVal (L:List (Nat × Int)) (r:Int):Int:=L.foldl (fun a x=>if (x.1:Int)≤r then x.2 else a) 0
theorem runVal_snoc (L:List (Nat × Int)) (x:Nat × Int) (r:Int):runVal (L++[x]) r=if (x.1:Int)≤r then x.2 else runVal L r:=by
 unfold runVal
 rw[List.foldl_append]
 rfl
theorem runVal_neg (L:List (Nat × Int)) (r:Int) (h:r<0):runVal L r=0:=by
 unfold runVal
 have:∀(L:List (Nat × Int)) (a:Int),L.foldl (fun a x=>if (x.1:Int)≤r then x.2 else a) a=a:=by
  intro L
  induction L with
  | nil=>intro a;rfl
  | cons x t ih=>intro a;rw[List.foldl_cons,if_neg (by omega)];exact ih a
 exact this L 0
theorem runVal_at (L:List (Nat × Int)) (k:Nat) (r:Int) (hk:k≤L.length) (h1:∀i x,L[i]? = some x→i<k→(x.1:Int)≤r) (h2:∀i x,L[i]? = some x→k≤i→r<(x.1:Int)) :
 (k=0→runVal L r=0)∧(∀j x,k=j+1→L[j]? = some x→runVal L r=x.2):=by
 have key:∀(M:List (Nat × Int)) (a:Int),(∀x∈M,r<(x.1:Int))→M.foldl (fun a x=>if (x.1:Int)≤r then x.2 else a) a=a:=by
  intro M
  induction M with
  | nil=>intro a _;rfl
  | cons x t ih =>
    intro a hM
    have h9:=hM x List.mem_cons_self
    rw[List.foldl_cons,if_neg (by omega)]
    exact ih a (fun y hy=>hM y (List.mem_cons_of_mem _ hy))
 have hd:∀x∈L.drop k,r<(x.1:Int):=fun x hx=>by
  obtain⟨i,hi⟩:=List.getElem?_of_mem hx
  rw[List.getElem?_drop] at hi
  exact h2 _ _ hi (by omega)
 have hs:runVal L r=runVal (L.take k) r:=by
  conv=>lhs;rw[←List.take_append_drop k L]
  unfold runVal
  rw[List.foldl_append]
  exact key _ _ hd
 refine⟨fun e=>?_,fun j x e hj=>?_⟩
 ·subst e
  rw[hs];rfl
 ·subst e
  have ht:L.take (j+1)=L.take j++[x]:=by rw[List.take_add_one,hj];rfl
  rw[hs,ht,runVal_snoc,if_pos (h1 j x hj (by omega))]
def evV (E:List Nat) (V:Nat→Int):Nat→Nat→Int
 | 0,_=>0
 | k+1,r=>if E.getD k 0≤r then V k else evV E V k r
theorem evV_spec (E:List Nat) (V:Nat→Int) (r:Nat):∀k,((∀j,j<k→r<E.getD j 0)∧evV E V k r=0)∨∃j,j<k∧E.getD j 0≤r∧(∀i,j<i→i<k→r<E.getD i 0)∧evV E V k r=V j
 | 0=>.inl ⟨fun j h=>absurd h (by omega),rfl⟩
 | k+1=>by
   unfold evV
   by_cases h:E.getD k 0≤r
   ·rw[if_pos h]
    exact .inr ⟨k,by omega,h,fun i h1 h2=>by omega,rfl⟩
   ·rw[if_neg h]
    rcases evV_spec E V r k with ⟨h1,h2⟩|⟨j,h1,h2,h3,h4⟩
    ·refine .inl ⟨fun j hj=>?_,h2⟩
     by_cases e:j=k
     ·subst e;omega
     ·exact h1 j (by omega)
    ·refine .inr ⟨j,by omega,h2,fun i h5 h6=>?_,h4⟩
     by_cases e:i=k
     ·subst e;omega
     ·exact h3 i h5 (by omega)
theorem lastV_congr {l:List Rw3} {a b:Nat} (h:∀x∈l,holdsR x a↔holdsR x b):lastV l a=lastV l b:=by
 induction l with
 | nil=>rfl
 | cons x t ih =>
   unfold lastV
   rw[ih (fun y hy=>h y (List.mem_cons_of_mem _ hy))]
   have h1:=h x List.mem_cons_self
   by_cases h2:holdsR x a
   ·rw[if_pos h2,if_pos (h1.1 h2)]
   ·rw[if_neg h2,if_neg (fun h3=>h2 (h1.2 h3))]
theorem evV_all {E:List Nat} {rows:List Rw3} {P:Nat→Prop} {V:Nat→Int} (hT:ToldW E rows P V) (hE:E.Pairwise (· < ·)) (hm:∀x∈rows,x.1∈E∧x.2.1+1∈E) (r:Nat):evV E V E.length r=(lastV rows r).getD 0:=by
 have hget:∀j,j<E.length→E[j]? = some (E.getD j 0):=fun j hj=>by
  rw[List.getD_eq_getElem?_getD,List.getElem?_eq_getElem hj];rfl
 rcases evV_spec E V r E.length with ⟨h1,h2⟩|⟨j,h1,h2,h3,h4⟩
 ·rw[h2]
  have:lastV rows r=none:=lastV_none.2 fun x hx hh=>by
   obtain⟨i,hi⟩:=List.getElem?_of_mem (hm x hx).1
   have hil:=(List.getElem?_eq_some_iff.1 hi).1
   have h9:=h1 i hil
   have h8:=hget i hil
   rw[hi] at h8
   injection h8 with h8
   have:=hh.1
   omega
  rw[this];rfl
 ·rw[h4,(hT j _ (hget j h1)).2]
  have hle:∀y∈E,(y≤r↔y≤E.getD j 0):=fun y hy=>by
   obtain⟨i,hi⟩:=List.getElem?_of_mem hy
   have hil:=(List.getElem?_eq_some_iff.1 hi).1
   have h8:=hget i hil
   rw[hi] at h8
   injection h8 with h8
   have h5:=List.pairwise_iff_getElem.1 hE
   rcases Nat.lt_trichotomy i j with h6|h6|h6
   ·have h7:=h5 i j hil h1 h6
    have e1:E[i]=E.getD i 0:=by rw[List.getD_eq_getElem?_getD,List.getElem?_eq_getElem hil];rfl
    have e2:E[j]=E.getD j 0:=by rw[List.getD_eq_getElem?_getD,List.getElem?_eq_getElem h1];rfl
    rw[e1,e2] at h7
    omega
   ·subst h6;omega
   ·have h7:=h3 i h6 hil
    have h9:=h5 j i h1 hil h6
    have e1:E[i]=E.getD i 0:=by rw[List.getD_eq_getElem?_getD,List.getElem?_eq_getElem hil];rfl
    have e2:E[j]=E.getD j 0:=by rw[List.getD_eq_getElem?_getD,List.getElem?_eq_getElem h1];rfl
    rw[e1,e2] at h9
    omega
  congr 1
  refine lastV_congr fun x hx=>?_
  obtain⟨m1,m2⟩:=hm x hx
  have a1:=hle _ m1
  have a2:=hle _ m2
  unfold holdsR
  omega
def RunsAt (E:List Nat) (V:Nat→Int) (k:Nat) (c:Int) (L:List (Nat × Int)):Prop :=
 L.length≤k∧c=(if k=0 then 0 else V (k-1))∧L.Pairwise (fun a b=>a.1<b.1)∧(∀x∈L,∃j,j<k∧E[j]? = some x.1)∧∀r:Nat,runVal L r=evV E V k r
theorem RunsAt.zero (E:List Nat) (V:Nat→Int):RunsAt E V 0 0 []:=⟨Nat.le_refl _,rfl,.nil,fun _ h=>(by cases h),fun _=>rfl⟩
theorem RunsAt.same {E:List Nat} {V:Nat→Int} {k:Nat} {c:Int} {L:List (Nat × Int)} (h:RunsAt E V k c L) (hE:E.Pairwise (· < ·)) (hk:k<E.length) (hc:V k=c):RunsAt E V (k+1) c L:=by
 obtain⟨h1,h2,h3,h4,h5⟩:=h
 refine⟨by omega,by rw[if_neg (by omega)];exact hc.symm,h3,fun x hx=>?_,fun r=>?_⟩
 ·obtain⟨j,hj,he⟩:=h4 x hx
  exact⟨j,by omega,he⟩
 ·rw[h5 r]
  show _=(if E.getD k 0≤r then V k else evV E V k r)
  by_cases hr:E.getD k 0≤r
  ·rw[if_pos hr,hc,h2]
   cases k with
   | zero=>rfl
   | succ k =>
     rw[if_neg (by omega)]
     show (if E.getD k 0≤r then V k else evV E V k r)=_
     have h7:=(List.pairwise_iff_getElem.1 hE) k (k+1) (by omega) hk (by omega)
     rw[List.getD_eq_getElem?_getD,List.getElem?_eq_getElem hk] at hr
     rw[List.getD_eq_getElem?_getD,List.getElem?_eq_getElem (show k<E.length by omega)]
     simp only[Option.getD_some] at hr ⊢
     rw[if_pos (by omega)]
     rfl
  ·rw[if_neg hr]
theorem RunsAt.more {E:List Nat} {V:Nat→Int} {k:Nat} {c:Int} {L:List (Nat × Int)} (h:RunsAt E V k c L) (hE:E.Pairwise (· < ·)) {e:Nat} (he:E[k]? = some e):RunsAt E V (k+1) (V k) (L++[(e,V k)]):=by
 obtain⟨h1,h2,h3,h4,h5⟩:=h
 refine⟨by rw[List.length_append];simp;omega,by rw[if_neg (by omega)];rfl,?_,fun x hx=>?_,fun r=>?_⟩
 ·rw[List.pairwise_append]
  refine⟨h3,List.pairwise_singleton _ _,fun a ha b hb=>?_⟩
  obtain⟨j,hj,hje⟩:=h4 a ha
  simp at hb
  subst hb
  have q1:=List.getElem?_eq_some_iff.1 hje
  have q2:=List.getElem?_eq_some_iff.1 he
  have h7:=(List.pairwise_iff_getElem.1 hE) j k q1.1 q2.1 hj
  rw[q1.2,q2.2] at h7
  exact h7
 ·rcases List.mem_append.1 hx with hx|hx
  ·obtain⟨j,hj,hje⟩:=h4 x hx
   exact⟨j,by omega,hje⟩
  ·simp at hx
   subst hx
   exact⟨k,by omega,he⟩
 ·rw[runVal_snoc]
  show _=(if E.getD k 0≤r then V k else evV E V k r)
  have hg:E.getD k 0=e:=by rw[List.getD_eq_getElem?_getD,he];rfl
  rw[hg,←h5 r]
  by_cases hr:e≤r
  ·rw[if_pos hr,if_pos (by simp only;omega)]
  ·rw[if_neg hr,if_neg (by simp only;omega)]
def encR2 (L:List (Nat × Int)):List Value:=L.flatMap fun x=>[.int .i32 (x.1:Nat),.int .i64 x.2]
theorem encR2_snoc (L:List (Nat × Int)) (x:Nat × Int):encR2 (L++[x])=encR2 L++[.int .i32 (x.1:Nat),.int .i64 x.2]:=by simp[encR2]
theorem encR2_get (L:List (Nat × Int)) (i:Nat) (x:Nat × Int) (h:L[i]? = some x):(encR2 L)[i*2]? = some (.int .i32 (x.1:Nat))∧(encR2 L)[i*2+1]? = some (.int .i64 x.2):=by
 induction L generalizing i with
 | nil=>cases h
 | cons y t ih =>
   cases i with
   | zero =>
     simp at h
     subst h
     simp[encR2]
   | succ i =>
     simp at h
     have:=ih i h
     have e:encR2 (y::t)=[.int .i32 (y.1:Nat),.int .i64 y.2]++encR2 t:=by simp[encR2]
     rw[e,show (i+1)*2=i*2+2 by omega]
     refine⟨?_,?_⟩
     ·rw[List.getElem?_append_right (by simp)]
      simpa using this.1
     ·rw[List.getElem?_append_right (by simp)]
      have h9:=this.2
      simpa [show i*2+2+1-2=i*2+1 by omega] using h9
def RunV (w:World) (v:Value) (l:List (Nat × Int)):Prop :=
 ∃ao cp,v = .slice ao l.length cp∧(l=[]∨∃g,ao=some ⟨g,0,none⟩∧∀(i:Nat) (x:Nat × Int),l[i]? = some x→w.cell? ⟨g,i*2,none⟩=some (.int .i32 (x.1:Nat))∧w.cell? ⟨g,i*2+1,none⟩=some (.int .i64 x.2))
theorem RunV.below {v:Value} {l:List (Nat × Int)} {A B:World} (h:RunV A v l) (hb:Below A.heap.size A B):RunV B v l:=by
 obtain⟨ao,cp,rfl,h⟩:=h
 refine⟨ao,cp,rfl,?_⟩
 rcases h with h|⟨g,e,h⟩
 ·exact .inl h
 ·exact .inr ⟨g,e,fun i r hr=>⟨(hb.cell (lt_of_cell (h i r hr).1)).trans (h i r hr).1,(hb.cell (lt_of_cell (h i r hr).2)).trans (h i r hr).2⟩⟩
theorem own_runv {Y:Nat→Prop} {v:Value} {l:List (Nat × Int)} {w:World} (h:OwnS Y 166 2 v l.length (encR2 l) w):RunV w v l:=by
 rcases h.shape with ⟨hv,h0⟩|⟨gb,cap,hv,hg,hgl⟩
 ·exact⟨none,0,by rw[hv,h0],.inl (List.length_eq_zero_iff.1 h0)⟩
 ·refine⟨_,cap,hv,.inr ⟨gb,rfl,fun i r hr=>?_⟩⟩
  subst hv
  obtain⟨e1,e2⟩:=encR2_get l i r hr
  exact⟨h.atN e1,h.atN e2⟩
end Go.Proofs.YtgpbaeehajkebaaGreatDoor
