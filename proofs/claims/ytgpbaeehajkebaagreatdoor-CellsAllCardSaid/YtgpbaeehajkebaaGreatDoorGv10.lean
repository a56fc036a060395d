/- Parts of the proof of what the last text says. -/
import Derived.Test.YtgpbaeehajkebaaGreatDoorGv8
import Derived.OwnWalk
import Derived.Test.YtgpbaeehajkebaaGreatDoorGv2
import Derived.Laws.Strings3
import Derived.Test.YtgpbaeehajkebaaGreatDoorGv6
import Derived.Test.YtgpbaeehajkebaaGreatDoorGv5
import Derived.BigRegionIn
import Derived.LoopIn
import Derived.BigFrameIn
import Derived.Sort.MapsRangeIn
namespace Go.Proofs.YtgpbaeehajkebaaGreatDoor
open Go Go.RowKit Go.Kt Go.Kt.Rg

def StrS (v:Value) (ws:List (List UInt8)) (w:World):Prop :=
  ∃g off cap,v = .slice (some ⟨g,off,none⟩) ws.length cap∧ws.length≤cap∧cap≤4611686018427387904∧∀i x,ws[i]? = some x→w.cell? ⟨g,off+i,none⟩=some (.string ⟨x.toArray⟩)
theorem StrS.below {v:Value} {ws:List (List UInt8)} {A B:World} (h:StrS v ws A) (hb:Below A.heap.size A B):StrS v ws B:=by
  obtain⟨g,off,cap,rfl,h1,h2,h3⟩:=h
  exact⟨g,off,cap,rfl,h1,h2,fun i x hx=>(hb.cell (lt_of_cell (h3 i x hx))).trans (h3 i x hx)⟩

def ptsA:List Nat→List (List UInt8)→Nat × List Nat
  | acc,[]=>(0,acc)
  | acc,x::t=>match numP x with
    | none=>(11,[])
    | some n=>if Lib.validRune (n:Int)=false then (8,[]) else ptsA (acc++[n]) t
def ptsP (ws:List (List UInt8)):Nat × List Nat:=if 9<ws.length then (5,[]) else ptsA [] ws
theorem ptsA_no {acc:List Nat} {x:List UInt8} {t:List (List UInt8)} (h:numP x=none):ptsA acc (x::t)=(11,[]):=by rw[ptsA,h]
theorem ptsA_bad {acc:List Nat} {x:List UInt8} {t:List (List UInt8)} {n:Nat} (h:numP x=some n) (hv:Lib.validRune (n:Int)=false):ptsA acc (x::t)=(8,[]):=by rw[ptsA,h];exact if_pos hv
theorem ptsA_go {acc:List Nat} {x:List UInt8} {t:List (List UInt8)} {n:Nat} (h:numP x=some n) (hv:Lib.validRune (n:Int)=true):ptsA acc (x::t)=ptsA (acc++[n]) t:=by
  rw[ptsA,h]
  exact if_neg (by rw[hv];exact fun e=>by cases e)

def PtsOut (w:World) (o:Nat × List Nat) (e:Ending) (w':World):Prop :=
  Below w.heap.size w w'∧∃v,e = .returned (.tuple #[v,.int .i64 (o.1:Nat)])∧(o.1=0→∃B,v = .slice (some ⟨B,0,none⟩) o.2.length o.2.length∧w.heap.size≤B∧B<w'.heap.size∧∀(i:Nat) (x:Nat),o.2[i]? = some x→w'.cell? ⟨B,i,none⟩=some (.int .i32 (x:Nat)))

set_option maxRecDepth 100000 in
set_option maxHeartbeats 2000000 in
theorem ppoints (ws:List (List UInt8)) (v:Value) (w:World) (hS:StrS v ws w) (hz:∀x∈ws,x.length≤1048576) (_h0:ws≠[]) (hE:PEnv w) :
    Calls Tryz.prog 92 #[v] w fun e w'=>PtsOut w (ptsP ws) e w':=by
  obtain⟨g,off,cap,rfl,hcap,hcap2,hc⟩:=hS
  obtain⟨n,hn⟩:∃n,ws.length=n:=⟨_,rfl⟩
  rw[hn] at hcap ⊢
  by_cases h9:9<n
  · have h9z:(9:Int)<(n:Int):=by omega
    have HX:Hid (ptsP ws=(5,[])):=Lib.hid (by unfold ptsP;rw[if_pos (by omega)])
    go_enter Tryz.func92,Tryz.ntmps92
    go_wp2
    go_ret2
    rw[HX.out]
    exact⟨Below.refl _ _,_,rfl,fun e=>by cases e⟩
  · have h9z:(n:Int)≤9:=by omega
    have HX:Hid (ptsP ws=ptsA [] ws):=Lib.hid (by unfold ptsP;rw[if_neg (by omega)])
    have HC:=Lib.hid hc
    have HN:=Lib.hid hn
    have HZ:=Lib.hid hz
    have HE:=Lib.hid hE
    clear hc hn hz hE
    go_enter Tryz.func92,Tryz.ntmps92
    go_wp2_with (at_make;refine wpList_make_full _ rfl _ _ _ rfl w.heap.size 21 _ (.int .i32 0) 1 Tryz.underlying78 rfl rfl rfl .i64 .i64 _ _ n rfl rfl rfl rfl (by show 4*n≤_;omega) (by unfold maxLen;omega) (Nat.le_refl _) ?_;intro w1 hown1 hgr1)
    have H1:Hid (∃C:Array Value,Below w.heap.size w w1∧w1.heap[w.heap.size]? = some (.cells C 21 (0,0))∧C.size=n):=Lib.hid (by
      obtain⟨_,h2⟩:=hown1
      rcases h2 with ⟨h2,_⟩|⟨g2,c2,C,e2,_,h3,_,_,h4,_⟩
      · cases h2
      · injection e2 with e3 _ e4
        injection e3 with e3
        injection e3 with e3 _
        subst e3 e4
        exact⟨C,⟨hgr1.os,hgr1.tape,hgr1.output,hgr1.size,fun x hx=>hgr1.block x hx (fun e=>by cases e)⟩,h3,by omega⟩)
    clear hown1 hgr1
    go_loopw [17] (fun vk wr=>∃(k:Nat) (acc:List Nat) (C:Array Value),vk = .int .i64 k∧k≤n∧Hid (ptsA [] ws=ptsA acc (ws.drop k)∧acc.length=k∧Below w.heap.size w wr∧wr.heap[w.heap.size]? = some (.cells C 21 (0,0))∧C.size=n∧∀(i:Nat) (x:Nat),acc[i]? = some x→C[i]? = some (.int .i32 (x:Nat)))) (fun vk _=>n-(RowKit.intOf vk).toNat)
    case atStart =>
      obtain⟨C,a1,a2,a3⟩:=H1.out
      exact⟨0,[],C,rfl,by omega,Lib.hid ⟨rfl,rfl,a1,a2,a3,fun i x h=>by simp at h⟩⟩
    case round =>
      clear H1
      obtain⟨k,acc,C,rfl,hk,hh⟩:=hrel
      by_cases hkn:k<n
      · have hknz:(k:Int)<(n:Int):=by omega
        have hkl:k<ws.length:=by rw[HN.out];exact hkn
        obtain⟨x,hx⟩:∃x,ws[k]? = some x:=⟨_,List.getElem?_eq_getElem hkl⟩
        have hdr:ws.drop k=x::ws.drop (k+1):=by
          rw[List.drop_eq_getElem_cons hkl]
          congr 1
          rw[List.getElem?_eq_getElem hkl] at hx
          exact Option.some.inj hx
        have hcx:wr.cell? ⟨g,off+k,none⟩=some (.string ⟨x.toArray⟩):=(hh.out.2.2.1.cell (lt_of_cell (HC.out k x hx))).trans (HC.out k x hx)
        have hxm:x∈ws:=List.mem_of_getElem? hx
        have CN0:=pnumber ⟨x.toArray⟩ wr (by rw[bsize];have:=HZ.out x hxm;omega) (HE.out.below hh.out.2.2.1).v
        have CN:Hid (Calls Tryz.prog 122 #[.string ⟨x.toArray⟩] wr fun e w'=>NumOut (numP x) e∧Below wr.heap.size wr w'):=Lib.hid CN0
        have HD:=Lib.hid hdr
        clear CN0 hdr hxm hkl hx
        cases ho:numP x with
        | none =>
          have HX2:Hid (ptsP ws=(11,[])):=Lib.hid (by rw[HX.out,hh.out.1,HD.out,ptsA_no ho])
          rw[ho] at CN
          go_wp2_with fail
          refine CN.out.mono ?_
          rintro e w2 ⟨⟨z,rfl⟩,hb2⟩
          have HB:=Lib.hid (hh.out.2.2.1.trans (hb2.mono hh.out.2.2.1.size))
          clear hb2 CN hcx
          go_wp2
          go_ret2
          rw[HX2.out]
          exact⟨HB.out,_,rfl,fun e=>by cases e⟩
        | some m =>
          have hm:=numP_le ho
          rw[ho] at CN
          cases hv:Lib.validRune (m:Int)
          · have HX2:Hid (ptsP ws=(8,[])):=Lib.hid (by rw[HX.out,hh.out.1,HD.out,ptsA_bad ho hv])
            go_wp2_with fail
            refine CN.out.mono ?_
            rintro e w2 ⟨hp,hb2⟩
            obtain rfl:=hp
            have HB:=Lib.hid (hh.out.2.2.1.trans (hb2.mono hh.out.2.2.1.size))
            clear hb2 CN hcx
            go_wp2_with (go_at_call 123;refine (Tryz.utf8_ValidRune _ _).mono ?_;rintro e w4 ⟨rfl,rfl⟩)
            go_ret2
            rw[HX2.out]
            exact⟨HB.out,_,rfl,fun e=>by cases e⟩
          · have HX2:Hid (ptsA [] ws=ptsA (acc++[m]) (ws.drop (k+1))):=Lib.hid (by rw[hh.out.1,HD.out,ptsA_go ho hv])
            go_wp2_with fail
            refine CN.out.mono ?_
            rintro e w2 ⟨hp,hb2⟩
            obtain rfl:=hp
            have HB:=Lib.hid (hh.out.2.2.1.trans (hb2.mono hh.out.2.2.1.size))
            have hg2:w2.heap[w.heap.size]? = some (.cells C 21 (0,0)):=(hb2.block _ (by have:=(Array.getElem?_eq_some_iff.1 hh.out.2.2.2.1).1;exact this)).trans hh.out.2.2.2.1
            have hck:C[k]? = some (C[k]'(by rw[hh.out.2.2.2.2.1];exact hkn)):=Array.getElem?_eq_getElem _
            generalize C[k]'(by rw[hh.out.2.2.2.2.1];exact hkn)=u0 at hck
            have c0:w2.cell? ⟨w.heap.size,k,none⟩=some u0:=by rw[Lib.cell_of_heap hg2];exact hck
            have f0:w2.frozen? ⟨w.heap.size,k,none⟩=false:=Lib.frozen_of_heap hg2 _
            have HG:=Lib.hid (heap_setCell_same w2 w.heap.size k _ _ (.int .i32 (m:Int)) hg2)
            clear hb2 CN hcx hg2 hck
            go_wp2_with (go_at_call 123;refine (Tryz.utf8_ValidRune _ _).mono ?_;rintro e w4 ⟨rfl,rfl⟩)
            go_roundw
            case rel=>exact⟨k+1,acc++[m],_,by go_num,by omega,Lib.hid ⟨HX2.out,by simp[hh.out.2.1],HB.out.setCell (Nat.le_refl _) _,HG.out,by simp[hh.out.2.2.2.2.1],fun i y hy=>by
              by_cases hi:i<k
              · rw[Array.getElem?_setIfInBounds_ne (by omega)]
                rw[List.getElem?_append_left (by rw[hh.out.2.1];exact hi)] at hy
                exact hh.out.2.2.2.2.2 i y hy
              · have hik:i=k:=by
                  have:=(List.getElem?_eq_some_iff.1 hy).1
                  rw[List.length_append,hh.out.2.1] at this
                  simp at this
                  omega
                subst hik
                rw[List.getElem?_append_right (by rw[hh.out.2.1];exact Nat.le_refl _),hh.out.2.1,Nat.sub_self] at hy
                simp at hy
                subst hy
                rw[Array.getElem?_setIfInBounds_self_of_lt (by rw[hh.out.2.2.2.2.1];exact hkn)]⟩⟩
            case measure=>simp[RowKit.intOf];omega
      · have hknz:¬(k:Int)<(n:Int):=by omega
        have hkn2:k=n:=by omega
        have HX2:Hid (ptsP ws=(0,acc)):=Lib.hid (by rw[HX.out,hh.out.1,hkn2,←HN.out,List.drop_length];rfl)
        have HA:Hid (acc.length=n):=Lib.hid (hh.out.2.1.trans hkn2)
        clear hkn2
        go_wp2
        go_ret2
        rw[HX2.out]
        refine⟨hh.out.2.2.1,_,rfl,fun _=>⟨w.heap.size,by rw[HA.out];rfl,Nat.le_refl _,(Array.getElem?_eq_some_iff.1 hh.out.2.2.2.1).1,fun i x hx=>?_⟩⟩
        rw[Lib.cell_of_heap hh.out.2.2.2.1]
        exact hh.out.2.2.2.2.2 i x hx
end Go.Proofs.YtgpbaeehajkebaaGreatDoor
namespace Go.Proofs.YtgpbaeehajkebaaGreatDoor
open Go Go.RowKit Go.Kt Go.Kt.Rg
theorem pthree_cells {V:World} {g:Nat} {a b c x y z:Value} {T:TypeId} (h:V.heap[g]? = some (.cells #[a,b,c] T (0,0))) :
 (((V.setCell ⟨g,0,none⟩ x).setCell ⟨g,1,none⟩ y).setCell ⟨g,2,none⟩ z).heap[g]? = some (.cells #[x,y,z] T (0,0)):=by
 have h1:=heap_setCell_same V g 0 _ _ x h
 have h2:=heap_setCell_same (V.setCell ⟨g,0,none⟩ x) g 1 _ _ y h1
 have h3:=heap_setCell_same ((V.setCell ⟨g,0,none⟩ x).setCell ⟨g,1,none⟩ y) g 2 _ _ z h2
 simpa using h3
theorem alloc_old_h {w:World} {k:Nat} {o x:Obj} (h:w.heap[k]? = some x):(w.alloc o).heap[k]? = some x:=by
 rw[heap_alloc_if,if_neg (by have:=(Array.getElem?_eq_some_iff.1 h).1;omega)];exact h
def rowP (V:List UInt8→Nat × Int) (ws:List (List UInt8)):Nat × Nat × Nat × Int :=
 if 2<ws.length then (3,0,0,0) else
  if (spnP (ws.getD 0 [])).1≠0 then ((spnP (ws.getD 0 [])).1,0,0,0) else
   if (V (ws.getD 1 [])).1≠0 then ((V (ws.getD 1 [])).1,0,0,0) else (0,(spnP (ws.getD 0 [])).2.1,(spnP (ws.getD 0 [])).2.2,(V (ws.getD 1 [])).2)
abbrev rwA (lo hi:Nat) (v:Int):Value:=.agg #[.int .i32 lo,.int .i32 hi,.int .i64 v]
set_option maxRecDepth 100000 in
set_option maxHeartbeats 2000000 in
theorem prow (gf:Nat) (eg:∀args w,(callFunc gf args).run Tryz.prog w = .ok (.enter gf args) w) (V:List UInt8→Nat × Int) (ws:List (List UInt8)) (sv:Value) (w:World) (hS:StrS sv ws w) (hz:∀x∈ws,x.length≤1048576) (h2:2≤ws.length) (hE:PEnv w)
 (hV:∀W,Below w.heap.size w W→Calls Tryz.prog gf #[.string ⟨(ws.getD 1 []).toArray⟩] W fun e w'=>e = .returned (.tuple #[.int .i64 (V (ws.getD 1 [])).2,.int .i64 ((V (ws.getD 1 [])).1:Nat)])∧Below W.heap.size W w') :
 Calls Tryz.prog 89 #[sv,.func (.func gf) #[] #[]] w fun e w'=>e = .returned (.tuple #[rwA (rowP V ws).2.1 (rowP V ws).2.2.1 (rowP V ws).2.2.2,.int .i64 ((rowP V ws).1:Nat)])∧Below w.heap.size w w':=by
 obtain⟨g,off,cap,rfl,hcap,hcap2,hc⟩:=hS
 have hc0:=hc 0 (ws.getD 0 []) (by rw[List.getD_eq_getElem?_getD,List.getElem?_eq_getElem (by omega)];rfl)
 have hc1:=hc 1 (ws.getD 1 []) (by rw[List.getD_eq_getElem?_getD,List.getElem?_eq_getElem (by omega)];rfl)
 have hx0:(ws.getD 0 []).length≤1048576:=hz _ (by rw[List.getD_eq_getElem?_getD,List.getElem?_eq_getElem (by omega)];exact List.getElem_mem _)
 have HX:Hid (rowP V ws=if 2<ws.length then (3,0,0,0) else if (spnP (ws.getD 0 [])).1≠0 then ((spnP (ws.getD 0 [])).1,0,0,0) else if (V (ws.getD 1 [])).1≠0 then ((V (ws.getD 1 [])).1,0,0,0) else (0,(spnP (ws.getD 0 [])).2.1,(spnP (ws.getD 0 [])).2.2,(V (ws.getD 1 [])).2)):=Lib.hid rfl
 obtain⟨n,hn⟩:∃n,ws.length=n:=⟨_,rfl⟩
 rw[hn] at hcap h2 HX ⊢
 have CS0:=fun W (h:PEnv W)=>pspan ⟨(ws.getD 0 []).toArray⟩ W (by rw[bsize];exact hx0) h
 have CS:Hid (∀W,PEnv W→Calls Tryz.prog 119 #[.string ⟨(ws.getD 0 []).toArray⟩] W fun e w'=>e = .returned (.tuple #[.agg #[.int .i32 (spnP (ws.getD 0 [])).2.1,.int .i32 (spnP (ws.getD 0 [])).2.2],.int .i64 (spnP (ws.getD 0 [])).1])∧Below W.heap.size W w'):=Lib.hid CS0
 generalize rowP V ws=R at HX ⊢
 generalize ws.getD 0 []=x0 at CS HX hc0
 generalize ws.getD 1 []=x1 at hV HX hc1
 generalize V x1=vv at hV HX
 obtain⟨vn,vv⟩:=vv
 obtain⟨⟨sn,lo,hi⟩,hs⟩:∃z,spnP x0=z:=⟨_,rfl⟩
 rw[hs] at CS HX
 simp only at hV HX
 replace CS:Hid (∀W,PEnv W→Calls Tryz.prog 119 #[.string ⟨x0.toArray⟩] W fun e w'=>e = .returned (.tuple #[.agg #[.int .i32 lo,.int .i32 hi],.int .i64 sn])∧Below W.heap.size W w'):=CS
 have HV:=Lib.hid hV
 have HE:=Lib.hid hE
 clear hV hE hz hc hx0 CS0 hs hn
 have H0:Hid (Below w.heap.size w (w.alloc (.cells #[.int .i32 0,.int .i32 0,.int .i64 0] 126))∧(w.alloc (.cells #[.int .i32 0,.int .i32 0,.int .i64 0] 126)).heap[w.heap.size]? = some (.cells #[.int .i32 0,.int .i32 0,.int .i64 0] 126 (0,0))):=Lib.hid ⟨(Below.refl _ _).alloc (Nat.le_refl _) _,heap_alloc_new _ _⟩
 have h2z:(2:Int)≤(n:Int):=by omega
 by_cases h3:2<n
 ·have h3z:(2:Int)<(n:Int):=by omega
  have HX2:=Lib.hid (HX.out.trans (if_pos h3))
  clear HX
  go_enter Tryz.func89,Tryz.ntmps89
  go_wp2
  (try simp only[Exit.inBlock,Exit.then])
  refine bodyPost_ret (results_cell2 rfl _ _ w.heap.size 126 #[.int .i32 0,.int .i32 0,.int .i64 0] (0,0) _ rfl H0.out.2 Tryz.underlying126 rfl (by kernel_rfl)) rfl ?_
  rw[HX2.out]
  exact⟨rfl,H0.out.1⟩
 ·have h3z:(n:Int)≤2:=by omega
  replace HX:=Lib.hid (HX.out.trans (if_neg h3))
  have hc0':(w.alloc (.cells #[.int .i32 0,.int .i32 0,.int .i64 0] 126)).cell? ⟨g,off,none⟩=some (.string ⟨x0.toArray⟩):=(H0.out.1.cell (lt_of_cell hc0)).trans hc0
  have CS1:=Lib.hid (CS.out _ (HE.out.below H0.out.1))
  clear CS
  go_enter Tryz.func89,Tryz.ntmps89
  go_wp2_with fail
  refine CS1.out.mono ?_
  rintro e w2 ⟨rfl,hb2⟩
  have H2:Hid (Below w.heap.size w (w2.alloc (.cells #[.int .i32 lo,.int .i32 hi] 124))∧(w2.alloc (.cells #[.int .i32 lo,.int .i32 hi] 124)).heap[w.heap.size]? = some (.cells #[.int .i32 0,.int .i32 0,.int .i64 0] 126 (0,0))):=Lib.hid (by
   have h5:w2.heap[w.heap.size]? = some (.cells #[.int .i32 0,.int .i32 0,.int .i64 0] 126 (0,0)):=(hb2.block _ (by simp)).trans H0.out.2
   have h6:=H0.out.1.trans (hb2.mono H0.out.1.size)
   exact⟨h6.alloc h6.size _,alloc_old_h h5⟩)
  have H3:Hid ((w2.alloc (.cells #[.int .i32 lo,.int .i32 hi] 124)).heap[w2.heap.size]? = some (.cells #[.int .i32 lo,.int .i32 hi] 124 (0,0))∧w.heap.size≠w2.heap.size):=Lib.hid ⟨heap_alloc_new _ _,by have:=hb2.size;simp at this;omega⟩
  obtain⟨sb,hsb⟩:∃sb,w2.heap.size=sb:=⟨_,rfl⟩
  have HSB:=Lib.hid hsb
  rw[hsb] at H3
  clear hb2 CS1 hc0 hc0' hsb
  by_cases hs0:sn=0
  ·subst hs0
   replace HX:=Lib.hid (HX.out.trans (if_neg (fun e=>e rfl)))
   have q1:w2.alloc (.cells #[.int .i32 lo,.int .i32 hi] 124)=w2.alloc (.cells #[.int .i32 lo,.int .i32 hi] 124):=rfl
   have hc1':(w2.alloc (.cells #[.int .i32 lo,.int .i32 hi] 124)).cell? ⟨g,off+1,none⟩=some (.string ⟨x1.toArray⟩):=(H2.out.1.cell (lt_of_cell hc1)).trans hc1
   have CV:=Lib.hid (HV.out _ H2.out.1)
   clear q1 HV
   go_wp2_with fail
   refine CV.out.mono ?_
   rintro e w3 ⟨rfl,hb3⟩
   have H4:Hid (Below w.heap.size w w3∧w3.heap[w.heap.size]? = some (.cells #[.int .i32 0,.int .i32 0,.int .i64 0] 126 (0,0))):=Lib.hid ⟨H2.out.1.trans (hb3.mono H2.out.1.size),(hb3.block _ (by have:=(Array.getElem?_eq_some_iff.1 H2.out.2).1;exact this)).trans H2.out.2⟩
   have H5:Hid (w3.heap[sb]? = some (.cells #[.int .i32 lo,.int .i32 hi] 124 (0,0))):=Lib.hid ((hb3.block _ (by have:=(Array.getElem?_eq_some_iff.1 H3.out.1).1;exact this)).trans H3.out.1)
   clear hb3 CV hc1 hc1'
   by_cases hv0:vn=0
   ·subst hv0
    replace HX:=Lib.hid (HX.out.trans (if_neg (fun e=>e rfl)))
    have d0:w3.cell? ⟨sb,0,none⟩=some (.int .i32 lo):=by rw[Lib.cell_of_heap H5.out];rfl
    have d1:w3.cell? ⟨sb,1,none⟩=some (.int .i32 hi):=by rw[Lib.cell_of_heap H5.out];rfl
    have c0:w3.cell? ⟨w.heap.size,0,none⟩=some (.int .i32 0):=by rw[Lib.cell_of_heap H4.out.2];rfl
    have f0:w3.frozen? ⟨w.heap.size,0,none⟩=false:=Lib.frozen_of_heap H4.out.2 _
    have c1:w3.cell? ⟨w.heap.size,1,none⟩=some (.int .i32 0):=by rw[Lib.cell_of_heap H4.out.2];rfl
    have f1:w3.frozen? ⟨w.heap.size,1,none⟩=false:=Lib.frozen_of_heap H4.out.2 _
    have c2:w3.cell? ⟨w.heap.size,2,none⟩=some (.int .i64 0):=by rw[Lib.cell_of_heap H4.out.2];rfl
    have f2:w3.frozen? ⟨w.heap.size,2,none⟩=false:=Lib.frozen_of_heap H4.out.2 _
    rw[HSB.out]
    go_wp2
    (try simp only[Exit.inBlock,Exit.then])
    refine bodyPost_ret (results_cell2 rfl _ _ w.heap.size 126 #[.int .i32 lo,.int .i32 hi,.int .i64 vv] (0,0) _ rfl (pthree_cells H4.out.2) Tryz.underlying126 rfl (by kernel_rfl)) rfl ?_
    rw[HX.out]
    exact⟨rfl,((H4.out.1.setCell (Nat.le_refl _) _).setCell (Nat.le_refl _) _).setCell (Nat.le_refl _) _⟩
   ·replace HX:=Lib.hid (HX.out.trans (if_pos hv0))
    have b1:((vn:Int)!=0)=true:=by simp;omega
    have b2:((vn:Int)==0)=false:=beq_eq_false_iff_ne.2 (by omega)
    have c0:w3.cell? ⟨w.heap.size,0,none⟩=some (.int .i32 0):=by rw[Lib.cell_of_heap H4.out.2];rfl
    have f0:w3.frozen? ⟨w.heap.size,0,none⟩=false:=Lib.frozen_of_heap H4.out.2 _
    have c1:w3.cell? ⟨w.heap.size,1,none⟩=some (.int .i32 0):=by rw[Lib.cell_of_heap H4.out.2];rfl
    have f1:w3.frozen? ⟨w.heap.size,1,none⟩=false:=Lib.frozen_of_heap H4.out.2 _
    have c2:w3.cell? ⟨w.heap.size,2,none⟩=some (.int .i64 0):=by rw[Lib.cell_of_heap H4.out.2];rfl
    have f2:w3.frozen? ⟨w.heap.size,2,none⟩=false:=Lib.frozen_of_heap H4.out.2 _
    go_wp2
    (try simp only[Exit.inBlock,Exit.then])
    refine bodyPost_ret (results_cell2 rfl _ _ w.heap.size 126 #[.int .i32 0,.int .i32 0,.int .i64 0] (0,0) _ rfl (pthree_cells H4.out.2) Tryz.underlying126 rfl (by kernel_rfl)) rfl ?_
    rw[HX.out]
    exact⟨rfl,((H4.out.1.setCell (Nat.le_refl _) _).setCell (Nat.le_refl _) _).setCell (Nat.le_refl _) _⟩
  ·replace HX:=Lib.hid (HX.out.trans (if_pos hs0))
   have b1:((sn:Int)!=0)=true:=by simp;omega
   have b2:((sn:Int)==0)=false:=beq_eq_false_iff_ne.2 (by omega)
   have c0:(w2.alloc (.cells #[.int .i32 lo,.int .i32 hi] 124)).cell? ⟨w.heap.size,0,none⟩=some (.int .i32 0):=by rw[Lib.cell_of_heap H2.out.2];rfl
   have f0:(w2.alloc (.cells #[.int .i32 lo,.int .i32 hi] 124)).frozen? ⟨w.heap.size,0,none⟩=false:=Lib.frozen_of_heap H2.out.2 _
   have c1:(w2.alloc (.cells #[.int .i32 lo,.int .i32 hi] 124)).cell? ⟨w.heap.size,1,none⟩=some (.int .i32 0):=by rw[Lib.cell_of_heap H2.out.2];rfl
   have f1:(w2.alloc (.cells #[.int .i32 lo,.int .i32 hi] 124)).frozen? ⟨w.heap.size,1,none⟩=false:=Lib.frozen_of_heap H2.out.2 _
   have c2:(w2.alloc (.cells #[.int .i32 lo,.int .i32 hi] 124)).cell? ⟨w.heap.size,2,none⟩=some (.int .i64 0):=by rw[Lib.cell_of_heap H2.out.2];rfl
   have f2:(w2.alloc (.cells #[.int .i32 lo,.int .i32 hi] 124)).frozen? ⟨w.heap.size,2,none⟩=false:=Lib.frozen_of_heap H2.out.2 _
   go_wp2
   (try simp only[Exit.inBlock,Exit.then])
   refine bodyPost_ret (results_cell2 rfl _ _ w.heap.size 126 #[.int .i32 0,.int .i32 0,.int .i64 0] (0,0) _ rfl (pthree_cells H2.out.2) Tryz.underlying126 rfl (by kernel_rfl)) rfl ?_
   rw[HX.out]
   exact⟨rfl,((H2.out.1.setCell (Nat.le_refl _) _).setCell (Nat.le_refl _) _).setCell (Nat.le_refl _) _⟩
end Go.Proofs.YtgpbaeehajkebaaGreatDoor
namespace Go.Proofs.YtgpbaeehajkebaaGreatDoor
open Go Go.RowKit Go.Kt Go.Kt.Rg
def blkP (n:Nat):Bool:=n==32||n==9
def lineP (l:List UInt8):List UInt8:=(Lib.cut (Lib.trimSuffix (Lib.trimSuffix l [10]) [13]) [35]).1
def wrdP (l:List UInt8):List (List UInt8):=(Lib.goFieldsP blkP ⟨(lineP l).toArray⟩).map (·.data.toList)
theorem spans_ok (p:Nat→Bool) (s:ByteArray):∀f pos st acc,(∀a,st=some a→a<pos∧a<s.size)→(∀x∈acc,x.1<x.2∧x.2≤s.size) →
 (∀x∈(Lib.spansFromP p s f pos st acc).1,x.1<x.2∧x.2≤s.size)∧∀a,(Lib.spansFromP p s f pos st acc).2=some a→a<s.size:=by
 intro f
 induction f with
 | zero=>intro pos st acc h1 h2;exact⟨h2,fun a h=>(h1 a h).2⟩
 | succ f ih =>
   intro pos st acc h1 h2
   unfold Lib.spansFromP
   have hw:=Lib.width_pos s pos
   split
   ·rename_i hlt
    split
    ·cases st with
     | some a=>exact ih _ _ _ (fun a h=>by cases h) (fun x hx=>by
      rcases List.mem_append.1 hx with h|h
      ·exact h2 x h
      ·rw[List.mem_singleton] at h;subst h;exact⟨(h1 a rfl).1,Nat.le_of_lt hlt⟩)
     | none=>exact ih _ _ _ (fun a h=>by cases h) h2
    ·cases st with
     | some a=>exact ih _ _ _ (fun b h=>by injection h with h;subst h;have:=h1 a rfl;exact⟨by omega,this.2⟩) h2
     | none=>exact ih _ _ _ (fun b h=>by injection h with h;subst h;exact⟨by omega,hlt⟩) h2
   ·exact⟨h2,fun a h=>(h1 a h).2⟩
theorem pfields_ok (p:Nat→Bool) (s x:ByteArray) (h:x∈Lib.goFieldsP p s):0<x.size∧x.size≤s.size:=by
 unfold Lib.goFieldsP at h
 obtain⟨q,hq,rfl⟩:=List.mem_map.1 h
 have hk:q.1<q.2∧q.2≤s.size:=by
  unfold Lib.spansOfP Lib.closeSpans at hq
  have h1:=spans_ok p s s.size 0 none [] (fun a h=>by cases h) (fun x h=>by cases h)
  split at hq
  ·rename_i heq
   rw[heq] at h1
   rcases List.mem_append.1 hq with h|h
   ·exact h1.1 q h
   ·rw[List.mem_singleton] at h
    subst h
    exact⟨h1.2 _ rfl,Nat.le_refl _⟩
  ·rename_i heq
   rw[heq] at h1
   exact h1.1 q hq
 rw[ByteArray.size_extract]
 omega
theorem pspans_len (p:Nat→Bool) (s:ByteArray):∀f pos st acc,(Lib.spansFromP p s f pos st acc).1.length≤acc.length+f:=by
 intro f
 induction f with
 | zero=>intro pos st acc;simp[Lib.spansFromP]
 | succ f ih =>
   intro pos st acc
   unfold Lib.spansFromP
   split
   ·split
    ·cases st with
     | some a=>have:=ih (pos+(Utf8.decode s pos).2) none (acc++[(a,pos)]);simp at this ⊢;omega
     | none=>have:=ih (pos+(Utf8.decode s pos).2) none acc;simp at this ⊢;omega
    ·cases st with
     | some a=>have:=ih (pos+(Utf8.decode s pos).2) (some a) acc;simp at this ⊢;omega
     | none=>have:=ih (pos+(Utf8.decode s pos).2) (some pos) acc;simp at this ⊢;omega
   ·simp
theorem pfields_len (p:Nat→Bool) (s:ByteArray):(Lib.goFieldsP p s).length≤s.size+1:=by
 unfold Lib.goFieldsP Lib.spansOfP Lib.closeSpans
 have:=pspans_len p s s.size 0 none []
 rw[List.length_map]
 split <;> simp at * <;> omega
theorem trims_le (l p:List UInt8):(Lib.trimSuffix l p).length≤l.length:=by
 unfold Lib.trimSuffix
 split
 ·rw[List.length_take];omega
 ·exact Nat.le_refl _
theorem lineP_le (l:List UInt8):(lineP l).length≤l.length:=by
 unfold lineP
 have h1:=(cut_le (Lib.trimSuffix (Lib.trimSuffix l [10]) [13]) [35]).1
 have h2:=trims_le (Lib.trimSuffix l [10]) [13]
 have h3:=trims_le l [10]
 omega
theorem wrdP_ok (l x:List UInt8) (h:x∈wrdP l):x≠[]∧x.length≤l.length:=by
 unfold wrdP at h
 obtain⟨y,hy,rfl⟩:=List.mem_map.1 h
 have h1:=pfields_ok _ _ _ hy
 have h2:=lineP_le l
 rw[show (⟨(lineP l).toArray⟩:ByteArray).size=(lineP l).length from bsize _] at h1
 have h3:y.data.toList.length=y.size:=(Lib.size_eq y).symm
 exact⟨fun e=>by rw[e] at h3;simp at h3;omega,by omega⟩
theorem pblank (w:World):PredAtRunes Tryz.prog 62 #[] blkP w:=fun W x _ _=>by
 unfold FnGives
 have:Calls Tryz.prog 62 #[.int .i32 (x:Int)] W fun e w'=>e = .returned (.bool (blkP x))∧w'=W:=by
  have hb:blkP x=(((x:Int)==32)||((x:Int)==9)):=by
   unfold blkP
   congr 1
   ·by_cases h:x=32
    ·subst h;rfl
    ·rw[beq_eq_false_iff_ne.2 h,beq_eq_false_iff_ne.2 (by omega)]
   ·by_cases h:x=9
    ·subst h;rfl
    ·rw[beq_eq_false_iff_ne.2 h,beq_eq_false_iff_ne.2 (by omega)]
  rw[hb]
  go_enter Tryz.func62,Tryz.ntmps62
  go_wp2
  all_goals go_ret
  all_goals simp[*]
 exact this.mono fun e w' ⟨h1,h2⟩=>⟨h1,0,h2⟩
set_option maxRecDepth 100000 in
set_option maxHeartbeats 2000000 in
theorem pwords (s:ByteArray) (w:World) (hs:s.size≤1048576) (hE:PEnv w) :
 Calls Tryz.prog 30 #[.string s] w fun e w'=>∃v,e = .returned v∧StrS v (wrdP s.data.toList) w'∧Below w.heap.size w w':=by
 obtain⟨m,hm⟩:=hE.m
 have hln:s.data.toList.length=s.size:=(Lib.size_eq s).symm
 have C1:=Lib.hid (Tryz.strings_TrimSuffix s ⟨#[10]⟩ w (by omega))
 have h1:=trims_le s.data.toList [10]
 have C2:=Lib.hid (Tryz.strings_TrimSuffix ⟨(Lib.trimSuffix s.data.toList [10]).toArray⟩ ⟨#[13]⟩ w (by rw[bsize];omega))
 have h2:=trims_le (Lib.trimSuffix s.data.toList [10]) [13]
 have C3:=Lib.hid (Tryz.strings_Cut ⟨(Lib.trimSuffix (Lib.trimSuffix s.data.toList [10]) [13]).toArray⟩ ⟨#[35]⟩ m w (by rw[bsize];omega) hm)
 have h3:=lineP_le s.data.toList
 have C4:=Lib.hid (fun W=>Tryz.strings_FieldsFunc_runes 62 #[] (fun args w=>enters_of Tryz.func62 (by kernel_rfl) rfl args w) blkP ⟨(lineP s.data.toList).toArray⟩ W (by rw[bsize];omega) (pblank W))
 replace C3:Hid (Calls Tryz.prog 60 #[.string ⟨(Lib.trimSuffix (Lib.trimSuffix s.data.toList [10]) [13]).toArray⟩,.string ⟨#[35]⟩] w fun e w'=>e = .returned (.tuple #[.string ⟨(lineP s.data.toList).toArray⟩,.string ⟨(Lib.cut (Lib.trimSuffix (Lib.trimSuffix s.data.toList [10]) [13]) [35]).2.1.toArray⟩,.bool (Lib.cut (Lib.trimSuffix (Lib.trimSuffix s.data.toList [10]) [13]) [35]).2.2])∧∃n,w'=w.drewN n):=C3
 have hfl:(Lib.goFieldsP blkP ⟨(lineP s.data.toList).toArray⟩).length≤4611686018427387904:=by
  have:=pfields_len blkP ⟨(lineP s.data.toList).toArray⟩
  rw[show (⟨(lineP s.data.toList).toArray⟩:ByteArray).size=(lineP s.data.toList).length from bsize _] at this
  omega
 have HW:Hid (wrdP s.data.toList=(Lib.goFieldsP blkP ⟨(lineP s.data.toList).toArray⟩).map (·.data.toList)):=Lib.hid rfl
 generalize wrdP s.data.toList=WS at HW ⊢
 generalize Lib.goFieldsP blkP ⟨(lineP s.data.toList).toArray⟩=FS at HW C4 hfl
 generalize (lineP s.data.toList)=L3 at C3 C4
 clear hE hm hln h1 h2 h3
 go_enter Tryz.func30,Tryz.ntmps30
 go_wp2_with fail
 refine C1.out.mono ?_
 rintro e w1 ⟨rfl,rfl⟩
 go_wp2_with fail
 refine C2.out.mono ?_
 rintro e w2 ⟨rfl,rfl⟩
 go_wp2_with fail
 refine C3.out.mono ?_
 rintro e w3 ⟨rfl,q,rfl⟩
 go_wp2_with fail
 refine (C4.out _).mono ?_
 rintro e w4 ⟨A,rfl,hA,hown,hb⟩
 go_wp2
 go_ret
 refine⟨_,rfl,⟨A,0,FS.length,by rw[HW.out,List.length_map];rfl,by rw[HW.out,List.length_map];exact Nat.le_refl _,hfl,fun i x hx=>?_⟩,(below_drewN (Below.refl _ _) q).trans hb⟩
 rw[HW.out,List.getElem?_map] at hx
 obtain⟨y,hy,rfl⟩:=Option.map_eq_some_iff.1 hx
 have:=hown.cells (g:=A) rfl i (.string y) (by simp[hy])
 rwa[Addr.add_lit] at this
end Go.Proofs.YtgpbaeehajkebaaGreatDoor
namespace Go.Proofs.YtgpbaeehajkebaaGreatDoor
open Go Go.RowKit Go.Kt Go.Kt.Rg Go.Maps
def PtV (ρ:Nat→Nat) (v:Value) (l:List Nat) (w:World):Prop :=
 ∃b off cap,v = .slice (some ⟨b,off,none⟩) l.length cap∧l.length≤cap∧cap≤4611686018427387904∧ρ b=0∧b<w.heap.size∧∀(i:Nat) (x:Nat),l[i]? = some x→w.cell? ⟨b,off+i,none⟩=some (.int .i32 (x:Nat))
theorem PtV.keep {ρ:Nat→Nat} {v:Value} {l:List Nat} {X:Nat→Prop} {A B:World} (h:PtV ρ v l A) (hk:Keep X A B) (hX:∀b,X b→ρ b≠0):PtV ρ v l B:=by
 obtain⟨b,off,cap,rfl,h1,h2,h3,h4,h5⟩:=h
 exact⟨b,off,cap,rfl,h1,h2,h3,Nat.lt_of_lt_of_le h4 hk.size,fun i x hx=>hk.cell (h5 i x hx) (fun e=>hX _ e h3)⟩
def DecM (ρ:Nat→Nat) (k B n:Nat) (d:Nat→Option (List Nat)) (w:World):Prop :=
 ρ B=k∧∃vs:Nat→Option Value,MapG Tryz.prog 21 B n (ptF vs) w∧(∀x,(vs x).isSome=(d x).isSome)∧∀x v l,vs x=some v→d x=some l→PtV ρ v l w
theorem DecM.keep {ρ:Nat→Nat} {k B n:Nat} {d:Nat→Option (List Nat)} {X:Nat→Prop} {A C:World} (h:DecM ρ k B n d A) (hk:Keep X A C) (hX:∀b,X b→ρ b≠k∧ρ b≠0):DecM ρ k B n d C:=by
 obtain⟨h0,vs,h1,h2,h3⟩:=h
 exact⟨h0,vs,h1.keep hk (fun e=>(hX _ e).1 h0),h2,fun x v l hv hl=>(h3 x v l hv hl).keep hk (fun b e=>(hX b e).2)⟩
def PutOut (ρ:Nat→Nat) (k B n:Nat) (d:Nat→Option (List Nat)) (x:Nat) (t:List Nat) (w:World) (e:Ending) (w':World):Prop :=
 e = .returned (.int .i64 (if (d x).isSome then 13 else 0))∧DecM ρ k B (n+1) (if (d x).isSome then d else updN d x t) w'∧Keep (fun b=>b=B) w w'
set_option maxRecDepth 100000 in
set_option maxHeartbeats 2000000 in
theorem pput (ρ:Nat→Nat) (k B n:Nat) (d:Nat→Option (List Nat)) (w:World) (hk:k≠0) (hD:DecM ρ k B n d w) (x:Nat) (t:List Nat) (hx:x≤16777215) (ht:t≠[]) (hn:n≤1048576) (v:Value) (hv:PtV ρ v (x::t) w) :
 Calls Tryz.prog 93 #[.map (some B),v] w fun e w'=>PutOut ρ k B n d x t w e w':=by
 obtain⟨b,off,cap,rfl,h1,h2,hb0,hbl,hc⟩:=hv
 obtain⟨m,hm⟩:∃m,t.length=m:=⟨_,rfl⟩
 have hm1:1≤m:=by have:=List.length_pos_iff.2 ht;omega
 rw[List.length_cons,hm] at h1 ⊢
 have c0:w.cell? ⟨b,off,none⟩=some (.int .i32 (x:Nat)):=hc 0 x rfl
 obtain⟨hB,vs,hM,hs,hp⟩:=hD
 have hkey:keyOf Tryz.prog 21 (.int .i32 (x:Nat))=some (.int .i32 (x:Nat)):=keyOf_int_mk Tryz.underlying21 (WalkArith.wf_i32 (n:=(x:Int)) ⟨by omega,by omega⟩)
 have hne:b≠B:=fun e=>by rw[e,hB] at hb0;exact hk hb0
 have hlk:=fun (W:World) (h:MapG Tryz.prog 21 B n (ptF vs) W)=>h.look (int_keyed Tryz.underlying21) Tryz.underlying70 (z:=.slice none 0 0) rfl hkey
 rw[ptF_at] at hlk
 have HSX:=hs x
 have hl1:=hlk w hM
 have HO:Hid (∀s:Bool,(vs x).isSome=s→(d x).isSome=s):=Lib.hid (fun s h=>by rw[←hs x];exact h)
 cases hvx:vs x with
 | some u =>
   rw[hvx] at hl1 HO
   have hl:(Instr.lookup 70 (.map (some B)) (.int .i32 (x:Nat)) true).run Tryz.prog w = .ok (.tuple #[u,.bool true]) w:=hl1
   have HD1:=Lib.hid (⟨hB,vs,hM.mono (Nat.le_succ n),hs,hp⟩:DecM ρ k B (n+1) d w)
   clear hlk hl1 hp hs hM hc h2 hkey HSX hvx hbl
   go_enter Tryz.func93,Tryz.ntmps93
   go_wp2
   go_ret
   unfold PutOut
   rw[HO.out true rfl]
   exact⟨rfl,HD1.out,Keep.refl _ _⟩
 | none =>
   rw[hvx] at hl1 HO
   have hl:(Instr.lookup 70 (.map (some B)) (.int .i32 (x:Nat)) true).run Tryz.prog w = .ok (.tuple #[.slice none 0 0,.bool false]) w:=hl1
   have hld:∀X:World,X=w.drew→(Instr.loadAt 21 (.pointer (some ⟨b,off,none⟩))).run Tryz.prog X = .ok (.int .i32 (x:Nat)) X:=fun X h=>by
    subst h
    have c1:w.drew.cell? ⟨b,off,none⟩=some (.int .i32 (x:Nat)):=c0
    go_simp
   have hix:∀X:World,(Instr.indexAt 78 (.slice (some ⟨b,off,none⟩) (m+1) cap) (.int .i64 0)).run Tryz.prog X = .ok (.pointer (some ⟨b,off,none⟩)) X:=fun X=>by
    have q:¬(m:Int)+1≤0:=by omega
    go_simp
   have hsl:∀X:World,(Instr.sliceAt 78 (.slice (some ⟨b,off,none⟩) (m+1) cap) (some (.int .i64 1)) none none).run Tryz.prog X = .ok (.slice (some ⟨b,off+1,none⟩) m (cap-1)) X:=fun X=>by
    have q:(1:Int)≤(m:Int)+1:=by omega
    have q3:¬cap=1:=by omega
    have q2:((m:Int)+1)≤cap:=by omega
    go_simp
   obtain⟨w2,hr2,hM2,hK2⟩:=(hM.keep (Keep.refl (fun _=>False) w).drew (fun h=>h)).put (int_keyed Tryz.underlying21) Tryz.underlying70 (by unfold maxLen;omega) (val:=.slice (some ⟨b,off+1,none⟩) m (cap-1)) hkey
   have hmu:∀X:World,X=w.drew→(Instr.mapUpdate 70 (.map (some B)) (.int .i32 (x:Nat)) (.slice (some ⟨b,off+1,none⟩) m (cap-1))).run Tryz.prog X = .ok () w2:=fun X h=>by
    subst h
    exact hr2
   have HKW:=Lib.hid (Keep.trans (Keep.refl (fun b=>b=B) w).drew hK2)
   have HD1:Hid (DecM ρ k B (n+1) (updN d x t) w2):=Lib.hid (by
    refine⟨hB,updN vs x (.slice (some ⟨b,off+1,none⟩) m (cap-1)),hM2.congr (fun kl hkl=>ptF_put vs x _ kl hkl),fun y=>?_,fun y v l hv hl=>?_⟩
    ·unfold updN
     by_cases e:y=x
     ·rw[if_pos e,if_pos e];rfl
     ·rw[if_neg e,if_neg e];exact hs y
    ·unfold updN at hv hl
     by_cases e:y=x
     ·rw[if_pos e] at hv hl
      cases hv;cases hl
      refine⟨b,off+1,cap-1,by rw[hm],by omega,by omega,hb0,Nat.lt_of_lt_of_le hbl HKW.out.size,fun i z hz=>?_⟩
      have:=hc (i+1) z (by simpa using hz)
      rw[show off+1+i=off+(i+1) by omega]
      exact HKW.out.cell this hne
     ·rw[if_neg e] at hv hl
      exact (hp y v l hv hl).keep HKW.out (fun b' e2=>by rw[e2,hB];exact hk))
   have HB:=Lib.hid hB
   clear hlk hl1 hp hs hM hc h2 HSX hvx hkey hr2 hM2 hK2 hne hb0 hB hbl
   go_enter Tryz.func93,Tryz.ntmps93
   go_wp2_with fail
   obtain⟨FF,hFF⟩:∃FF:StoR,FF=⟨w.drew,w2,6,fun z=>match z with|0=>some (.map (some B))|1=>some (.slice (some ⟨b,off,none⟩) (m+1) cap)|2=>some (.pointer (some ⟨b,off,none⟩))|3=>some (.int .i32 (x:Nat))|4=>some (.slice (some ⟨b,off,none⟩) (m+1) cap)|5=>some (.slice (some ⟨b,off+1,none⟩) m (cap-1))|_=>none⟩:=⟨_,rfl⟩
   have H0:StoR.S FF (fun _=>false) w.drew:=by rw[hFF];exact fun _=>rfl
   refine wp_region_done (StoR.S FF) (StoR.P FF) (by kernel_rfl) (by kernel_rfl) (by kernel_rfl) H0 ?hs ?hd
   case hs =>
    rw[hFF]
    refine DSteps.cons ?_ (DSteps.cons ?_ (DSteps.cons ?_ (DSteps.cons ?_ (DSteps.cons ?_ (DSteps.cons ?_ (DSteps.cons ?_ (DSteps.nil)))))))
    ·intro D2 a X9 hDi hDa _ hX hL hd
     refine⟨rfl,?_⟩
     have e0:a.eval (.tmp 0) = .map (some B):=hL.far 0 (by kernel_rfl)
     exact wp_value (exec_move rfl e0) ⟨_,rfl,hX.more,fun _ _ _ h=>h,StoR.P.mk rfl (by simp)⟩
    ·intro D2 a X9 hDi hDa _ hX hL hd
     refine⟨rfl,?_⟩
     have e0:a.eval (.tmp 1) = .slice (some ⟨b,off,none⟩) (m+1) cap:=hL.far 1 (by kernel_rfl)
     exact wp_value (exec_move rfl e0) ⟨_,rfl,hX.more,fun _ _ _ h=>h,StoR.P.mk rfl (by simp)⟩
    ·intro D2 a X9 hDi hDa _ hX hL hd
     refine⟨rfl,?_⟩
     have e0:a.eval (.tmp 17) = .slice (some ⟨b,off,none⟩) (m+1) cap:=(hd 1 17 (by kernel_rfl) (by kernel_rfl)).is rfl
     exact wp_value (exec_indexAddr rfl e0 rfl (hix X9)) ⟨_,rfl,hX.more,fun _ _ _ h=>h,StoR.P.mk rfl (by simp)⟩
    ·intro D2 a X9 hDi hDa _ hX hL hd
     refine⟨rfl,?_⟩
     have e0:a.eval (.tmp 18) = .pointer (some ⟨b,off,none⟩):=(hd 2 18 (by kernel_rfl) (by kernel_rfl)).is rfl
     exact wp_value (exec_load rfl e0 (hld X9 (hX (hDa 6 (by kernel_rfl))))) ⟨_,rfl,hX.more,fun _ _ _ h=>h,StoR.P.mk rfl (by simp)⟩
    ·intro D2 a X9 hDi hDa _ hX hL hd
     refine⟨rfl,?_⟩
     have e0:a.eval (.tmp 1) = .slice (some ⟨b,off,none⟩) (m+1) cap:=hL.far 1 (by kernel_rfl)
     exact wp_value (exec_move rfl e0) ⟨_,rfl,hX.more,fun _ _ _ h=>h,StoR.P.mk rfl (by simp)⟩
    ·intro D2 a X9 hDi hDa _ hX hL hd
     refine⟨rfl,?_⟩
     have e0:a.eval (.tmp 20) = .slice (some ⟨b,off,none⟩) (m+1) cap:=(hd 4 20 (by kernel_rfl) (by kernel_rfl)).is rfl
     exact wp_value (exec_slice rfl e0 rfl rfl rfl (hsl X9)) ⟨_,rfl,hX.more,fun _ _ _ h=>h,StoR.P.mk rfl (by simp)⟩
    ·intro D2 a X9 hDi hDa _ hX hL hd
     refine⟨rfl,?_⟩
     have e0:a.eval (.tmp 16) = .map (some B):=(hd 0 16 (by kernel_rfl) (by kernel_rfl)).is rfl
     have e1:a.eval (.tmp 19) = .int .i32 (x:Nat):=(hd 3 19 (by kernel_rfl) (by kernel_rfl)).is rfl
     have e2:a.eval (.tmp 21) = .slice (some ⟨b,off+1,none⟩) m (cap-1):=(hd 5 21 (by kernel_rfl) (by kernel_rfl)).is rfl
     exact wp_skipped (exec_mapUpdate rfl e0 e1 e2 (hmu X9 (hX hDi))) ⟨undef,rfl,StoR.S.store,fun k2 u hj h=>h.store (fun e=>by subst e;rw[hDi] at hj;cases hj),StoR.P.last rfl rfl⟩
   case hd =>
    intro D2 a X9 hAll hX hL hP hE
    obtain⟨_,hp⟩:=hE 6 (by decide)
    rw[hFF] at hp
    have hX9:X9=w2:=hp.2 rfl
    obtain⟨f,ha,hf⟩:=hL.out [16,17,18,19,20,21] rfl
    clear hf hAll hP hX hL hE hp hFF H0 hix hld hsl hmu
    simp only[List.foldl_cons,List.foldl_nil,List.setIfInBounds_toArray,List.set_cons_zero,List.set_cons_succ] at ha
    subst ha
    subst hX9
    clear c0 hl
    go_wp2
    go_ret
    unfold PutOut
    rw[HO.out false rfl]
    exact⟨rfl,HD1.out,HKW.out⟩
end Go.Proofs.YtgpbaeehajkebaaGreatDoor
namespace Go.Proofs.YtgpbaeehajkebaaGreatDoor
open Go Go.RowKit Go.Kt Go.Kt.Rg Go.Maps
attribute [local go_sem] Oper.semAt_some
theorem ranges_heap {H:Type} {P:Program} {k:TypeId} {R:Value→Option (DataW H × List MemPlace)} {b r n:Nat} {D:DataW H} {left:Lit→Bool} {cnt:Nat} {w w':World}
 (h:w.ranges P k R b r n D left cnt) (hb:w'.heap[b]? = w.heap[b]?) (hr:w'.heap[r]? = w.heap[r]?):w'.ranges P k R b r n D left cnt:=by
 unfold World.ranges at h ⊢
 rw[hb,hr]
 exact h
def encK (x:Nat):Array Value:=#[.int .i32 (x:Nat)]
def OkK (vs:Nat→Option Value) (pre:List Nat):Prop:=pre.Nodup∧∀x∈pre,(vs x).isSome=true
def FinK (vs:Nat→Option Value) (L:List Nat):Prop:=L.Nodup∧∀x,x∈L↔(vs x).isSome=true
theorem pkeys_call (b:Nat) (w:World) :
 Calls Tryz.prog 64 #[.map (some b)] w fun e w'=>e = .returned (.func (.func 100) #[] #[.pointer (some ⟨w.heap.size,0,none⟩)])∧w.alloc (.cells #[.map (some b)] 70)=w':=by
 go_enter Tryz.func64,Tryz.ntmps64
 go_wp2
 go_ret
 exact⟨rfl,rfl⟩
theorem enters_keys:∀args w,(callFunc 100 args).run Tryz.prog w = .ok (.enter 100 args) w:=enters_of Tryz.func100 (by kernel_rfl) rfl
set_option maxRecDepth 100000 in
set_option maxHeartbeats 4000000 in
theorem pkeys_iter (b n:Nat) (vs:Nat→Option Value) (bs:Nat) (w0:World) (hbs:w0.cell? ⟨bs,0,none⟩=some (.map (some b))) (hM:MapG Tryz.prog 21 b n (ptF vs) w0) :
 Iter5 Tryz.prog 100 #[.pointer (some ⟨bs,0,none⟩)] encK (OkK vs) (FinK vs) (fun _=>False) (fun x=>x=bs∨x=b) w0:=by
 intro m X J Jx W hNd hX hsame hsz hJ hJx hSl hY h0
 have q1:W.cell? ⟨bs,0,none⟩=some (.map (some b)):=(World.cell?_of_block (a:=⟨bs,0,none⟩) (hsame bs (.inr (.inl rfl)))).trans hbs
 have hMW:MapG Tryz.prog 21 b n (ptF vs) W:=hM.of_heap (hsame b (.inr (.inr rfl)))
 have hbW:=hMW.lt
 obtain⟨D,hown,hhas,hat⟩:=hMW
 have hXb:Hid (¬X bs∧¬X b∧b<W.heap.size∧bs<W.heap.size):=Lib.hid ⟨hNd bs (.inr (.inl rfl)),hNd b (.inr (.inr rfl)),hbW,lt_of_cell q1⟩
 have HK:=Lib.hid (And.intro hX (And.intro hJ (And.intro hJx (And.intro hSl hY))))
 have HH:Hid (∀kl,WideAt.IsKeyLit kl→Maps.has D kl=(ptF vs kl).isSome):=Lib.hid hhas
 have hfn:∀k,Fence.wide.fn k:=fun _=>trivial
 have hdep:Fence.wide.depth=none:=rfl
 clear hNd hsame hsz hX hJ hJx hSl hY hhas hat hM hbs hbW
 refine (callsIn_wide (n:=0)).1 ?_
 refine callsIn_of_wp Tryz.func100 rfl trivial ?_ rfl
 simp only[Tryz.ntmps100,List.size_toArray,List.length_cons,List.length_nil,Nat.reduceAdd,Nat.reduceSub,Array.replicate_succ,Array.replicate_zero,List.push_toArray,List.append_toArray,List.nil_append,List.cons_append]
 gi_wp2_with (first|(gi_at_range;refine wpListIn_range_own _ rfl _ 70 rfl 21 _ (int_keyed Tryz.underlying21) Tryz.underlying70 _ b n D rfl hown ?_;intro w1 hrg0 hg0 hs0)|fail)
 have hJ1:J [] (fun _=>False) w1:=HK.out.2.1 _ _ _ _ ((keep_grown hg0).weaken (fun _ _ h=>by cases h)) h0
 have hk1:Keep (fun b=>X b∨False) W w1:=(keep_grown hg0).weaken (fun _ _ h=>by cases h)
 have hat0:∀x:Nat,Maps.has D (.int .i32 (x:Nat))=(vs x).isSome:=fun x=>by
  have h:=HH.out (.int .i32 (x:Nat)) trivial
  rw[ptF_at] at h
  exact h
 have H1:=Lib.hid (And.intro hJ1 (And.intro hk1 (And.intro hrg0 hat0)))
 have hs1:Hid (w1.heap.size=W.heap.size+1):=Lib.hid hs0
 clear hJ1 hk1 hrg0 hat0 hg0 hs0 h0 hown q1
 gi_wp2_with fail
 go_frame
 gi_loopw [3] (fun _ wr=>∃(left:Lit→Bool) (cnt:Nat) (pre:List Nat) (Y:Nat→Prop),wr.ranges Tryz.prog 21 rawR b W.heap.size n D left cnt∧OkK vs pre∧(∀kl,left kl=true→Maps.has D kl=true)∧(∀x:Nat,left (.int .i32 (x:Nat))=true↔(vs x).isSome=true∧x∉pre)∧(∀y,Y y→W.heap.size<y)∧J pre Y wr∧Keep (fun b=>X b∨False) W wr)
  (fun _ wr=>wr.rangeLeft b W.heap.size)
 case atStart=>exact⟨Maps.has D,_,[],_,H1.out.2.2.1,⟨List.nodup_nil,fun _ h=>by cases h⟩,fun _ h=>h,fun x=>by rw[H1.out.2.2.2];simp,fun _ h=>h.elim,H1.out.1,H1.out.2.1⟩
 case round =>
  obtain⟨left,cnt,pre,Y,hrg,hok,hlh,hlp,hYl,hJs,hkp⟩:=hrel
  have HI:=Lib.hid (And.intro hok (And.intro hlh (And.intro hlp (And.intro hYl (And.intro hJs hkp)))))
  have HRG:=Lib.hid hrg
  clear hok hlh hlp hYl hJs hkp
  gi_wp2_with (first|(gi_at_next;refine wpListIn_next_ranges _ rfl _ rfl 21 (int_keyed Tryz.underlying21) rawR (Value.int .i32) (fun v:Value=>v) (fun key kl hkey=>by obtain⟨x,rfl,_⟩:=Maps.keyOf_int_inv Tryz.underlying21 hkey;exact⟨x,rfl⟩) (fun v y _=>⟨v,rfl⟩) b W.heap.size n D left cnt rfl hrg ?_ ?_)|fail)
  ·intro hc0 hl0
   have hfin:FinK vs pre:=⟨HI.out.1.1,fun x=>⟨HI.out.1.2 x,fun h=>Decidable.byContradiction fun hx=>by
    have:=(HI.out.2.2.1 x).2 ⟨h,hx⟩
    rw[hl0] at this
    cases this⟩⟩
   have HF:=Lib.hid hfin
   clear hfin hl0 hc0 hrg
   gi_wp2_with fail
   go_end0
   exact⟨⟨_,rfl⟩,HI.out.2.2.2.2.2,.inl ⟨pre,Y,HF.out,fun y hy=>by have:=HI.out.2.2.2.1 y hy;omega,HI.out.2.2.2.2.1⟩⟩
  ·intro z c kl y1 y2 w2 cnt2 hkey hlk hv hat hrg2 hlt hgr hsz2 hen
   obtain⟨z',ez,rfl,hwf⟩:=Maps.keyOf_int_inv Tryz.underlying21 hkey
   cases ez
   have hz0:(ptF vs (.int .i32 z)).isSome=true:=by rw[←HH.out (.int .i32 z) trivial];exact HI.out.2.1 _ hlk
   have hzp:0≤z:=by
    refine Decidable.byContradiction fun h=>?_
    unfold ptF at hz0
    simp only[if_neg h] at hz0
    cases hz0
   obtain⟨x,rfl⟩:=Int.eq_ofNat_of_zero_le hzp
   have hx:=(HI.out.2.2.1 x).1 hlk
   have hk2:Keep (fun b=>b=W.heap.size) wr w2:=(keep_grown hgr).weaken (fun y _ h=>by cases h;rfl)
   have hYr:¬Y W.heap.size:=fun h=>by have:=HI.out.2.2.2.1 _ h;omega
   have hJ2:J pre Y w2:=HK.out.2.1 _ _ _ _ (hk2.weaken (fun y _ h=>⟨.inr (by omega),by rw[h];exact hYr⟩)) HI.out.2.2.2.2.1
   have hkW2:Keep (fun b=>X b∨False) W w2:=by
    have hk3:=HI.out.2.2.2.2.2
    exact⟨hk2.os.trans hk3.os,hk2.tape.trans hk3.tape,hk2.output.trans hk3.output,Nat.le_trans hk3.size hk2.size,fun b hb hx=>(hk2.same b (Nat.lt_of_lt_of_le hb hk3.size) (fun h=>by omega)).trans (hk3.same b hb hx)⟩
   have hnd:(pre++[x]).Nodup:=by
    rw[List.nodup_append]
    refine⟨HI.out.1.1,by simp,fun a ha c hc=>?_⟩
    rw[List.mem_singleton.1 hc]
    exact fun e=>hx.2 (e▸ha)
   have hmm:∀y∈pre++[x],(vs y).isSome=true:=fun y hy=>by
    rcases List.mem_append.1 hy with hy|hy
    ·exact HI.out.1.2 y hy
    ·rw[List.mem_singleton.1 hy];exact hx.1
   have hok2:OkK vs (pre++[x]):=⟨hnd,hmm⟩
   clear hnd hmm
   have hyy:YieldAt Fence.wide 0 Tryz.prog m #[.int .i32 (x:Nat)] w2 _:=HK.out.2.2.2.2 pre x Y w2 hok2 hJ2 hkW2.size (fun y hy=>by have:=HI.out.2.2.2.1 y hy;omega)
   obtain⟨fn,tmps,assign,body,hy,hR⟩:=hyy
   have hlx:∀y:Nat,(left (.int .i32 (y:Nat)) && !(Lit.int .i32 (y:Nat)).sameKey (.int .i32 (x:Nat)))=true↔(vs y).isSome=true∧y∉pre++[x]:=fun y=>by
    rw[Bool.and_eq_true,HI.out.2.2.1 y]
    by_cases e:y=x
    ·subst e
     rw[WideAt.sameKey_self (a:=.int .i32 (y:Nat)) trivial]
     simp
    ·rw[sameKey_ne (fun h=>by injection h with _ h;exact e (by omega))]
     simp[e]
   have H2:=Lib.hid (And.intro hkW2 (And.intro hrg2 (And.intro hlx (And.intro hok2 (And.intro hlt hYr)))))
   clear hk2 hJ2 hkW2 hok2 hlx hx hz0 hzp hlk hv hat hrg2 hlt hgr hsz2 hwf hkey hrg hYr
   gi_wp2_with fail
   refine hR.mono ?_
   rintro e3 V3 ⟨Y',hk4,hY',(⟨rfl,hJ3⟩|⟨rfl,hJx3⟩)⟩
   all_goals have hk3:=H2.out.1
   all_goals have hzk:=hk3.size
   all_goals have hkW:Keep (fun b=>X b∨False) W V3:=⟨hk4.os.trans hk3.os,hk4.tape.trans hk3.tape,hk4.output.trans hk3.output,Nat.le_trans hk3.size hk4.size,fun b hb hx=>(hk4.same b (Nat.lt_of_lt_of_le hb hk3.size) (fun h=>by rcases h with h|h;exact hx (.inl h);have:=HI.out.2.2.2.1 b h;omega)).trans (hk3.same b hb hx)⟩
   all_goals have hYl2:∀b,Y' b→W.heap.size<b:=fun b hb=>by rcases hY' b hb with h|h;exact HI.out.2.2.2.1 b h;have:=H2.out.2.1.lt;omega
   ·have hrg3:=ranges_heap H2.out.2.1 (hk4.same b (by have:=hXb.out.2.2.1;omega) (fun h=>by
    rcases h with h|h
    ·exact hXb.out.2.1 h
    ·have:=HI.out.2.2.2.1 b h;have:=hXb.out.2.2.1;omega)) (hk4.same W.heap.size H2.out.2.1.lt (fun h=>by
    rcases h with h|h
    ·have:=HK.out.1 _ h;omega
    ·exact H2.out.2.2.2.2.2 h))
    have HF:=Lib.hid (And.intro hYl2 (And.intro hJ3 (And.intro hkW hrg3)))
    clear hk4 hk3 hYl2 hJ3 hkW hrg3 hY'
    gi_wp2_with fail
    go_roundw
    case rel=>exact⟨_,cnt2,pre++[x],Y',HF.out.2.2.2,H2.out.2.2.2.1,fun kl h=>HI.out.2.1 kl (by rw[Bool.and_eq_true] at h;exact h.1),H2.out.2.2.1,HF.out.1,HF.out.2.1,HF.out.2.2.1⟩
    case measure=>rw[HF.out.2.2.2.left_eq,HRG.out.left_eq];exact H2.out.2.2.2.2.1
   ·have HF:=Lib.hid (And.intro hYl2 (And.intro hJx3 hkW))
    clear hk4 hk3 hYl2 hJx3 hkW hY'
    gi_wp2_with fail
    refine bodyPost_ret (results_none rfl _ _ _) rfl ?_
    exact⟨⟨_,rfl⟩,HF.out.2.2,.inr ⟨_,Y',H2.out.2.2.2.1,fun y hy=>by have:=HF.out.1 y hy;omega,HF.out.2.1⟩⟩
end Go.Proofs.YtgpbaeehajkebaaGreatDoor
namespace Go.Proofs.YtgpbaeehajkebaaGreatDoor
open Go Go.RowKit Go.Kt Go.Kt.Rg Go.Maps
attribute [local go_sem] Oper.semAt_some
theorem tinfoI32:(Tryz.prog.info? 21).map (fun i=>(i.zero,i.size,i.bytes))=some (some (.int .i32 0),1,4):=by kernel_rfl
def encN (l:List Nat):List Value:=l.map fun x=>.int .i32 (x:Nat)
theorem encN_snoc (l:List Nat) (x:Nat):encN (l++[x])=encN l++[.int .i32 (x:Nat)]:=by simp[encN]
theorem nodup_le:∀(N:Nat) (l:List Nat),l.Nodup→(∀x∈l,x<N)→l.length≤N
 | 0,l,_,h=>by
   cases l with
   | nil=>exact Nat.le_refl _
   | cons x t=>exact absurd (h x List.mem_cons_self) (by omega)
 | N+1,l,hn,h=>by
   have h1:=nodup_le N (l.erase N) (hn.erase N) (fun x hx=>by
    have h2:=h x (List.mem_of_mem_erase hx)
    have h3:x≠N:=fun e=>(hn.not_mem_erase (a:=N)) (e▸hx)
    omega)
   have h4:=List.length_erase (a:=N) (l:=l)
   split at h4 <;> omega
def AppI (n:Nat) (pre:List Nat) (Y:Nat→Prop) (W:World):Prop:=∃ao cv,W.heap[n]? = some (.cells #[.slice ao pre.length cv] 78 (0,0))∧OwnS (fun b=>Y b) 21 1 (.slice ao pre.length cv) pre.length (encN pre) W
set_option maxRecDepth 100000 in
set_option maxHeartbeats 2000000 in
theorem pappend_any (vs:Nat→Option Value) (gf:Nat) (lb:Array Value) (Nd:Nat→Prop) (w w0:World) (eg:∀args w,(callFunc gf args).run Tryz.prog w = .ok (.enter gf args) w)
 (hit:Iter5 Tryz.prog gf lb encK (OkK vs) (FinK vs) (fun _=>False) Nd w0) (hNd:∀b,Nd b→b<w.heap.size) (hNdw:∀b,Nd b→w.heap[b]? = w0.heap[b]?) (hw0:w0.heap.size≤w.heap.size) (hbd:∀x,(vs x).isSome=true→x<1114112) :
 Calls Tryz.prog 128 #[.slice none 0 0,.func (.func gf) #[] lb] w fun e w'=>∃L ao cp,FinK vs L∧e = .returned (.slice ao L.length cp)∧OwnS (fun b=>w.heap.size≤b) 21 1 (.slice ao L.length cp) L.length (encN L) w'∧Below w.heap.size w w':=by
 obtain⟨n,hn⟩:∃n,w.heap.size=n:=⟨_,rfl⟩
 have hfn:∀k,Fence.wide.fn k:=fun _=>trivial
 have hdep:Fence.wide.depth=none:=rfl
 refine (callsIn_wide (n:=0)).1 ?_
 refine callsIn_of_wp_marks Tryz.func128 rfl trivial ?_ rfl
 simp only[Tryz.ntmps128,List.size_toArray,List.length_cons,List.length_nil,Nat.reduceAdd,Nat.reduceSub,Array.replicate_succ,Array.replicate_zero,List.push_toArray,List.append_toArray,List.nil_append,List.cons_append]
 obtain⟨w1,hw1⟩:∃w1,w.alloc (.cells #[.slice none 0 0] 78)=w1:=⟨_,rfl⟩
 have hz1:w1.heap.size=n+1:=by rw[←hw1];simp[hn]
 have b0:w1.heap[n]? = some (.cells #[.slice none 0 0] 78 (0,0)):=by rw[←hw1];exact alloc_at hn.symm
 have hb1:Below n w w1:=by rw[←hw1];exact (Below.refl _ _).alloc (by omega) _
 have HW1:=Lib.hid hw1
 have HIT:=Lib.hid hit
 have HN:=Lib.hid hn
 have HBD:=Lib.hid hbd
 clear hw1 hit hbd
 gi_wp2_with fail
 rw[HW1.out]
 refine loop_out5 (gf:=gf) (lb:=lb) (encs:=encK) rfl eg
  HIT.out (fun _=>rfl) (X:=fun b=>b=n)
  (fun b hb=>by omega) (fun b hb=>?nd) (fun b hb=>?ndw) (by rw[HN.out] at hw0;omega)
  (AppI n)
  (fun _ _ _ _=>False)
  (fun pre Y W W' hk h'=>by
   obtain⟨ao,cv,h1,h2⟩:=h'
   exact⟨ao,cv,hk.heap h1 (fun hx=>by rcases hx.1 with h|h;exact h;omega),h2.keep hk (fun b hx hy=>hx.2 hy)⟩)
  (fun pre Y W h'=>by
   obtain⟨ao,cv,h1,h2⟩:=h'
   exact⟨ao,cv,h1,h2.1,fun b hb=>⟨h2.2 b hb,(h2.1.lt b hb).2⟩⟩)
  (fun _ _ _ _ _ _ h=>h) ⟨_,_,b0,own_nil _ _ _ _⟩ ?round ?done ?stop
 case nd =>
  rcases hb with hb|hb
  ·exact hb.elim
  ·have:=hNd b hb
   rw[HN.out] at this
   exact⟨by omega,by omega⟩
 case ndw =>
  rcases hb with hb|hb
  ·exact hb.elim
  ·exact (hb1.block b (by have:=hNd b hb;rw[HN.out] at this;omega)).trans (hNdw b hb)
 case stop=>intro D c pre Y W _ _ _ h;exact h.elim
 case round =>
  rintro l' hl' pre x Y W hpre hi' hk hY hlt hr
  simp only[encK]
  have HI:=Lib.hid hi'
  have hlen:pre.length<1114112:=by
   have:=nodup_le 1114112 (pre++[x]) hpre.1 (fun y hy=>HBD.out y (hpre.2 y hy))
   simp at this
   omega
  have HPre:=Lib.hid hpre
  have HY:=Lib.hid hY
  have HK:=Lib.hid hk
  have HR:=Lib.hid hr
  clear eg hNd hNdw hi' hk hpre hY hr
  gi_wp2
  refine⟨Keep.refl _ _,?_⟩
  rintro W2 hk1 hk2 ⟨ao,cv,hv,hown⟩ rl hr2
  have hYY:=HY.out
  have hW:=HK.out.size
  have hz2:n<W2.heap.size:=by have:=hk2.size;omega
  have hYn:∀b,Y b→b≠n:=fun b hb=>by have:=(hYY b hb).1;omega
  obtain⟨v,hvv⟩:∃v,Value.slice ao pre.length cv=v:=⟨_,rfl⟩
  rw[hvv] at hown hv
  obtain⟨g,cap,w3,hrun,hown3,hk3,hg3,hz3⟩:=append_x (P:=Tryz.prog) W2 78 21 Tryz.underlying78 tinfoI32 rfl (by omega) hown [.int .i32 (x:Nat)] rfl
   (by intro u hu;simp at hu;rcases hu with rfl;rfl) (by unfold maxLen;omega) (by omega)
  have hvY:∀b,v.ownBlock=some b→Y b:=hown.2
  have hg3Y:Y g∨W2.heap.size≤g:=by
   rcases hg3 with hx|hx
   ·exact .inl (hvY g hx)
   ·exact .inr (by omega)
  have hgn:g≠n:=by
   rcases hg3Y with hx|hx
   ·exact hYn g hx
   ·omega
  have k0:=cell_one hv
  have hvn:∀b,v.ownBlock=some b→b≠n:=fun b hx=>hYn b (hvY b hx)
  have hv3:w3.heap[n]? = some (.cells #[v] 78 (0,0)):=hk3.heap hv (fun hx=>hvn n hx rfl)
  obtain⟨w4,hw4⟩:∃w4,w3.setCell ⟨n,0,none⟩ (.slice (some ⟨g,0,none⟩) (pre.length+1) cap)=w4:=⟨_,rfl⟩
  have hk4:Keep (fun b=>b=n) w3 w4:=by rw[←hw4];exact Keep.setCell (X:=fun b=>b=n) (p:=⟨n,0,none⟩) (Keep.refl _ _) rfl _
  have hv4:w4.heap[n]? = some (.cells #[.slice (some ⟨g,0,none⟩) (pre.length+1) cap] 78 (0,0)):=by rw[←hw4];exact set_at hv3
  have hown4:=hown3.keep hk4 (fun b hb hy=>hgn (by rw[←hy,hb]))
  have k3:=cell_one hv3
  have f3:=frozen_one hv3
  have hfin:Kt.Left (fun b=>b=n) Y (AppI n) (pre++[x]) W2 w4:=by
   refine⟨fun b=>b=g,?_,?_,some ⟨g,0,none⟩,cap,?_,?_⟩
   ·exact (hk3.weaken (Y:=fun b=>b=n∨Y b) (fun b _ hx=>.inr (hvY b hx))).trans (hk4.weaken fun b _ hx=>.inl hx)
   ·rintro b rfl
    exact hg3Y
   ·have e1:(pre++[x]).length=pre.length+1:=by simp
    rw[e1];exact hv4
   ·have e1:(pre++[x]).length=pre.length+1:=by simp
    rw[e1,encN_snoc]
    exact hown4
  have HF:=Lib.hid hfin
  have H3:=Lib.hid hrun
  have HW4:=Lib.hid hw4
  clear hfin hrun hw4 hown hown3 hown4 hk3 hk4 hg3 hvY hvn hv hv3 hv4 hg3Y hYY hYn hk1 hk2 hr2 hgn hlen
  gi_wp2_with (first|(refine wpListIn_append_eq (o:=⟨some 11,_,_,_,_,_⟩) (by rfl) (by rfl) (by rfl) (by rfl) H3.out ?_))
  rw[HW4.out]
  exact HF.out
 case done =>
  rintro D L Y W hFin hD hDd ⟨ao,cv,hv,hown⟩ hY hkW
  have hk2:Below n w W:=hb1.trans ((hkW.weaken (Y:=fun b=>b=n) (fun b _ h=>by rcases h with h|h;exact h;exact h.elim)).below (by omega) (fun b hb=>by omega))
  have b2:=cell_one hv
  have HF:=Lib.hid (And.intro hown (And.intro hk2 (And.intro hY hFin)))
  have HDD:=Lib.hid hDd
  have hDn:Hid (n+1≤D):=Lib.hid (by omega)
  clear hown hk2 hkW hY hDd eg hNd hNdw hw0 hFin
  gi_wp2
  refine leaves_marks (Ds:=[D]) (by simp) (fun D' h=>by simp at h;subst h;exact HDD.out) (fun W' hk'=>⟨_,results_tmp rfl _ _ _,?_⟩)
  obtain⟨ho,hkk,hY,hFin⟩:=HF.out
  have hk':Keep (fun b=>b=D) W W':=hk'.weaken fun b _ hb=>by simpa using hb
  have ho2:=ho.keep hk' (fun b hb hy=>(hY b hy).2 hb)
  rw[HN.out]
  refine⟨L,_,_,hFin,rfl,ho2.weaken (fun b hy=>?_),hkk.trans (hk'.below (by have:=hkk.size;rw[HN.out] at this;omega) (fun b hb=>by have:=hDn.out;omega))⟩
  have:=(hY b hy).1
  omega
end Go.Proofs.YtgpbaeehajkebaaGreatDoor
