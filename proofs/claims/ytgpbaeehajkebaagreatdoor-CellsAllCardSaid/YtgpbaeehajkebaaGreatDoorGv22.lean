/- Parts of the proof of what the last text says. -/
import Derived.Test.YtgpbaeehajkebaaGreatDoorIdx
import Derived.Test.YtgpbaeehajkebaaGreatDoorIex
import Derived.Test.YtgpbaeehajkebaaGreatDoorIfx
import Derived.Test.YtgpbaeehajkebaaGreatDoorGv18
import Derived.Test.YtgpbaeehajkebaaGreatDoorIbx
import Derived.Test.YtgpbaeehajkebaaGreatDoorGv17
import Derived.Test.YtgpbaeehajkebaaGreatDoorGv6
import Derived.Test.YtgpbaeehajkebaaGreatDoorGv3
namespace Go.Proofs.YtgpbaeehajkebaaGreatDoor
open Go Go.RowKit Go.Kt
set_option maxRecDepth 100000 in
set_option maxHeartbeats 2000000 in
theorem cunit {gp:Nat} {S:RdS} {md:MdT} (s:ByteArray) (a:Int) (w:World) (hP:PrW gp S md w) (hT:Lib.Utf8Tabs 3 4 w) (hs:s.size≤4611686018427387904) :
 Calls Tryz.prog 20 #[.pointer (some ⟨gp,0,none⟩),.string s,.int .i64 a] w fun e w'=>e = .returned (cuV (untP S s a))∧Below w.heap.size w w':=by
 have HU:Hid (untP S s a=if (decP s a).1=65533∧(decP s a).2=1 then ⟨65533,true,false,false,0⟩
  else ⟨(decP s a).1,decide ((decP s a).1=10)||decide ((decP s a).1=13)||decide (kndV S (decP s a).1=5),decide (kndV S (decP s a).1=3)||decide (kndV S (decP s a).1=6)||decide (0<clsV S (decP s a).1),decide (kndV S (decP s a).1=6),hanK (decP s a).1⟩):=Lib.hid rfl
 rw[HU.out]
 obtain⟨w0,hw0⟩:∃W,w.alloc cuZ=W:=⟨_,rfl⟩
 have hb0:Below w.heap.size w w0:=by rw[←hw0];exact (Below.refl _ w).alloc (Nat.le_refl _) _
 have hg0:w0.heap[w.heap.size]? = some (.cells #[.int .i32 0,.bool false,.bool false,.bool false,.int .i64 0] 52 (0,0)):=by rw[←hw0];exact World.alloc_heap_new _ _
 have CD:=Lib.hid (utfDecode_any s a w0 (tabs_below hT (tabs_size hT) hb0) hs)
 have CK:=Lib.hid (fun W (h:Below w.heap.size w W) r=>pkndP W (hP.below h) r)
 have CC:=Lib.hid (fun W (h:Below w.heap.size w W) r=>pclsP W (hP.below h) r)
 have HW0:=Lib.hid hw0
 have H0:=Lib.hid (And.intro hb0 hg0)
 obtain⟨r,hr⟩:∃r,(decP s a).1=r:=⟨_,rfl⟩
 obtain⟨v,hv⟩:∃r,(decP s a).2=r:=⟨_,rfl⟩
 rw[hr,hv] at CD ⊢
 clear hw0 hb0 hg0 hP hT hs HU hr hv
 by_cases hbad:r=65533∧v=1
 ·rw[if_pos hbad]
  obtain⟨rfl,rfl⟩:=hbad
  go_enter Tryz.func20,Tryz.ntmps20
  go_wp2_with fail
  rw[HW0.out]
  refine CD.out.mono ?_
  rintro e w1 ⟨rfl,hb1⟩
  have hg1:w1.heap[w.heap.size]? = some (.cells #[.int .i32 0,.bool false,.bool false,.bool false,.int .i64 0] 52 (0,0)):=(hb1.block _ (Array.getElem?_eq_some_iff.1 H0.out.2).1).trans H0.out.2
  have H1:Hid (Below w.heap.size w w1∧w1.heap[w.heap.size]? = some (.cells #[.int .i32 0,.bool false,.bool false,.bool false,.int .i64 0] 52 (0,0))):=Lib.hid ⟨H0.out.1.trans (hb1.mono H0.out.1.size),hg1⟩
  clear hb1 hg1
  obtain⟨⟨c0,c1,c2,c3,c4⟩,hf⟩:=cu_cells H1.out.2
  have f0:=hf 0
  have f1:=hf 1
  have f2:=hf 2
  have f3:=hf 3
  have f4:=hf 4
  clear hf
  go_wp2_with fail
  (try simp only[Exit.inBlock,Exit.then])
  refine bodyPost_ret (results_cell_row rfl _ _ w.heap.size 52 #[.int .i32 65533,.bool true,.bool false,.bool false,.int .i64 0] (0,0) _ rfl (cuSet_at ⟨65533,true,false,false,0⟩ H1.out.2) Tryz.underlying52 rfl (by kernel_rfl)) rfl ?_
  exact⟨rfl,H1.out.1.trans (cuSet_below (V:=w1) (Nat.le_refl _) ⟨65533,true,false,false,0⟩)⟩
 ·rw[if_neg hbad]
  obtain⟨k,hk⟩:∃k,kndV S r=k:=⟨_,rfl⟩
  obtain⟨c,hcl⟩:∃c,clsV S r=c:=⟨_,rfl⟩
  obtain⟨h,hh⟩:∃h,hanK r=h:=⟨_,rfl⟩
  have CH:=Lib.hid (fun W=>chan r W)
  rw[hh] at CH
  have HH:Hid (CuIn gp s a w w0 r v k c h):=Lib.hid ⟨HW0.out,H0,CD,Lib.hid fun W h=>(by rw[←hk];exact CK.out W h r),Lib.hid fun W h=>(by rw[←hcl];exact CC.out W h r),CH⟩
  rw[hk,hcl,hh]
  clear hk hcl hh
  obtain⟨u,hu⟩:∃u:CU,(⟨r,decide (r=10)||decide (r=13)||decide (k=5),decide (k=3)||decide (k=6)||decide (0<c),decide (k=6),h⟩:CU)=u:=⟨_,rfl⟩
  rw[hu]
  have bf:∀ {x y:Int},¬x=y→(x==y)=false:=fun h=>by rw[beq_eq_false_iff_ne];exact h
  by_cases r10:r=10
  ·subst r10
   by_cases k3:k=3
   ·subst k3
    rw[show u=⟨10,true,true,false,h⟩ by rw[←hu];clear hu;simp[*]]
    exact ua3 HH
   by_cases k6:k=6
   ·subst k6
    rw[show u=⟨10,true,true,true,h⟩ by rw[←hu];clear hu;simp[*]]
    exact ua6 HH
   by_cases hc:0<c
   ·rw[show u=⟨10,true,true,false,h⟩ by rw[←hu];clear hu;simp[*]]
    exact uac HH (bf k3) (bf k6) hc
   ·rw[show u=⟨10,true,false,false,h⟩ by rw[←hu];clear hu;simp[*]]
    exact uan HH (bf k3) (bf k6) hc
  by_cases r13:r=13
  ·subst r13
   by_cases k3:k=3
   ·subst k3
    rw[show u=⟨13,true,true,false,h⟩ by rw[←hu];clear hu;simp[*]]
    exact ub3 HH
   by_cases k6:k=6
   ·subst k6
    rw[show u=⟨13,true,true,true,h⟩ by rw[←hu];clear hu;simp[*]]
    exact ub6 HH
   by_cases hc:0<c
   ·rw[show u=⟨13,true,true,false,h⟩ by rw[←hu];clear hu;simp[*]]
    exact ubc HH (bf k3) (bf k6) hc
   ·rw[show u=⟨13,true,false,false,h⟩ by rw[←hu];clear hu;simp[*]]
    exact ubn HH (bf k3) (bf k6) hc
  have r10':=bf r10
  have r13':=bf r13
  by_cases h1:r=65533
  ·subst h1
   have hg2:(v==1)=false:=bf fun e=>hbad ⟨rfl,e⟩
   by_cases k3:k=3
   ·subst k3
    rw[show u=⟨65533,false,true,false,h⟩ by rw[←hu];clear hu;simp[*]]
    exact uf3 HH hg2
   by_cases k6:k=6
   ·subst k6
    rw[show u=⟨65533,false,true,true,h⟩ by rw[←hu];clear hu;simp[*]]
    exact uf6 HH hg2
   by_cases k5:k=5
   ·subst k5
    by_cases hc:0<c
    ·rw[show u=⟨65533,true,true,false,h⟩ by rw[←hu];clear hu;simp[*]]
     exact uf5c HH hg2 hc
    ·rw[show u=⟨65533,true,false,false,h⟩ by rw[←hu];clear hu;simp[*]]
     exact uf5n HH hg2 hc
   by_cases hc:0<c
   ·rw[show u=⟨65533,false,true,false,h⟩ by rw[←hu];clear hu;simp[*]]
    exact ufc HH hg2 (bf k3) (bf k6) (bf k5) hc
   ·rw[show u=⟨65533,false,false,false,h⟩ by rw[←hu];clear hu;simp[*]]
    exact ufn HH hg2 (bf k3) (bf k6) (bf k5) hc
  have hg:=bf h1
  by_cases k3:k=3
  ·subst k3
   rw[show u=⟨r,false,true,false,h⟩ by rw[←hu];clear hu;simp[*]]
   exact uo3 HH hg r10' r13'
  by_cases k6:k=6
  ·subst k6
   rw[show u=⟨r,false,true,true,h⟩ by rw[←hu];clear hu;simp[*]]
   exact uo6 HH hg r10' r13'
  by_cases k5:k=5
  ·subst k5
   by_cases hc:0<c
   ·rw[show u=⟨r,true,true,false,h⟩ by rw[←hu];clear hu;simp[*]]
    exact uo5c HH hg r10' r13' hc
   ·rw[show u=⟨r,true,false,false,h⟩ by rw[←hu];clear hu;simp[*]]
    exact uo5n HH hg r10' r13' hc
  by_cases hc:0<c
  ·rw[show u=⟨r,false,true,false,h⟩ by rw[←hu];clear hu;simp[*]]
   exact uoc HH hg r10' r13' (bf k3) (bf k6) (bf k5) hc
  ·rw[show u=⟨r,false,false,false,h⟩ by rw[←hu];clear hu;simp[*]]
   exact uon HH hg r10' r13' (bf k3) (bf k6) (bf k5) hc
end Go.Proofs.YtgpbaeehajkebaaGreatDoor
namespace Go.Proofs.YtgpbaeehajkebaaGreatDoor
open Go Go.RowKit Go.Kt
theorem withP_yes {s:ByteArray} {a:Int} (k:Nat) (h1:1≤k) (h4:k<4) (h:(k:Int)<(decP s (a-k)).2):withP s a=true:=by
 unfold withP
 simp only[Bool.or_eq_true,decide_eq_true_eq]
 rcases (by omega:k=1∨k=2∨k=3) with rfl|rfl|rfl
 ·exact .inl (.inl (by simpa using h))
 ·exact .inl (.inr (by simpa using h))
 ·exact .inr (by simpa using h)
theorem withP_no {s:ByteArray} {a:Int} (h:∀k:Nat,1≤k→k<4→¬(k:Int)<(decP s (a-k)).2):withP s a=false:=by
 have h1:=h 1 (by omega) (by omega)
 have h2:=h 2 (by omega) (by omega)
 have h3:=h 3 (by omega) (by omega)
 unfold withP
 simp only[Bool.or_eq_false_iff,decide_eq_false_iff_not]
 exact⟨⟨by simpa using h1,by simpa using h2⟩,by simpa using h3⟩
theorem cempty (s:ByteArray) (h:s.size=0):s=⟨#[]⟩:=by
 cases s with
 | mk d=>simp at h;exact h
theorem cfull (s:ByteArray) (h:s.size≠0):s.toList.isEmpty=false:=by
 cases e:s.toList with
 | nil =>
   rw[ByteArray.toList_eq] at e
   have h3:([]:List UInt8).length=s.size:=by rw[←e];simp
   rw[List.length_nil] at h3
   omega
 | cons=>rfl
set_option maxRecDepth 100000 in
set_option maxHeartbeats 1000000 in
theorem cwithin (s:ByteArray) (a:Int) (w:World) (hT:Lib.Utf8Tabs 3 4 w) (hs:s.size≤4611686018427387904) (ha:0≤a∧a≤4611686018427387904) :
 Calls Tryz.prog 24 #[.string s,.int .i64 a] w fun e w'=>e = .returned (.bool (withP s a))∧Below w.heap.size w w':=by
 have CD:=Lib.hid (fun W (h:Below w.heap.size w W) b=>utfDecode_any s b W (tabs_below hT (tabs_size hT) h) hs)
 obtain⟨ha0,ha1⟩:=ha
 clear hT hs
 go_enter Tryz.func24,Tryz.ntmps24
 go_wp2
 go_loopw [5] (fun v wr=>∃k:Nat,v = .int .i64 k∧1≤k∧k≤4∧Below w.heap.size w wr∧Hid (∀j:Nat,1≤j→j<k→(decP s (a-j)).2≤(j:Int))) (fun v _=>4-(RowKit.intOf v).toNat)
 case atStart=>exact⟨1,rfl,by omega,by omega,Below.refl _ _,Lib.hid fun j h1 h2=>by omega⟩
 case round =>
  obtain⟨k,rfl,hk1,hk4,hb,HN⟩:=hrel
  have HB:=Lib.hid hb
  by_cases hlt:k<4
  ·have e1:(k:Int)<4:=by omega
   have e2:(1:Int)≤k:=by omega
   have e3:wrap64 (a-k)=a-k:=by unfold wrap64;omega
   have CD1:=Lib.hid (CD.out wr hb (a-k))
   have HY:Hid ((k:Int)<(decP s (a-k)).2→withP s a=true):=Lib.hid (withP_yes k hk1 hlt)
   have HZ:Hid (¬(k:Int)<(decP s (a-k)).2→∀j:Nat,1≤j→j<k+1→(decP s (a-j)).2≤(j:Int)):=Lib.hid fun h j h1 h2=>by
    rcases Nat.lt_or_ge j k with h3|h3
    ·exact HN.out j h1 h3
    ·obtain rfl:j=k:=by omega
     exact Int.not_lt.1 h
   obtain⟨r,hr⟩:∃r,(decP s (a-k)).1=r:=⟨_,rfl⟩
   obtain⟨v,hv⟩:∃r,(decP s (a-k)).2=r:=⟨_,rfl⟩
   rw[hv] at HY HZ
   rw[hr,hv] at CD1
   clear hr hv hb hlt
   by_cases hc:(k:Int)<v
   ·have HW:=Lib.hid (HY.out hc)
    clear HY HZ HN
    go_wp2_with fail
    refine CD1.out.mono ?_
    rintro e w1 ⟨rfl,hb1⟩
    have HB1:=Lib.hid (HB.out.trans (hb1.mono HB.out.size))
    clear hb1
    go_wp2
    go_ret
    exact⟨by rw[HW.out];rfl,HB1.out⟩
   ·have HW:=Lib.hid (HZ.out hc)
    clear HY HZ HN
    go_wp2_with fail
    refine CD1.out.mono ?_
    rintro e w1 ⟨rfl,hb1⟩
    have HB1:=Lib.hid (HB.out.trans (hb1.mono HB.out.size))
    clear hb1
    go_wp2
    go_roundw
    case rel=>exact⟨k+1,by go_num,by omega,by omega,HB1.out,HW⟩
    case measure=>simp[RowKit.intOf];omega
  ·obtain rfl:k=4:=by omega
   have HW:=Lib.hid (withP_no fun j h1 h2=>Int.not_lt.2 (HN.out j h1 h2))
   clear HN hb hlt
   go_wp2
   go_ret
   exact⟨by rw[HW.out];rfl,HB.out⟩
theorem bef_in (s:ByteArray) (a:Int) (h0:0<a) (h1:a≤s.size):0≤(befP s a).2∧(befP s a).2≤5:=by
 unfold befP
 rw[if_pos (by omega)]
 have:∀f k:Nat,k≤5→0≤(befK s a.toNat f k).2∧(befK s a.toNat f k).2≤5:=by
  intro f
  induction f with
  | zero=>intro k _;exact⟨(by decide:(0:Int)≤1),(by decide:(1:Int)≤5)⟩
  | succ f ih =>
    intro k hk
    unfold befK
    split
    ·split
     ·exact⟨by show (0:Int)≤(k:Int);omega,by show (k:Int)≤5;omega⟩
     ·exact ih (k+1) (by omega)
    ·exact⟨by decide,by decide⟩
 exact this 5 1 (by omega)
set_option maxRecDepth 100000 in
set_option maxHeartbeats 1000000 in
theorem cEdge {gp:Nat} {S:RdS} {md:MdT} (s:ByteArray) (a:Int) (w:World) (hP:PrW gp S md w) (hT:Lib.Utf8Tabs 3 4 w) (hs:s.size≤4611686018427387904) :
 Calls Tryz.prog 12 #[.pointer (some ⟨gp,0,none⟩),.string s,.int .i64 a] w fun e w'=>e = .returned (.bool (edgP S s a))∧Below w.heap.size w w':=by
 have HE:Hid (edgP S s a=if s.size=0∨a<0∨s.size<a then false else if a=0∨a=s.size then true else if withP s a then false else edgU (untP S s (a-(befP s a).2)) (untP S s a)):=Lib.hid rfl
 rw[HE.out]
 clear HE
 have CT:=Lib.hid (fun W (h:Below w.heap.size w W)=>tabs_below hT (tabs_size hT) h)
 by_cases hz:s.size=0
 ·rw[if_pos (.inl hz)]
  obtain rfl:=cempty s hz
  clear hz hP hT hs
  go_enter Tryz.func12,Tryz.ntmps12
  go_wp2
  go_ret
  exact⟨rfl,Below.refl _ _⟩
 have hne:=cfull s hz
 by_cases h1:a<0
 ·rw[if_pos (.inr (.inl h1))]
  clear hz hP hT hs
  go_enter Tryz.func12,Tryz.ntmps12
  go_wp2
  go_ret
  exact⟨rfl,Below.refl _ _⟩
 have g1:¬a<0:=h1
 by_cases h2:(s.size:Int)<a
 ·rw[if_pos (.inr (.inr h2))]
  clear hz hP hT hs
  go_enter Tryz.func12,Tryz.ntmps12
  go_wp2
  go_ret
  exact⟨rfl,Below.refl _ _⟩
 rw[if_neg (by omega)]
 by_cases h3:a=0
 ·rw[if_pos (.inl h3)]
  subst h3
  clear hz hP hT hs
  go_enter Tryz.func12,Tryz.ntmps12
  go_wp2
  go_ret
  exact⟨rfl,Below.refl _ _⟩
 have g3:(a==0)=false:=by rw[beq_eq_false_iff_ne];exact h3
 by_cases h4:a=s.size
 ·rw[if_pos (.inr h4)]
  have g4:(a==(s.size:Int))=true:=by rw[beq_iff_eq];exact h4
  clear hz hP hT hs h3 h4
  go_enter Tryz.func12,Tryz.ntmps12
  go_wp2
  go_ret
  exact⟨rfl,Below.refl _ _⟩
 have g4:(a==(s.size:Int))=false:=by rw[beq_eq_false_iff_ne];exact h4
 rw[if_neg (by omega)]
 have CW:=Lib.hid (cwithin s a w hT hs (by omega))
 have CB:=Lib.hid (fun W (h:Below w.heap.size w W)=>utfBefore_any s a W (CT.out W h) hs)
 have CN:=Lib.hid (fun W (h:Below w.heap.size w W) b=>cunit s b W (hP.below h) (CT.out W h) hs)
 have HH:=Lib.hid (fun b=>untP_han S s b)
 have CE:=Lib.hid (fun (u v:CU) W hu hv=>cedge u v W hu hv)
 have hbf:=bef_in s a (by omega) (by omega)
 obtain⟨hb0,hb5⟩:=hbf
 obtain⟨r,hr⟩:∃r,(befP s a).1=r:=⟨_,rfl⟩
 obtain⟨v,hv⟩:∃r,(befP s a).2=r:=⟨_,rfl⟩
 rw[hr,hv] at CB
 rw[hv] at hb0 hb5 ⊢
 have e3:wrap64 (a-v)=a-v:=by unfold wrap64;omega
 clear hr hv hP hT h1 h3 h4 hz
 cases hw:withP s a with
 | true =>
   rw[hw] at CW
   simp only[if_true]
   clear hw CB CN HH CE CT e3
   go_enter Tryz.func12,Tryz.ntmps12
   go_wp2_with fail
   refine CW.out.mono ?_
   rintro e w1 ⟨rfl,hb1⟩
   have HB1:=Lib.hid hb1
   clear hb1
   go_wp2
   go_ret
   exact⟨rfl,HB1.out⟩
 | false =>
   rw[hw] at CW
   simp only[Bool.false_eq_true,if_false]
   clear hw CT
   go_enter Tryz.func12,Tryz.ntmps12
   go_wp2_with fail
   refine CW.out.mono ?_
   rintro e w1 ⟨rfl,hb1⟩
   have HB1:=Lib.hid hb1
   clear hb1
   go_wp2_with fail
   refine (CB.out w1 HB1.out).mono ?_
   rintro e w2 ⟨rfl,hb2⟩
   have HB2:=Lib.hid (HB1.out.trans (hb2.mono HB1.out.size))
   clear hb2
   go_wp2_with fail
   refine (CN.out w2 HB2.out (a-v)).mono ?_
   rintro e w3 ⟨rfl,hb3⟩
   have HB3:=Lib.hid (HB2.out.trans (hb3.mono HB2.out.size))
   clear hb3
   go_wp2_with fail
   refine (CN.out w3 HB3.out a).mono ?_
   rintro e w4 ⟨rfl,hb4⟩
   have HB4:=Lib.hid (HB3.out.trans (hb4.mono HB3.out.size))
   clear hb4
   go_wp2_with fail
   refine (CE.out _ _ w4 (HH.out _) (HH.out _)).mono ?_
   rintro e w5 ⟨rfl,hb5'⟩
   have HB5:=Lib.hid (HB4.out.trans (hb5'.mono HB4.out.size))
   clear hb5'
   go_wp2
   go_ret
   exact⟨rfl,HB5.out⟩
end Go.Proofs.YtgpbaeehajkebaaGreatDoor
namespace Go.Proofs.YtgpbaeehajkebaaGreatDoor
open Go Go.RowKit Go.Kt Go.Shelf
attribute [local go_sem] Oper.semAt_some

def encCP (p:Nat × Nat):Array Value:=#[.int .i64 p.1,.int .i64 p.2]
theorem PrW.heap {g:Nat} {S:RdS} {md:MdT} {w w':World} (h:PrW g S md w) (hs:∀b,b<w.heap.size→w'.heap[b]? = w.heap[b]?) (hz:w.heap.size≤w'.heap.size):PrW g S md w':=by
  have hb:Below w.heap.size w { w' with os:=w.os,tape:=w.tape,output:=w.output }:=⟨rfl,rfl,rfl,hz,hs⟩
  obtain⟨B,h⟩:=h.below hb
  obtain⟨a1,a2,a3,a4,a5,a6,a7,a8⟩:=h
  exact⟨B,⟨a1,a2,a3,a4,a5,a6,a7,a8⟩⟩
theorem tabs_heap {w w':World} (h:Lib.Utf8Tabs 3 4 w) (hs:∀b,b<w.heap.size→w'.heap[b]? = w.heap[b]?):Lib.Utf8Tabs 3 4 w' :=
  ⟨fun c hc=>(World.cell?_of_block (w:=w) (a:=⟨3,c,none⟩) (hs _ (lt_of_cell (h.1 c hc)))).trans (h.1 c hc),
   fun i hi=>⟨(World.cell?_of_block (w:=w) (a:=⟨4,_,none⟩) (hs _ (lt_of_cell (h.2 i hi).1))).trans (h.2 i hi).1,(World.cell?_of_block (w:=w) (a:=⟨4,_,none⟩) (hs _ (lt_of_cell (h.2 i hi).2))).trans (h.2 i hi).2⟩⟩

theorem cAll_call (gp:Nat) (s:ByteArray) (w:World) :
    Calls Tryz.prog 7 #[.pointer (some ⟨gp,0,none⟩),.string s] w fun e w'=>e = .returned (.func (.func 18) #[] #[.pointer (some ⟨w.heap.size+1,0,none⟩),.pointer (some ⟨w.heap.size,0,none⟩)])∧(w.alloc (.cells #[.pointer (some ⟨gp,0,none⟩)] 22)).alloc (.cells #[.string s] 9)=w':=by
  go_enter Tryz.func7,Tryz.ntmps7
  go_wp2
  go_ret
  exact⟨by simp,rfl⟩
abbrev cuA (u:CU):Array Value:=#[.int .i32 u.num,.bool u.apart,.bool u.hangs,.bool u.holds,.int .i64 u.han]

theorem wpListIn_store_eq {P:Program} {F:Fence} {n:Nat} {ops:Array Oper} {rest:List Oper} {o:Oper} {a:Act} {Q:Exit→Act→World→Prop} {w w':World} {p v:Value} (hgd:o.guard=none) {ty:TypeId} {x y:Operand}
    (ho:o.op = .store ty x y) (hd:o.dst=none) (hx:a.eval x=p) (hy:a.eval y=v) (hrun:(Instr.storeAt ty p v).run P w = .ok () w') (h:wpListIn F n P ops Q rest a w'):wpListIn F n P ops Q (o::rest) a w:=by
  refine wpListIn_plain hgd fun K hK=>?_
  unfold Oper.wpIn
  refine⟨?_,?_⟩
  · simp[Oper.about,ho]
  · rw[Oper.semAt_plain F _ _ (by rw[ho];intro c hc';cases hc')]
    rw[exec_store ho hx hy hrun]
    simp only[Oper.uponIn,hd]
    exact hK _ _ h
theorem cu_cellsA {V:World} {n:Nat} {u:CU} (h:V.heap[n]? = some (.cells (cuA u) 52 (0,0))) :
    (V.cell? ⟨n,0,none⟩=some (.int .i32 u.num)∧V.cell? ⟨n,1,none⟩=some (.bool u.apart)∧V.cell? ⟨n,2,none⟩=some (.bool u.hangs)∧V.cell? ⟨n,3,none⟩=some (.bool u.holds)∧V.cell? ⟨n,4,none⟩=some (.int .i64 u.han))∧∀i,V.frozen? ⟨n,i,none⟩=false :=
  ⟨⟨by rw[Lib.cell_of_heap h];rfl,by rw[Lib.cell_of_heap h];rfl,by rw[Lib.cell_of_heap h];rfl,by rw[Lib.cell_of_heap h];rfl,by rw[Lib.cell_of_heap h];rfl⟩,fun i=>Lib.frozen_of_heap h _⟩
theorem cuSet_atA {V:World} {n:Nat} {u0:CU} (u:CU) (h:V.heap[n]? = some (.cells (cuA u0) 52 (0,0))):(cuSet V n u).heap[n]? = some (.cells (cuA u) 52 (0,0)) :=
  cu_setc (cu_setc (cu_setc (cu_setc (cu_setc h))))
theorem cuSet_keep {X:Nat→Prop} {V:World} {n:Nat} (hn:X n) (u:CU):Keep X V (cuSet V n u) :=
  (((((Keep.refl X V).setCell (p:=⟨n,0,none⟩) hn _).setCell (p:=⟨n,1,none⟩) hn _).setCell (p:=⟨n,2,none⟩) hn _).setCell (p:=⟨n,3,none⟩) hn _).setCell (p:=⟨n,4,none⟩) hn _
set_option maxRecDepth 100000 in
theorem cu_storeA (u u0:CU) {V:World} {n:Nat} (h:V.heap[n]? = some (.cells (cuA u0) 52 (0,0))) :
    (Instr.storeAt 52 (.pointer (some ⟨n,0,none⟩)) (cuV u)).run Tryz.prog V = .ok () (cuSet V n u):=by
  have h1:=cu_setc (i:=0) (u:=.int .i32 u.num) h
  have h2:=cu_setc (i:=1) (u:=.bool u.apart) h1
  have h3:=cu_setc (i:=2) (u:=.bool u.hangs) h2
  have h4:=cu_setc (i:=3) (u:=.bool u.holds) h3
  have q0:V.cell? ⟨n,0,none⟩=some (.int .i32 u0.num):=by rw[Lib.cell_of_heap h];rfl
  have q1:(V.setCell ⟨n,0,none⟩ (.int .i32 u.num)).cell? ⟨n,1,none⟩=some (.bool u0.apart):=by rw[Lib.cell_of_heap h1];rfl
  have q2:((V.setCell ⟨n,0,none⟩ (.int .i32 u.num)).setCell ⟨n,1,none⟩ (.bool u.apart)).cell? ⟨n,2,none⟩=some (.bool u0.hangs):=by rw[Lib.cell_of_heap h2];rfl
  have q3:(((V.setCell ⟨n,0,none⟩ (.int .i32 u.num)).setCell ⟨n,1,none⟩ (.bool u.apart)).setCell ⟨n,2,none⟩ (.bool u.hangs)).cell? ⟨n,3,none⟩=some (.bool u0.holds):=by rw[Lib.cell_of_heap h3];rfl
  have q4:((((V.setCell ⟨n,0,none⟩ (.int .i32 u.num)).setCell ⟨n,1,none⟩ (.bool u.apart)).setCell ⟨n,2,none⟩ (.bool u.hangs)).setCell ⟨n,3,none⟩ (.bool u.holds)).cell? ⟨n,4,none⟩=some (.int .i64 u0.han):=by rw[Lib.cell_of_heap h4];rfl
  have f0:V.frozen? ⟨n,0,none⟩=false:=Lib.frozen_of_heap h _
  have f1:=Lib.frozen_of_heap h1 1
  have f2:=Lib.frozen_of_heap h2 2
  have f3:=Lib.frozen_of_heap h3 3
  have f4:=Lib.frozen_of_heap h4 4
  unfold cuSet cuV
  obtain⟨a,b,c,d,e⟩:=u
  simp only at *
  clear h h1 h2 h3 h4
  go_simp

def ceI (S:RdS) (s:ByteArray) (n:Nat) (J:List (Nat × Nat)→(Nat→Prop)→World→Prop) (pre:List (Nat × Nat)) (Y:Nat→Prop) (V:World):Prop :=
  J (celF S s pre).1 Y V∧V.heap[n+1]? = some (.cells #[.int .i64 ((celF S s pre).2.1:Nat)] 3 (0,0))∧V.heap[n+2]? = some (.cells (cuA (celF S s pre).2.2) 52 (0,0))
def ceX (S:RdS) (s:ByteArray) (Jx:List (Nat × Nat)→(Nat→Prop)→World→Prop) (c:Code) (pre:List (Nat × Nat)) (Y:Nat→Prop) (V:World):Prop:=c = .ret∧Jx (celF S s pre).1 Y V

set_option maxRecDepth 100000 in
set_option maxHeartbeats 2000000 in
theorem call_iter {gp:Nat} {S:RdS} {md:MdT} (s:ByteArray) (bp bs:Nat) (wp w0:World) (hc:w0.cell? ⟨bs,0,none⟩=some (.string s)) (hq:w0.cell? ⟨bp,0,none⟩=some (.pointer (some ⟨gp,0,none⟩))) (hP:PrW gp S md wp) (h9:∀b,b<wp.heap.size→w0.heap[b]? = wp.heap[b]?) (hz9:wp.heap.size≤w0.heap.size)
    (hT:Lib.Utf8Tabs 3 4 wp) (hs:s.size≤4611686018427387904) :
    Iter2 Tryz.prog 18 #[.pointer (some ⟨bs,0,none⟩),.pointer (some ⟨bp,0,none⟩)] encCP (celL S s) (fun b=>b<wp.heap.size∨b=bs∨b=bp) w0:=by
  intro l X J Jx W hNd hX hsame hsz hJ hJx hSl hY h0
  have hbs:bs<w0.heap.size:=lt_of_cell hc
  have hbp:bp<w0.heap.size:=lt_of_cell hq
  have SM:Hid (∀V:World,Keep X W V→(∀b,b<wp.heap.size→V.heap[b]? = wp.heap[b]?)∧wp.heap.size≤V.heap.size):=Lib.hid fun V hk =>
    ⟨fun b hb=>((hk.same b (by omega) (hNd b (.inl hb))).trans (hsame b (.inl hb))).trans (h9 b hb),Nat.le_trans (Nat.le_trans hz9 hsz) hk.size⟩
  have CN:=Lib.hid (fun V (hk:Keep X W V) a=>cunit s a V (hP.heap (SM.out V hk).1 (SM.out V hk).2) (tabs_heap hT (SM.out V hk).1) hs)
  have KS:Hid (∀V:World,Keep X W V→V.cell? ⟨bs,0,none⟩=some (.string s)∧V.cell? ⟨bp,0,none⟩=some (.pointer (some ⟨gp,0,none⟩))):=Lib.hid fun V hk =>
    ⟨(World.cell?_of_block (w:=w0) (a:=⟨bs,0,none⟩) ((hk.same bs (by omega) (hNd bs (.inr (.inl rfl)))).trans (hsame bs (.inr (.inl rfl))))).trans hc,(World.cell?_of_block (w:=w0) (a:=⟨bp,0,none⟩) ((hk.same bp (by omega) (hNd bp (.inr (.inr rfl)))).trans (hsame bp (.inr (.inr rfl))))).trans hq⟩
  have HK:=Lib.hid (And.intro hX (And.intro hJ (And.intro hJx (And.intro hSl hY))))
  have CE:=Lib.hid (fun (u v:CU) W hu hv=>cedge u v W hu hv)
  have HH:=Lib.hid (fun b=>untP_han S s b)
  have HZ:=Lib.hid (fun k=>celF_han S s k)
  have HP:=Lib.hid (fun k h hz=>celL_pre S s k h hz)
  have HC0:=Lib.hid h0
  clear hNd hsame hc hq hP hT hJ hJx hSl hY h0 h9
  have hfn:∀k,Fence.wide.fn k:=fun _=>trivial
  have hdep:Fence.wide.depth=none:=rfl
  obtain⟨n,hn⟩:∃n,W.heap.size=n:=⟨_,rfl⟩
  refine (callsIn_wide (n:=0)).1 ?_
  refine callsIn_of_wp_marks Tryz.func18 rfl trivial ?_ rfl
  simp only[Tryz.ntmps18,List.size_toArray,List.length_cons,List.length_nil,Nat.reduceAdd,Nat.reduceSub,Array.replicate_succ,Array.replicate_zero,List.push_toArray,List.append_toArray,List.nil_append,List.cons_append]
  obtain⟨V1,hV1⟩:∃V1,((W.alloc (.cells #[.func (.yield l) #[] #[]] 50)).alloc (.cells #[.int .i64 0] 3)).alloc cuZ=V1:=⟨_,rfl⟩
  have hzV:V1.heap.size=n+3:=by rw[←hV1];simp[hn]
  have b0:V1.heap[n]? = some (.cells #[.func (.yield l) #[] #[]] 50 (0,0)):=by rw[←hV1];exact alloc_old (alloc_old (alloc_at hn.symm))
  have b1:V1.heap[n+1]? = some (.cells #[.int .i64 0] 3 (0,0)):=by rw[←hV1];exact alloc_old (alloc_at (by simp[hn]))
  have b2:V1.heap[n+2]? = some (.cells (cuA ⟨0,false,false,false,0⟩) 52 (0,0)):=by rw[←hV1];exact alloc_at (by simp[hn])
  have hkN:Keep (fun _=>False) W V1:=by rw[←hV1];exact (((Keep.refl _ W).alloc _).alloc _).alloc _
  have hkV:Keep X W V1:=hkN.weaken fun _ _ h=>h.elim
  have c0:(((W.alloc (.cells #[.func (.yield l) #[] #[]] 50)).alloc (.cells #[.int .i64 0] 3)).alloc cuZ).cell? ⟨bs,0,none⟩=some (.string s):=by rw[hV1];exact (KS.out V1 hkV).1
  have HV1:=Lib.hid hV1
  clear hV1
  gi_wp2_with fail
  rw[HV1.out]
  refine (callsIn_wide.2 (utfAll_call s _)).mono ?_
  rintro e w6 ⟨rfl,hw6⟩
  gi_wp2_with fail
  have hk6:Keep (fun _=>False) V1 w6:=by rw[←hw6];exact (Keep.refl _ _).alloc _
  have hz6:w6.heap.size=n+4:=by rw[←hw6];simp[hzV]
  have b6:w6.heap[n+3]? = some (.cells #[.string s] 9 (0,0)):=by rw[←hw6];exact alloc_at hzV.symm
  have v0:=hk6.heap b0 (fun h=>h)
  have v1:=hk6.heap b1 (fun h=>h)
  have v2:=hk6.heap b2 (fun h=>h)
  have hkW:Keep X W w6:=hkV.trans (hk6.weaken fun _ _ h=>h.elim)
  have hJ6:J [] (fun _=>False) w6:=HK.out.2.1 _ _ _ _ ((hkN.trans hk6).weaken fun _ _ h=>h.elim) HC0.out
  have hXn:∀b,n≤b→¬X b:=fun b hb h=>by have:=HK.out.1 b h;omega
  clear hw6 hk6 hkV hkN b0 b1 b2 c0 HC0
  refine loop_out (gf:=43) (lb:=#[.pointer (some ⟨n+3,0,none⟩)]) (encs:=enc2) rfl (enters_of Tryz.func43 (by kernel_rfl) rfl)
    (all_iter s (n+3) w6 (cell_one b6) hs) (fun _=>rfl) (X:=fun b=>X b∨b=n+1∨b=n+2)
    (fun b hb=>by rcases hb with h|h|h;have:=HK.out.1 b h;omega;omega;omega) (fun b hb=>by subst hb;exact⟨by rintro (h|h|h);exact hXn _ (by omega) h;omega;omega,by omega⟩) (fun _ _=>rfl) (Nat.le_refl _)
    (ceI S s n J) (ceX S s Jx)
    (fun pre Y V V' hk h=>⟨HK.out.2.1 _ _ _ _ (hk.weaken fun b _ h=>⟨by omega,h.2⟩) h.1,hk.heap h.2.1 (fun hx=>by have:=hx.1;omega),hk.heap h.2.2 (fun hx=>by have:=hx.1;omega)⟩)
    (fun c pre Y V V' hk h=>⟨h.1,HK.out.2.2.1 _ _ _ _ (hk.weaken fun b _ h=>⟨by omega,h.2⟩) h.2⟩) ⟨hJ6,v1,v2⟩ ?round ?done ?stop
  case round =>
    rintro l' hl' pre ⟨at',r⟩ Y V hpre hi hk hY hlt hr
    gi_wp2
    refine⟨Keep.refl _ _,?_⟩
    rintro V2 _ hk2 ⟨hJ2,hp1,hp2⟩ hr2
    have hkX:Keep X W V2:=Keep.plus hkW hk2 (fun b hb h=>by rcases h with h|h|h;exact h;omega;omega)
    have hn2:n+4≤V2.heap.size:=by have:=hk2.size;omega
    have hv0:=hk2.heap v0 (by rintro (h|h|h);exact hXn _ (by omega) h;omega;omega)
    have hmem:(at',r)∈units s:=by obtain⟨q,hq⟩:=hpre;rw[←hq];simp
    have hat:=(units_dec s s.size 0 (at',r) hmem).2
    simp only at hat
    have hpx:=HP.out _ hpre (by omega)
    have hst:celF S s (pre++[(at',r)])=celStep S s (celF S s pre) (at',r):=celF_snoc S s pre (at',r)
    have hh:=HZ.out pre
    obtain⟨Z,hZ⟩:∃Z,Z=fun b=>Y b∧b<V2.heap.size:=⟨_,rfl⟩
    have hZ1:∀b,Z b→n+4≤b∧b<V2.heap.size∧Y b:=fun b hb=>by rw[hZ] at hb;have:=(hY b hb.1).1;exact⟨by omega,hb.2,hb.1⟩
    have hJZ:J (celF S s pre).1 Z V2:=by rw[hZ];exact HK.out.2.2.2.1 _ _ _ hJ2
    obtain⟨⟨out,fr,ah⟩,hF⟩:∃z,celF S s pre=z:=⟨_,rfl⟩
    rw[hst,hF] at hpx
    rw[hF] at hJZ hp1 hp2 hst hh
    simp only at hJZ hp1 hp2 hh
    obtain⟨uh,hu⟩:∃u,untP S s at'=u:=⟨_,rfl⟩
    have hhu:=HH.out (at':Int)
    have CU1:=CN.out V2 hkX (at':Int)
    unfold celStep at hst hpx
    simp only at hst hpx
    rw[hu] at hhu CU1 hst hpx
    have HCU1:=Lib.hid CU1
    obtain⟨q1,q2⟩:=KS.out V2 hkX
    have HS:=Lib.hid hst
    have HPX:=Lib.hid hpx
    have HY:=Lib.hid hY
    have HI:=Lib.hid (And.intro hkX (And.intro hn2 (And.intro hv0 (And.intro hp1 (And.intro hp2 (And.intro hJZ hZ1))))))
    clear hst hpx hY hkX hn2 hv0 hp1 hp2 hJZ hZ1 hZ hF hJ2 hk2 hr2 hr hi hk hmem hpre CU1 hu v0 v1 v2 b6 hJ6 hkW
    gi_wp2_with fail
    refine (CallsIn.inRound l' (callsIn_wide.2 HCU1.out)).mono ?_
    rintro e V3 ⟨rfl,hb3⟩
    obtain⟨kX,n2,i0,i1,i2,jZ,z1⟩:=HI.out
    obtain⟨m,hm⟩:∃m,V3.heap.size=m:=⟨_,rfl⟩
    have hz3:=hb3.size
    obtain⟨V5,hV5⟩:∃V,cuSet (V3.alloc cuZ) m uh=V:=⟨_,rfl⟩
    have ha4:(V3.alloc cuZ).heap[m]? = some (.cells (cuA ⟨0,false,false,false,0⟩) 52 (0,0)):=alloc_at hm.symm
    have hb5:Below m V3 V5:=by rw[←hV5];exact ((Below.refl m V3).alloc (by omega) _).trans (cuSet_below (Nat.le_refl _) _)
    have hb25:Below V2.heap.size V2 V5:=hb3.trans (hb5.mono (by omega))
    have a5:V5.heap[m]? = some (.cells (cuA uh) 52 (0,0)):=by rw[←hV5];exact cuSet_atA uh ha4
    have ST:Hid ((Instr.storeAt 52 (.pointer (some ⟨V3.heap.size,0,none⟩)) (cuV uh)).run Tryz.prog (V3.alloc cuZ) = .ok () V5):=Lib.hid (by rw[hm,←hV5];exact cu_storeA uh _ ha4)
    have e0:=(hb25.block n (by omega)).trans i0
    have e1:=(hb25.block (n+1) (by omega)).trans i1
    have e2:=(hb25.block (n+2) (by omega)).trans i2
    have k5:Keep X W V5:=kX.trans (.of_all hb25)
    have j5:J out Z V5:=HK.out.2.1 _ _ _ _ (.of_all hb25) jZ
    obtain⟨⟨x0,x1,x2,x3,x4⟩,_⟩:=cu_cellsA e2
    obtain⟨⟨y0,y1,y2,y3,y4⟩,_⟩:=cu_cellsA a5
    have CE1:=Lib.hid (CE.out ah uh V5 hh hhu)
    have H5:=Lib.hid (And.intro hb25 (And.intro e0 (And.intro e1 (And.intro e2 (And.intro k5 (And.intro j5 (And.intro a5 (And.intro n2 z1))))))))
    have hz5:V2.heap.size≤m∧m<V5.heap.size:=⟨by omega,(Array.getElem?_eq_some_iff.1 a5).1⟩
    have HZ5:=Lib.hid hz5
    have FB:Hid (∀V,Below V5.heap.size V5 V→celF S s (pre++[(at',r)])=(out,fr,uh)→Kt.Left (fun b=>X b∨b=n+1∨b=n+2) Y (ceI S s n J) (pre++[(at',r)]) V2 (cuSet V (n+2) uh)):=Lib.hid fun V hb hF=>by
      have hs5:=hb25.size
      have hs6:=hb.size
      refine⟨Z,(Keep.of_all (hb25.trans (hb.mono hs5))).trans (cuSet_keep (n:=n+2) (.inl (.inr (.inr rfl))) uh),fun b hb=>.inl (z1 b hb).2.2,?_⟩
      unfold ceI
      rw[hF]
      exact⟨HK.out.2.1 _ _ _ _ (cuSet_keep (n:=n+2) ⟨by omega,fun h=>by have:=(z1 _ h).1;omega⟩ uh) (HK.out.2.1 _ _ _ _ (.of_all hb) j5),(cuSet_keep (X:=fun b=>b=n+2) (n:=n+2) rfl uh).heap ((hb.block _ (by omega)).trans e1) (by omega),cuSet_atA uh ((hb.block _ (by omega)).trans e2)⟩
    have FA:Hid (∀V6 V7 (Y':Nat→Prop),Below V5.heap.size V5 V6→celF S s (pre++[(at',r)])=(out++[(fr,at')],at',uh)→Keep (fun b=>X b∨Z b) V6 V7→(∀b,Y' b→Z b∨V6.heap.size≤b) →
        (J (out++[(fr,at')]) Y' V7→Kt.Left (fun b=>X b∨b=n+1∨b=n+2) Y (ceI S s n J) (pre++[(at',r)]) V2 (cuSet (V7.setCell ⟨n+1,0,none⟩ (.int .i64 at')) (n+2) uh)) ∧
        (Jx (out++[(fr,at')]) Y' V7→Kt.Left (fun b=>X b∨b=n+1∨b=n+2) Y (ceX S s Jx .ret) (pre++[(at',r)]) V2 V7) ∧
        (V7.heap[n+1]? = some (.cells #[.int .i64 fr] 3 (0,0))∧V7.heap[n+2]? = some (.cells (cuA ah) 52 (0,0))∧V7.heap[m]? = some (.cells (cuA uh) 52 (0,0)))):=Lib.hid fun V6 V7 Y' hb hF hk7 hY'=>by
      have hs5:=hb25.size
      have hs6:=hb.size
      have hm5:m<V5.heap.size:=(Array.getElem?_eq_some_iff.1 a5).1
      have hno:∀b,n≤b→(b<n+4∨V2.heap.size≤b)→¬(X b∨Z b):=fun b h1 h2 h3=>by
        rcases h3 with h3|h3
        · exact hXn b h1 h3
        · have:=z1 b h3;omega
      have g1:=hk7.heap ((hb.block _ (by omega)).trans e1) (hno (n+1) (by omega) (by omega))
      have g2:=hk7.heap ((hb.block _ (by omega)).trans e2) (hno (n+2) (by omega) (by omega))
      have g3:=hk7.heap ((hb.block _ hm5).trans a5) (hno m (by omega) (by omega))
      have hK:Keep (fun b=>(X b∨b=n+1∨b=n+2)∨Y b) V2 V7:=(Keep.of_all (hb25.trans (hb.mono hs5))).trans (hk7.weaken fun b _ h=>by rcases h with h|h;exact .inl (.inl h);exact .inr (z1 b h).2.2)
      have hS:∀b,Y' b→Y b∨V2.heap.size≤b:=fun b h=>by rcases hY' b h with h|h;exact .inl (z1 b h).2.2;exact .inr (by omega)
      have hn1:∀b,b<n+4→¬Y' b:=fun b hb h=>by rcases hY' b h with h|h;have:=(z1 b h).1;omega;omega
      refine⟨fun hJ7=>⟨Y',(hK.setCell (p:=⟨n+1,0,none⟩) (.inl (.inr (.inl rfl))) _).trans (cuSet_keep (n:=n+2) (.inl (.inr (.inr rfl))) uh),hS,?_⟩,fun hJ7=>⟨Y',hK,hS,rfl,by rw[hF];exact hJ7⟩,g1,g2,g3⟩
      unfold ceI
      rw[hF]
      exact⟨HK.out.2.1 _ _ _ _ (((Keep.refl _ V7).setCell (p:=⟨n+1,0,none⟩) ⟨by show W.heap.size≤n+1;omega,hn1 (n+1) (by omega)⟩ _).trans (cuSet_keep (n:=n+2) ⟨by omega,hn1 _ (by omega)⟩ uh)) hJ7,
        (cuSet_keep (X:=fun b=>b=n+2) (n:=n+2) rfl uh).heap (set_at g1) (by omega),cuSet_atA uh (set_old g2 (by omega))⟩
    clear kX n2 i0 i1 i2 jZ z1 hz3 hV5 ha4 hb5 hb25 e0 e1 e2 k5 j5 a5 hz5 hb3 hh hhu
    rw[hm] at ST
    by_cases h0:0<at'
    · have h0':(0:Int)<at':=by omega
      gi_wp2_with (first|(rw[hm];fail)|(refine wpListIn_store_eq (o:=⟨none,_,_,_,_,_⟩) rfl rfl rfl rfl rfl ST.out ?_;clear ST))
      refine (CallsIn.inRound l' (callsIn_wide.2 CE1.out)).mono ?_
      rintro e V6 ⟨rfl,hb6⟩
      obtain⟨_,f0,f1,f2,k5,j5,am,n2,z1⟩:=H5.out
      obtain⟨hm2,hm5⟩:=HZ5.out
      clear x0 x1 x2 x3 x4 y0 y1 y2 y3 y4
      have hF:=HS.out
      have hpx:=HPX.out
      cases hE:edgU ah uh with
      | true =>
        rw[if_pos ⟨h0,hE⟩] at hF hpx
        have hs5:=hb6.size
        have g0:=cell_one ((hb6.block n (by omega)).trans f0)
        have g1:=cell_one ((hb6.block (n+1) (by omega)).trans f1)
        have k6:Keep X W V6:=k5.trans (.of_all hb6)
        have hk6s:=k6.size
        have hyy:YieldAt Fence.wide 0 Tryz.prog l #[.int .i64 fr,.int .i64 at'] V6 _:=HK.out.2.2.2.2 out (fr,at') Z V6 hpx (HK.out.2.1 _ _ _ _ (.of_all hb6) j5) (by omega) (fun b hb=>by have:=(z1 b hb).1;omega)
        obtain⟨fn,tmps,assign,body,hy,hR⟩:=hyy
        have HR:=Lib.hid hR
        have HFA:=Lib.hid (fun V7 Y'=>FA.out V6 V7 Y' hb6 hF)
        clear f0 f1 f2 k5 j5 am z1 hF hpx k6 hb6 hE hR
        gi_wp2_with fail
        refine RoundIn.mono (F:=Fence.wide.inRound l') HR.out ?_
        rintro e V7 ⟨Y',hk7,hY',hor⟩
        obtain⟨q1,q2,p1,p2,p3⟩:=HFA.out V7 Y' hk7 hY'
        have HQ1:=Lib.hid q1
        have HQ2:=Lib.hid q2
        clear q1 q2 hk7 hY' g0 g1
        rcases hor with ⟨rfl,hJ7⟩|⟨rfl,hJx7⟩
        · have HQ:=Lib.hid (HQ1.out hJ7)
          obtain⟨V8,hV8⟩:∃V,V7.setCell ⟨n+1,0,none⟩ (.int .i64 at')=V:=⟨_,rfl⟩
          have r2:V8.heap[n+2]? = some (.cells (cuA ah) 52 (0,0)):=by rw[←hV8];exact set_old p2 (by omega)
          have r3:V8.heap[m]? = some (.cells (cuA uh) 52 (0,0)):=by rw[←hV8];exact set_old p3 (by omega)
          have ST2:Hid ((Instr.storeAt 52 (.pointer (some ⟨n+2,0,none⟩)) (cuV uh)).run Tryz.prog (V7.setCell ⟨n+1,0,none⟩ (.int .i64 at')) = .ok () (cuSet V8 (n+2) uh)):=Lib.hid (by rw[hV8];exact cu_storeA uh _ r2)
          obtain⟨⟨y0,y1,y2,y3,y4⟩,_⟩:=cu_cellsA r3
          rw[←hV8] at y0 y1 y2 y3 y4
          have HV8:=Lib.hid hV8
          have x1:=cell_one p1
          have x2:=frozen_one p1
          clear r2 r3 p1 p2 p3 hV8 hJ7 HQ1 HQ2
          gi_wp2_with (refine wpListIn_store_eq (o:=⟨none,_,_,_,_,_⟩) rfl rfl rfl rfl rfl ST2.out ?_;clear ST2)
          rw[←HV8.out]
          exact HQ.out
        · have HQ:=Lib.hid (HQ2.out hJx7)
          clear hJx7 HQ1 HQ2 p1 p2 p3
          gi_wp2_with fail
          exact HQ.out
      | false =>
        rw[if_neg (fun h=>by rw[hE] at h;cases h.2)] at hF
        have HQ:=Lib.hid (FB.out V6 hb6 hF)
        have r2:=(hb6.block _ (by omega)).trans f2
        have ST2:=Lib.hid (cu_storeA uh ah (V:=V6) (n:=n+2) r2)
        obtain⟨⟨y0,y1,y2,y3,y4⟩,_⟩:=cu_cellsA ((hb6.block _ hm5).trans am)
        clear f0 f1 f2 k5 j5 am z1 hF hpx hb6 hE r2
        gi_wp2_with (refine wpListIn_store_eq (o:=⟨none,_,_,_,_,_⟩) rfl rfl rfl rfl rfl ST2.out ?_;clear ST2)
        exact HQ.out
    · have h0':¬(0:Int)<at':=by omega
      obtain⟨_,f0,f1,f2,k5,j5,am,n2,z1⟩:=H5.out
      obtain⟨hm2,hm5⟩:=HZ5.out
      have hF:=HS.out
      rw[if_neg (fun h=>h0 h.1)] at hF
      have HQ:=Lib.hid (FB.out V5 (Below.refl _ _) hF)
      have ST2:=Lib.hid (cu_storeA uh ah (V:=V5) (n:=n+2) f2)
      clear f0 f1 f2 k5 j5 am z1 hF x0 x1 x2 x3 x4
      gi_wp2_with (first|(refine wpListIn_store_eq (o:=⟨none,_,_,_,_,_⟩) rfl rfl rfl rfl rfl ST.out ?_;clear ST)|(refine wpListIn_store_eq (o:=⟨none,_,_,_,_,_⟩) rfl rfl rfl rfl rfl ST2.out ?_;clear ST2))
      exact HQ.out
  case done =>
    rintro D Y V hD hDd hI hY hk
    have hkX:Keep X W V:=Keep.plus hkW hk (fun b hb h=>by rcases h with h|h|h;exact h;omega;omega)
    have hv0:=hk.heap v0 (by rintro (h|h|h);exact hXn _ (by omega) h;omega;omega)
    obtain⟨hJ,hp1,hp2⟩:=hI
    obtain⟨q1,q2⟩:=KS.out V hkX
    have hsz:=hk.size
    by_cases hz:s.size=0
    · obtain rfl:=cempty s hz
      have HF:=Lib.hid (And.intro hJ (And.intro hkX hY))
      have HDD:=Lib.hid hDd
      clear hkX hv0 hJ hp1 hp2 hk hY hDd v0 v1 v2 b6 hJ6 hkW
      gi_wp2_with fail
      refine leaves_marks (Ds:=[D]) (by simp) (fun D' h=>by simp at h;subst h;exact HDD.out) (fun V' hk'=>⟨_,results_none rfl _ _ _,?_⟩)
      obtain⟨hJ,hkX,hY⟩:=HF.out
      have hk':Keep (fun b=>b=D) V V':=hk'.weaken fun b _ hb=>by simpa using hb
      exact⟨⟨_,rfl⟩,hkX.plus hk' (fun b hb h=>by have h:b=D:=h;omega),.inl ⟨Y,fun b hb=>by have:=(hY b hb).1;omega,HK.out.2.1 _ _ _ _ (hk'.weaken fun b _ h=>by have h:b=D:=h;subst h;exact⟨by omega,fun hy=>(hY _ hy).2 rfl⟩) hJ⟩⟩
    · have hne:=cfull s hz
      have hpx:(celF S s (units s)).1++[((celF S s (units s)).2.1,s.size)] <+: celL S s:=by unfold celL;rw[if_neg hz];exact List.prefix_refl _
      have hcl:celL S s=(celF S s (units s)).1++[((celF S s (units s)).2.1,s.size)]:=by unfold celL;rw[if_neg hz]
      obtain⟨⟨out,fr,ah⟩,hF⟩:∃z,celF S s (units s)=z:=⟨_,rfl⟩
      rw[hF] at hpx hcl hJ hp1
      simp only at hpx hcl hJ hp1
      have g0:=cell_one hv0
      have g1:=cell_one hp1
      have hyy:YieldAt Fence.wide 0 Tryz.prog l #[.int .i64 fr,.int .i64 s.size] V _:=HK.out.2.2.2.2 out (fr,s.size) Y V hpx hJ (by omega) (fun b hb=>by have:=(hY b hb).1;omega)
      obtain⟨fn,tmps,assign,body,hy,hR⟩:=hyy
      have HR:=Lib.hid hR
      have HF:=Lib.hid (And.intro hkX (And.intro hY (And.intro hcl hpx)))
      have HDD:=Lib.hid hDd
      have hDX:∀b,b=D→¬(X b∨Y b):=fun b h hx=>by
        subst h
        rcases hx with hx|hx
        · exact hXn b (by omega) hx
        · exact (hY b hx).2 rfl
      have HDX:=Lib.hid hDX
      clear hkX hv0 hJ hp1 hp2 hk hY hDd v0 v1 v2 b6 hJ6 hkW hpx hcl hF hR hDX
      gi_wp2_with fail
      refine RoundIn.mono HR.out ?_
      rintro e V7 ⟨Y',hk7,hY',hor⟩
      have HH7:=Lib.hid (And.intro hk7 (And.intro hY' hor))
      obtain⟨v7,hv7⟩:∃v,e = .returned v:=by
        rcases hor with ⟨h,_⟩|⟨h,_⟩
        · exact⟨_,h⟩
        · exact⟨_,h⟩
      subst hv7
      clear hk7 hY' hor g0 g1
      gi_wp2_with fail
      refine leaves_marks (Ds:=[D]) (by simp) (fun D' h=>by simp at h;subst h;exact HH7.out.1.heap HDD.out (HDX.out _ rfl)) (fun V' hk'=>⟨_,results_none rfl _ _ _,?_⟩)
      obtain⟨hkX,hY,hcl,hpx⟩:=HF.out
      obtain⟨hk7,hY',hor⟩:=HH7.out
      have hk':Keep (fun b=>b=D) V7 V':=hk'.weaken fun b _ hb=>by simpa using hb
      have hs7:=hk7.size
      have hDV:D<V.heap.size:=(Array.getElem?_eq_some_iff.1 HDD.out).1
      have hYl:∀b,Y' b→W.heap.size≤b:=fun b hb=>by rcases hY' b hb with h|h;have:=(hY b h).1;omega;omega
      have hYD:∀b,b=D→¬Y' b:=fun b h hb=>by subst h;rcases hY' b hb with h|h;exact (hY _ h).2 rfl;omega
      have hkW7:Keep X W V7:=hkX.plus hk7 (fun b hb h=>by rcases h with h|h;exact h;have:=(hY b h).1;omega)
      refine⟨⟨_,rfl⟩,hkW7.plus hk' (fun b hb h=>by have h:b=D:=h;omega),?_⟩
      rcases hor with ⟨_,hJ7⟩|⟨_,hJ7⟩
      · refine .inl ⟨Y',hYl,?_⟩
        rw[hcl]
        exact HK.out.2.1 _ _ _ _ (hk'.weaken fun b _ h=>⟨by have h:b=D:=h;omega,hYD b h⟩) hJ7
      · exact .inr ⟨_,Y',hpx,hYl,HK.out.2.2.1 _ _ _ _ (hk'.weaken fun b _ h=>⟨by have h:b=D:=h;omega,hYD b h⟩) hJ7⟩
  case stop =>
    rintro D c pre Y V hD hDd hpre ⟨rfl,hJ⟩ hY hk
    have hkX:Keep X W V:=Keep.plus hkW hk (fun b hb h=>by rcases h with h|h|h;exact h;omega;omega)
    have hsz:=hk.size
    have hs0:(celF S s pre).1 <+: celL S s:=by
      by_cases hz:s.size=0
      · have:pre=[]:=by
          obtain⟨q,hq⟩:=hpre
          have hu:=units_len s
          rw[←hq] at hu
          simp at hu
          exact List.length_eq_zero_iff.1 (by omega)
        subst this
        exact List.nil_prefix
      · exact HP.out pre hpre hz
    have HF:=Lib.hid (And.intro hJ (And.intro hkX (And.intro hY hs0)))
    have HDD:=Lib.hid hDd
    clear hkX hJ hk hY hDd v0 v1 v2 b6 hJ6 hkW hs0 hpre
    gi_wp2_with fail
    refine leaves_marks (Ds:=[D]) (by simp) (fun D' h=>by simp at h;subst h;exact HDD.out) (fun V' hk'=>⟨_,results_none rfl _ _ _,?_⟩)
    obtain⟨hJ,hkX,hY,hs0⟩:=HF.out
    have hk':Keep (fun b=>b=D) V V':=hk'.weaken fun b _ hb=>by simpa using hb
    exact⟨⟨_,rfl⟩,hkX.plus hk' (fun b hb h=>by have h:b=D:=h;omega),.inr ⟨_,Y,hs0,fun b hb=>by have:=(hY b hb).1;omega,HK.out.2.2.1 _ _ _ _ (hk'.weaken fun b _ h=>by have h:b=D:=h;subst h;exact⟨by omega,fun hy=>(hY _ hy).2 rfl⟩) hJ⟩⟩
end Go.Proofs.YtgpbaeehajkebaaGreatDoor
