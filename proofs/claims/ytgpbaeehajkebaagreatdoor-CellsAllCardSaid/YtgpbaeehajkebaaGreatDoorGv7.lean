/- Parts of the proof of what the last text says. -/
import Derived.Test.YtgpbaeehajkebaaGreatDoorHb24x
import Derived.Test.YtgpbaeehajkebaaGreatDoorGv1
import Derived.RegionTactic
import Derived.ChangeAlike
import Derived.BigRegion
import Derived.Deep.QuietTactic
import Derived.BigQuiet
import Derived.WalkLawsBesides
import Derived.Test.YtgpbaeehajkebaaGreatDoorGv2
import Derived.Test.YtgpbaeehajkebaaGreatDoorObx
namespace Go.Proofs.YtgpbaeehajkebaaGreatDoor
open Go Go.RowKit Go.Kt Go.Kt.Rg
def PVar (w:World):Prop:=(∃t p,w.cell? ⟨5,0,none⟩=some (.iface t p))∧∃t p,w.cell? ⟨6,0,none⟩=some (.iface t p)
theorem PVar.below {A B:World} (h:PVar A) (hb:Below A.heap.size A B):PVar B:=by
 obtain⟨⟨t,p,h1⟩,t2,p2,h2⟩:=h
 exact⟨⟨t,p,(hb.cell (lt_of_cell h1)).trans h1⟩,t2,p2,(hb.cell (lt_of_cell h2)).trans h2⟩
set_option maxRecDepth 100000 in
set_option maxHeartbeats 2000000 in
theorem pu24_any (s:ByteArray) (w:World) (hs:s.size≤140737488351232) (hV:PVar w) :
 Calls Tryz.prog 148 #[.string s,.int .i64 16,.int .i64 24] w fun e w'=>PuOut 222 (fun _=>True) (puV 16777215 s.data.toList) e∧Below w.heap.size w w':=by
 have CI:=Lib.hid (ipu24_any s w (by omega))
 have HV:=Lib.hid hV
 obtain⟨o,ho⟩:∃o,puV 16777215 s.data.toList=o:=⟨_,rfl⟩
 rw[ho] at CI ⊢
 clear hV ho
 go_enter Tryz.func148,Tryz.ntmps148
 go_wp2_with fail
 refine CI.out.mono ?_
 rintro e w1 ⟨hp,hb⟩
 have HB:=Lib.hid hb
 clear hb
 cases o with
 | some n =>
   obtain rfl:=hp
   have HF:=Lib.hid (PuOut.yes (T:=222) (K:=fun _=>True) (o:=some n) rfl)
   go_wp2
   go_ret2
   exact⟨HF.out,HB.out⟩
 | none =>
   obtain⟨z,k,rfl,hk⟩:=hp
   have HF:=Lib.hid (fun v=>PuOut.no (T:=222) (K:=fun _=>True) (o:=none) z (k:=v) rfl trivial)
   obtain⟨⟨t1,p1,v1⟩,t2,p2,v2⟩:=HV.out.below HB.out
   rcases hk with rfl|rfl
   ·have CT:=Lib.hid (fun fn=>Tryz.strconv_toError_range fn s 16 24 _ w1 (by omega) v2 (.inr ⟨_,_,rfl⟩))
    clear v1 v2
    go_wp2_with fail
    refine (CT.out _).mono ?_
    rintro e w2 ⟨N,rfl,_,_,hb2⟩
    have HB2:=Lib.hid (HB.out.trans (hb2.mono HB.out.size))
    clear hb2
    go_wp2
    go_ret2
    exact⟨HF.out _,HB2.out⟩
   ·have CT:=Lib.hid (fun fn=>Tryz.strconv_toError_syntax fn s 16 24 _ w1 (by omega) v1 (.inr ⟨_,_,rfl⟩))
    clear v1 v2
    go_wp2_with fail
    refine (CT.out _).mono ?_
    rintro e w2 ⟨N,rfl,_,_,hb2⟩
    have HB2:=Lib.hid (HB.out.trans (hb2.mono HB.out.size))
    clear hb2
    go_wp2
    go_ret2
    exact⟨HF.out _,HB2.out⟩
def numP (l:List UInt8):Option Nat:=if 4≤l.length∧l.length≤6 then puV 16777215 l else none
theorem puF_le {mx:Nat}:∀(l:List UInt8) (n m:Nat),n≤mx→puF mx n l=some m→m≤mx
 | [],n,m,hn,h=>by rw[puF] at h;injection h with h;omega
 | c::t,n,m,hn,h=>by
   rw[puF] at h
   cases hd:digV c.toNat with
   | none=>rw[hd] at h;cases h
   | some d =>
     rw[hd] at h
     simp only at h
     split at h
     ·cases h
     ·split at h
      ·cases h
      ·exact puF_le t _ m (by omega) h
theorem numP_le {l:List UInt8} {n:Nat} (h:numP l=some n):n≤16777215:=by
 unfold numP at h
 split at h
 ·unfold puV at h
  split at h
  ·cases h
  ·exact puF_le _ 0 n (by omega) h
 ·cases h
def NumOut (o:Option Nat) (e:Ending):Prop:=match o with
 | some n=>e = .returned (.tuple #[.int .i32 (n:Nat),.bool true])
 | none=>∃z:Int,e = .returned (.tuple #[.int .i32 z,.bool false])
set_option maxRecDepth 100000 in
set_option maxHeartbeats 2000000 in
theorem pnumber (s:ByteArray) (w:World) (hs:s.size≤140737488351232) (hV:PVar w) :
 Calls Tryz.prog 122 #[.string s] w fun e w'=>NumOut (numP s.data.toList) e∧Below w.heap.size w w':=by
 have C:=Lib.hid (pu24_any s w hs hV)
 have hln:s.data.toList.length=s.size:=(Lib.size_eq s).symm
 obtain⟨o,ho⟩:∃o,puV 16777215 s.data.toList=o:=⟨_,rfl⟩
 rw[ho] at C
 by_cases hb:4≤s.size∧s.size≤6
 ·have e:numP s.data.toList=o:=by unfold numP;rw[if_pos (by omega),ho]
  have hn:∀n,o=some n→n≤16777215:=fun n h=>numP_le (e.trans h)
  rw[e]
  obtain⟨b1,b2⟩:=hb
  have b1z:(4:Int)≤(s.size:Int):=by omega
  have b2z:(s.size:Int)≤6:=by omega
  clear hV e ho hln
  go_enter Tryz.func122,Tryz.ntmps122
  go_wp2_with fail
  refine C.out.mono ?_
  rintro e w1 ⟨hp,hb⟩
  have HB:=Lib.hid hb
  clear hb
  cases o with
  | some n =>
    obtain rfl:=hp
    have hn':=hn n rfl
    go_wp2
    go_ret2
    exact⟨rfl,HB.out⟩
  | none =>
    obtain⟨z,k,rfl,hk⟩:=hp
    go_wp2
    go_ret2
    exact⟨⟨_,rfl⟩,HB.out⟩
 ·have e:numP s.data.toList=none:=by unfold numP;rw[if_neg (by omega)]
  rw[e]
  clear hV e ho hln
  by_cases b1:4≤s.size
  ·have b1z:(4:Int)≤(s.size:Int):=by omega
   have b2z:decide ((s.size:Int)≤6)=false:=decide_eq_false (by omega)
   have b3z:(6:Int)<(s.size:Int):=by omega
   go_enter Tryz.func122,Tryz.ntmps122
   go_wp2_with fail
   refine C.out.mono ?_
   rintro e w1 ⟨hp,hb⟩
   have HB:=Lib.hid hb
   clear hb
   cases o with
   | some n =>
     obtain rfl:=hp
     go_wp2
     go_ret2
     exact⟨⟨_,rfl⟩,HB.out⟩
   | none =>
     obtain⟨z,k,rfl,hk⟩:=hp
     go_wp2
     go_ret2
     exact⟨⟨_,rfl⟩,HB.out⟩
  ·have b1z:decide ((4:Int)≤(s.size:Int))=false:=decide_eq_false (by omega)
   have b3z:(s.size:Int)<4:=by omega
   go_enter Tryz.func122,Tryz.ntmps122
   go_wp2_with fail
   refine C.out.mono ?_
   rintro e w1 ⟨hp,hb⟩
   have HB:=Lib.hid hb
   clear hb
   cases o with
   | some n =>
     obtain rfl:=hp
     go_wp2
     go_ret2
     exact⟨⟨_,rfl⟩,HB.out⟩
   | none =>
     obtain⟨z,k,rfl,hk⟩:=hp
     go_wp2
     go_ret2
     exact⟨⟨_,rfl⟩,HB.out⟩
end Go.Proofs.YtgpbaeehajkebaaGreatDoor
namespace Go.Kt.Os
open Go Go.RowKit Go.Kt Go.Sort
theorem ltI_t {x y:Int}:ltInt x y=true↔x<y:=by simp[ltInt]
theorem ltI_f {x y:Int}:ltInt x y=false↔y≤x:=by simp[ltInt]
structure PWay (a b:Nat) (d:Array Int) (a' b':Nat) (dk:Array Int):Prop where
 lo:a≤a'
 mid:a'≤b'
 hi:b'≤b
 all:b≤d.size
 perm:PermIn a b d dk
 under:Sort.Below ltInt a' b' dk
 fin:∀d4,PermIn a' b' dk d4→SortedIn ltInt a' b' d4→SortedIn ltInt a b d4
section
variable {a b a' b' m:Nat} {d dk d5 d6:Array Int}
theorem PWay.size (h:PWay a b d a' b' dk):dk.size=d.size:=h.perm.1
theorem PWay.start (hab:a≤b) (hb:b≤d.size) (h:Sort.Below ltInt a b d):PWay a b d a b d:=⟨Nat.le_refl _,hab,Nat.le_refl _,hb,permIn_refl _ _ _,h,fun _ _ h=>h⟩
theorem PWay.wide (h:PWay a b d a' b' dk) (k:PermIn a' b' dk d5):PermIn a b d d5 :=
 permIn_trans _ _ _ _ _ h.perm (permIn_mono _ _ _ _ _ _ h.lo h.hi (by rw[h.size];exact h.all) k)
theorem PWay.done (h:PWay a b d a' b' dk) (k:PermIn a' b' dk d5) (s:SortedIn ltInt a' b' d5):PermIn a b d d5∧SortedIn ltInt a b d5:=⟨h.wide k,h.fin _ k s⟩
theorem PWay.turn (h:PWay a b d a' b' dk) (k:PermIn a' b' dk d5):PWay a b d a' b' d5 :=
 ⟨h.lo,h.mid,h.hi,h.all,h.wide k,h.under.permA permIn_all (by rw[h.size];have:=h.hi;have:=h.all;omega) k,fun d4 h1 h2=>h.fin d4 (permIn_trans _ _ _ _ _ k h1) h2⟩
theorem pget (h:PermIn a b d d5) {i:Nat} (hi:i<a∨b≤i):d5[i]! = d[i]!:=h.2.1 i hi
theorem PWay.equal (h:PWay a b d a' b' dk) (p:Int) (h0:∀i,a'≤i→i<b'→ltInt dk[i]! p=false) (k:PermIn a' b' dk d5) (hm:a'<m) (hm':m≤b')
 (h1:∀i,a'≤i→i<m→ltInt p d5[i]! = false) (h2:∀i,m≤i→i<b'→ltInt p d5[i]! = true):PWay a b d m b' d5:=by
 have hb':b'≤dk.size:=by rw[h.size];have:=h.hi;have:=h.all;omega
 have hp:=permIn_all dk d5 a' b' (fun x=>p≤x) hb' k (fun i h3 h4=>ltI_f.1 (h0 i h3 h4))
 refine⟨by have:=h.lo;omega,hm',h.hi,h.all,h.wide k,.inr (fun i h3 h4=>?_),fun d4 h3 h4=>?_⟩
 ·have e1:=ltI_t.1 (h2 i h3 h4)
  have e2:=ltI_f.1 (h1 (m-1) (by omega) (by omega))
  exact ltI_f.2 (by omega)
 ·refine h.fin d4 (permIn_trans _ _ _ _ _ k (permIn_mono _ _ _ _ _ _ (by omega) (Nat.le_refl _) (by rw[k.1];exact hb') h3)) (fun i j hi hij hj=>?_)
  have hq:=permIn_all d5 d4 m b' (fun x=>p<x) (by rw[k.1];exact hb') h3 (fun i h5 h6=>ltI_t.1 (h2 i h5 h6))
  rcases Nat.lt_or_ge j m with hjm|hjm
  ·rw[pget h3 (.inl hjm),pget h3 (.inl (by omega))]
   have e1:=ltI_f.1 (h1 i hi (by omega))
   have e2:=hp j (by omega) hj
   exact ltI_f.2 (by omega)
  ·rcases Nat.lt_or_ge i m with him|him
   ·rw[pget h3 (.inl him)]
    have e1:=ltI_f.1 (h1 i hi him)
    have e2:=hq j hjm hj
    exact ltI_f.2 (by omega)
   ·exact h4 i j him hij hj
structure Parted (a' b' m:Nat) (d5:Array Int):Prop where
 le:a'≤m
 lt:m<b'
 less:∀i,a'≤i→i<m→ltInt d5[i]! d5[m]! = true
 more:∀i,m<i→i<b'→ltInt d5[i]! d5[m]! = false
theorem PWay.belowL (h:PWay a b d a' b' d5) (k:Parted a' b' m d5):Sort.Below ltInt a' m d5:=by
 rcases h.under with e|e
 ·exact .inl e
 ·exact .inr fun i h1 h2=>e i h1 (by have:=k.lt;omega)
theorem PWay.belowR (k:Parted a' b' m d5):Sort.Below ltInt (m+1) b' d5:=.inr fun i h1 h2=>k.more i (by omega) h2
theorem PWay.left (h:PWay a b d a' b' d5) (k:Parted a' b' m d5) (h1:PermIn a' m d5 d6) (h2:SortedIn ltInt a' m d6):PWay a b d (m+1) b' d6:=by
 have hs:b'≤d5.size:=by rw[h.size];have:=h.hi;have:=h.all;omega
 have hw:PermIn a' b' d5 d6:=permIn_mono _ _ _ _ _ _ (Nat.le_refl _) (by have:=k.lt;omega) hs h1
 have hl:=permIn_all d5 d6 a' m (fun x=>x<d5[m]!) (by have:=k.lt;omega) h1 (fun i h3 h4=>ltI_t.1 (k.less i h3 h4))
 have hm6:d6[m]! = d5[m]!:=pget h1 (.inr (Nat.le_refl _))
 refine⟨by have:=h.lo;have:=k.le;omega,k.lt,h.hi,h.all,h.wide hw,.inr (fun i h3 h4=>?_),fun d4 h3 h4=>?_⟩
 ·rw[Nat.add_sub_cancel,hm6,pget h1 (.inr (by omega))]
  exact k.more i (by omega) h4
 ·have hmr:=permIn_all d6 d4 (m+1) b' (fun x=>d5[m]!≤x) (by rw[h1.1];exact hs) h3 (fun i h5 h6=>by rw[pget h1 (.inr (by omega))];exact ltI_f.1 (k.more i (by omega) h6))
  refine h.fin d4 (permIn_trans _ _ _ _ _ hw (permIn_mono _ _ _ _ _ _ (by have:=k.le;omega) (Nat.le_refl _) (by rw[h1.1];exact hs) h3)) (fun i j hi hij hj=>?_)
  have eL:∀t,t<m+1→d4[t]! = d6[t]!:=fun t ht=>pget h3 (.inl ht)
  rcases Nat.lt_trichotomy j m with hjm|hjm|hjm
  ·rw[eL j (by omega),eL i (by omega)];exact h2 i j hi hij hjm
  ·subst hjm
   rw[eL j (by omega),eL i (by omega),hm6]
   have:=hl i hi hij
   exact ltI_f.2 (by omega)
  ·have ej:=hmr j (by omega) hj
   rcases Nat.lt_trichotomy i m with him|him|him
   ·rw[eL i (by omega)]
    have:=hl i hi him
    exact ltI_f.2 (by omega)
   ·subst him
    rw[eL i (by omega),hm6]
    exact ltI_f.2 (by omega)
   ·exact h4 i j (by omega) hij hj
theorem PWay.right (h:PWay a b d a' b' d5) (k:Parted a' b' m d5) (h1:PermIn (m+1) b' d5 d6) (h2:SortedIn ltInt (m+1) b' d6):PWay a b d a' m d6:=by
 have hs:b'≤d5.size:=by rw[h.size];have:=h.hi;have:=h.all;omega
 have hw:PermIn a' b' d5 d6:=permIn_mono _ _ _ _ _ _ (by have:=k.le;omega) (Nat.le_refl _) hs h1
 have hr:=permIn_all d5 d6 (m+1) b' (fun x=>d5[m]!≤x) hs h1 (fun i h3 h4=>ltI_f.1 (k.more i (by omega) h4))
 have hm6:d6[m]! = d5[m]!:=pget h1 (.inl (by omega))
 refine⟨h.lo,k.le,by have:=h.hi;have:=k.lt;omega,h.all,h.wide hw,?_,fun d4 h3 h4=>?_⟩
 ·rcases h.belowL k with e|e
  ·exact .inl e
  ·refine .inr fun i h3 h4=>?_
   rw[pget h1 (.inl (by omega)),pget h1 (.inl (by omega))]
   exact e i h3 h4
 ·have hl:=permIn_all d6 d4 a' m (fun x=>x<d5[m]!) (by rw[h1.1];have:=k.lt;omega) h3 (fun i h5 h6=>by rw[pget h1 (.inl (by omega))];exact ltI_t.1 (k.less i h5 h6))
  refine h.fin d4 (permIn_trans _ _ _ _ _ hw (permIn_mono _ _ _ _ _ _ (Nat.le_refl _) (by have:=k.lt;omega) (by rw[h1.1];exact hs) h3)) (fun i j hi hij hj=>?_)
  have eR:∀t,m≤t→d4[t]! = d6[t]!:=fun t ht=>pget h3 (.inr ht)
  rcases Nat.lt_trichotomy j m with hjm|hjm|hjm
  ·exact h4 i j hi hij hjm
  ·subst hjm
   rw[eR j (Nat.le_refl _),hm6]
   have:=hl i hi hij
   exact ltI_f.2 (by omega)
  ·rw[eR j (by omega)]
   have ej:=hr j (by omega) hj
   rcases Nat.lt_trichotomy i m with him|him|him
   ·have:=hl i hi him
    exact ltI_f.2 (by omega)
   ·subst him
    rw[eR i (Nat.le_refl _),hm6]
    exact ltI_f.2 (by omega)
   ·rw[eR i (by omega)]
    exact h2 i j (by omega) hij hj
end
end Go.Kt.Os
namespace Go.Proofs.YtgpbaeehajkebaaGreatDoor
open Go Go.RowKit Go.Kt Go.Kt.Os Go.Sort
structure PV (w:World) (blk off:Nat) (d:Array Int) (sb:Nat):Prop where
 row:Holds E32 w blk off d
 ne:sb≠blk
 cell:∃s:Int,w.cell? ⟨sb,0,none⟩=some (.int .i64 s)
 thaw:w.frozen? ⟨sb,0,none⟩=false
theorem PV.drewN {w:World} {blk off sb:Nat} {d:Array Int} (h:PV w blk off d sb) (q:Nat):PV (w.drewN q) blk off d sb:=⟨h.row,h.ne,h.cell,h.thaw⟩
theorem PV.set {w:World} {blk off sb:Nat} {d:Array Int} (h:PV w blk off d sb) (x:Int):PV (w.setCell ⟨sb,0,none⟩ (.int .i64 x)) blk off d sb:=by
 obtain⟨s,hs⟩:=h.cell
 have hk:Keep (fun b=>b=sb) w (w.setCell ⟨sb,0,none⟩ (.int .i64 x)):=Keep.setCell (X:=fun b=>b=sb) (Keep.refl _ _) (p:=⟨sb,0,none⟩) rfl _
 exact⟨holds_keep h.row hk (fun e=>h.ne e.symm),h.ne,⟨x,World.cell?_setCell_same _ _ _ hs⟩,by rw[World.frozen?_setCell];exact h.thaw⟩
set_option maxRecDepth 100000 in
set_option maxHeartbeats 1000000 in
theorem oOrd2 (blk off cap a b n sb:Nat) (d:Array Int) (w:World) (hn:d.size=n) (hP:PV w blk off d sb) (ha:a<n) (hb:b<n) :
 Calls Tryz.prog 182 #[.slice (some ⟨blk,off,none⟩) n cap,.int .i64 a,.int .i64 b,.pointer (some ⟨sb,0,none⟩)] w fun e w' =>
  ∃x y:Nat,e = .returned (.tuple #[.int .i64 x,.int .i64 y])∧((x=a∧y=b)∨(x=b∧y=a))∧PV w' blk off d sb∧Keep (fun b=>b=sb) w w':=by
 obtain⟨G,hG⟩:∃G:Nat→Int,∀t,G t=d[t]!:=⟨fun t=>d[t]!,fun _=>rfl⟩
 have hcw:=(SW.refl hP.row).cells hG hn
 obtain⟨s,hs⟩:=hP.cell
 have hfz:=hP.thaw
 have HP:=Lib.hid hP
 clear hG hP
 go_enter Tryz.func182,Tryz.ntmps182
 go_wp2
 go_big_quiet (first|(go_at_call 133;refine Calls.quiet_of_same (oLess _ _ _)))
 go_wp2_with fail
 ·have HP2:=Lib.hid (HP.out.drewN nq)
  have HK2:Hid (Keep (fun b=>b=sb) w (w.drewN nq)):=Lib.hid ⟨rfl,rfl,rfl,Nat.le_refl _,fun _ _ _=>rfl⟩
  have hs2:(w.drewN nq).cell? ⟨sb,0,none⟩=some (.int .i64 s):=hs
  have hf2:(w.drewN nq).frozen? ⟨sb,0,none⟩=false:=hfz
  clear hcw hs hfz
  generalize w.drewN nq=w2 at HP2 HK2 hs2 hf2 ⊢
  go_wp2
  go_ret2
  exact⟨b,a,rfl,.inr ⟨rfl,rfl⟩,HP2.out.set _,HK2.out.setCell rfl _⟩
 ·go_wp2
  go_ret2
  exact⟨a,b,rfl,.inl ⟨rfl,rfl⟩,HP.out.drewN nq,⟨rfl,rfl,rfl,Nat.le_refl _,fun _ _ _=>rfl⟩⟩
set_option maxRecDepth 100000 in
set_option maxHeartbeats 1000000 in
theorem oMed (blk off cap a b c n sb:Nat) (d:Array Int) (w:World) (hn:d.size=n) (hP:PV w blk off d sb) (ha:a<n) (hb:b<n) (hc:c<n) :
 Calls Tryz.prog 175 #[.slice (some ⟨blk,off,none⟩) n cap,.int .i64 a,.int .i64 b,.int .i64 c,.pointer (some ⟨sb,0,none⟩)] w fun e w' =>
  ∃x:Nat,e = .returned (.int .i64 x)∧(x=a∨x=b∨x=c)∧PV w' blk off d sb∧Keep (fun b=>b=sb) w w':=by
 have C1:=Lib.hid (oOrd2 blk off cap a b n sb d w hn hP ha hb)
 have HN:=Lib.hid hn
 clear hP hn
 go_enter Tryz.func175,Tryz.ntmps175
 go_wp2_with fail
 refine C1.out.mono ?_
 rintro e w1 ⟨a1,b1,rfl,h1,hP1,hK1⟩
 clear C1
 have C2:=Lib.hid (oOrd2 blk off cap b1 c n sb d w1 HN.out hP1 (by omega) hc)
 have HK1:=Lib.hid hK1
 clear hP1 hK1
 go_wp2_with fail
 refine C2.out.mono ?_
 rintro e w2 ⟨b2,c2,rfl,h2,hP2,hK2⟩
 clear C2
 have C3:=Lib.hid (oOrd2 blk off cap a1 b2 n sb d w2 HN.out hP2 (by omega) (by omega))
 have HK2:=Lib.hid hK2
 clear hP2 hK2
 go_wp2_with fail
 refine C3.out.mono ?_
 rintro e w3 ⟨a3,b3,rfl,h3,hP3,hK3⟩
 clear C3
 have HP3:=Lib.hid hP3
 have HK3:=Lib.hid hK3
 have HX:=Lib.hid (show b3=a∨b3=b∨b3=c by omega)
 clear hP3 hK3 h1 h2 h3
 go_wp2
 go_ret
 exact⟨b3,rfl,HX.out,HP3.out,(HK1.out.trans HK2.out).trans HK3.out⟩
set_option maxRecDepth 100000 in
set_option maxHeartbeats 1000000 in
theorem oAdj (blk off cap a n sb:Nat) (d:Array Int) (w:World) (hn:d.size=n) (hP:PV w blk off d sb) (ha0:1≤a) (ha:a+1<n) (hsz:n<4611686018427387904) :
 Calls Tryz.prog 174 #[.slice (some ⟨blk,off,none⟩) n cap,.int .i64 a,.pointer (some ⟨sb,0,none⟩)] w fun e w' =>
  ∃x:Nat,e = .returned (.int .i64 x)∧(a-1≤x∧x≤a+1)∧PV w' blk off d sb∧Keep (fun b=>b=sb) w w':=by
 have C0:=oMed blk off cap (a-1) a (a+1) n sb d w hn hP (by omega) (by omega) ha
 rw[show ((a-1:Nat):Int)=(a:Int)-1 by omega,show ((a+1:Nat):Int)=(a:Int)+1 by omega] at C0
 have C1:=Lib.hid C0
 clear C0 hP hn
 go_enter Tryz.func174,Tryz.ntmps174
 go_wp2_with fail
 refine C1.out.mono ?_
 rintro e w1 ⟨x,rfl,h1,hP1,hK1⟩
 clear C1
 have HP1:=Lib.hid hP1
 have HK1:=Lib.hid hK1
 have HX:=Lib.hid (show a-1≤x∧x≤a+1 by omega)
 clear hP1 hK1 h1
 go_wp2
 go_ret
 exact⟨x,rfl,HX.out,HP1.out,HK1.out⟩
end Go.Proofs.YtgpbaeehajkebaaGreatDoor
namespace Go.Proofs.YtgpbaeehajkebaaGreatDoor
open Go Go.RowKit Go.Kt Go.Kt.Os Go.Sort
set_option maxRecDepth 100000 in
set_option maxHeartbeats 1000000 in
theorem oPivot (blk off cap a l n:Nat) (d:Array Int) (w:World) (hn:d.size=n) (hH:Holds E32 w blk off d) (hblk:blk<w.heap.size) (hl8:8≤l) (hb:a+l≤n) (hsz:n<4611686018427387904) :
 Calls Tryz.prog 152 #[.slice (some ⟨blk,off,none⟩) n cap,.int .i64 a,.int .i64 ((a:Int)+(l:Int))] w fun e w' =>
  ∃(x:Nat) (h:Int),e = .returned (.tuple #[.int .i64 x,.int .i64 h])∧a≤x∧x<a+l∧SW w blk off d w':=by
 have HS1:=Lib.hid (SW.refl hH)
 have HN:=Lib.hid hn
 clear hH hn
 have EL:=Lib.hid (show (a:Int)+(l:Int)-(a:Int)=(l:Int) by omega)
 obtain⟨q,hq⟩:∃q,q=l/4:=⟨_,rfl⟩
 have hq1:4*q≤l:=by omega
 have hq2:l<4*q+4:=by omega
 have EQ:=Lib.hid (show (l:Int)/4=(q:Int) by omega)
 clear hq
 have hlz:(8:Int)≤(a:Int)+(l:Int)-(a:Int):=by omega
 have HP:Hid (PV (w.alloc (.cells #[.int .i64 0] 3)) blk off d w.heap.size):=Lib.hid ⟨holds_keep HS1.out.holds ((Keep.refl (fun _=>False) w).alloc _) id,by omega,⟨0,by rw[World.cell?_alloc_at _ _ _ _ (by simp)];rfl⟩,World.frozen?_alloc_new _ _ _ _⟩
 have HK:Hid (SW w blk off d (w.alloc (.cells #[.int .i64 0] 3))):=Lib.hid ⟨(Keep.refl _ _).alloc _,HP.out.row⟩
 have FIN:∀W,Keep (fun b=>b=w.heap.size) (w.alloc (.cells #[.int .i64 0] 3)) W→SW w blk off d W:=fun W k=>HK.out.then (k.weaken fun b _ e=>by subst e;exact⟨by omega,Nat.le_refl _⟩)
 have HF:=Lib.hid FIN
 clear FIN HK
 by_cases h50:50≤l
 ·have h50z:(50:Int)≤(a:Int)+(l:Int)-(a:Int):=by omega
  go_enter Tryz.func152,Tryz.ntmps152
  go_wp2_with fail
  rw[EL.out,EQ.out]
  have C0:=oAdj blk off cap (a+q) n w.heap.size d _ HN.out HP.out (by omega) (by omega) hsz
  rw[show ((a+q:Nat):Int)=(a:Int)+(q:Int) by omega] at C0
  have C:=Lib.hid C0
  clear C0
  refine C.out.mono ?_
  rintro e w1 ⟨x1,rfl,hx1,hp1,hk1⟩
  clear C
  have HP1:=Lib.hid hp1
  have HK1:=Lib.hid (hk1)
  clear hp1 hk1
  have C0:=oAdj blk off cap (a+q*2) n w.heap.size d w1 HN.out HP1.out (by omega) (by omega) hsz
  rw[show ((a+q*2:Nat):Int)=(a:Int)+(q:Int)*2 by omega] at C0
  have C:=Lib.hid C0
  clear C0
  go_wp2_with fail
  refine C.out.mono ?_
  rintro e w2 ⟨x2,rfl,hx2,hp2,hk2⟩
  clear C
  have HP2:=Lib.hid hp2
  have HK2:=Lib.hid (HK1.out.trans hk2)
  clear hp2 hk2
  have C0:=oAdj blk off cap (a+q*3) n w.heap.size d w2 HN.out HP2.out (by omega) (by omega) hsz
  rw[show ((a+q*3:Nat):Int)=(a:Int)+(q:Int)*3 by omega] at C0
  have C:=Lib.hid C0
  clear C0
  go_wp2_with fail
  refine C.out.mono ?_
  rintro e w3 ⟨x3,rfl,hx3,hp3,hk3⟩
  clear C
  have HP3:=Lib.hid hp3
  have HK3:=Lib.hid (HK2.out.trans hk3)
  clear hp3 hk3
  have C:=Lib.hid (oMed blk off cap x1 x2 x3 n w.heap.size d w3 HN.out HP3.out (by omega) (by omega) (by omega))
  go_wp2_with fail
  refine C.out.mono ?_
  rintro e w4 ⟨x4,rfl,hx4,hp4,hk4⟩
  clear C
  obtain⟨s,hs⟩:=hp4.cell
  have HB:=Lib.hid (show a≤x4∧x4<a+l by omega)
  have HS:=Lib.hid (HF.out w4 (HK3.out.trans hk4))
  clear hp4 hk4 hx1 hx2 hx3 hx4
  go_wp2
  all_goals go_ret2
  all_goals exact⟨x4,_,rfl,HB.out.1,HB.out.2,HS.out⟩
 ·have h50z:(a:Int)+(l:Int)-(a:Int)<50:=by omega
  go_enter Tryz.func152,Tryz.ntmps152
  go_wp2_with fail
  rw[EL.out,EQ.out]
  have C0:=oMed blk off cap (a+q) (a+q*2) (a+q*3) n w.heap.size d _ HN.out HP.out (by omega) (by omega) (by omega)
  rw[show ((a+q:Nat):Int)=(a:Int)+(q:Int) by omega,show ((a+q*2:Nat):Int)=(a:Int)+(q:Int)*2 by omega,show ((a+q*3:Nat):Int)=(a:Int)+(q:Int)*3 by omega] at C0
  have C:=Lib.hid C0
  clear C0
  refine C.out.mono ?_
  rintro e w4 ⟨x4,rfl,hx4,hp4,hk4⟩
  clear C
  obtain⟨s,hs⟩:=hp4.cell
  have HB:=Lib.hid (show a≤x4∧x4<a+l by omega)
  have HS:=Lib.hid (HF.out w4 hk4)
  clear hp4 hk4 hx4
  go_wp2
  all_goals go_ret2
  all_goals exact⟨x4,_,rfl,HB.out.1,HB.out.2,HS.out⟩
end Go.Proofs.YtgpbaeehajkebaaGreatDoor
