/- Parts of the proof of what the last text says. -/
import Derived.Test.YtgpbaeehajkebaaGreatDoorGv17
import Derived.Test.YtgpbaeehajkebaaGreatDoorGv3
import Derived.Test.YtgpbaeehajkebaaGreatDoorGv16
import Derived.Test.YtgpbaeehajkebaaGreatDoorGv15
import Derived.Test.YtgpbaeehajkebaaGreatDoorGv9
import Derived.Test.YtgpbaeehajkebaaGreatDoorUox
namespace Go.Proofs.YtgpbaeehajkebaaGreatDoor
open Go
def seg (s:ByteArray) (i j:Nat):List UInt8:=(s.extract i j).data.toList
def fixF (s:ByteArray):Nat→Nat→List UInt8
 | 0,_=>[]
 | f+1,i=>if i<s.size then (Utf8.encode (Utf8.decode s i).1).data.toList++fixF s f (i+(Utf8.decode s i).2) else []
def fffd:List UInt8:=[239,191,189]
end Go.Proofs.YtgpbaeehajkebaaGreatDoor
namespace Go.Proofs.YtgpbaeehajkebaaGreatDoor
open Go
def mendR (s by':ByteArray) (whole:Bool):Nat→Nat→List UInt8
 | 0,_=>[]
 | f+1,i=>if i<s.size then (if wideI s i=0 then rep by'.data.toList (if whole then 1 else badK s i)++mendR s by' whole f (i+badK s i) else seg s i (i+(wideI s i).toNat)++mendR s by' whole f (i+(wideI s i).toNat)) else []
def sumK (l:List (Nat × Nat)):Nat:=(l.map (·.2)).sum
end Go.Proofs.YtgpbaeehajkebaaGreatDoor
namespace Go.Proofs.YtgpbaeehajkebaaGreatDoor
open Go
def bt (l:List UInt8) (i:Nat):Nat:=(l.getD i 0).toNat
def Chr (c:List UInt8):Prop:=1≤c.length∧c.length≤4∧CharAt c.length (bt c 0) (bt c 1) (bt c 2) (bt c 3)
inductive Vd:List UInt8→Prop
 | nil:Vd []
 | cons (c l:List UInt8):Chr c→Vd l→Vd (c++l)
end Go.Proofs.YtgpbaeehajkebaaGreatDoor
namespace Go.Proofs.YtgpbaeehajkebaaGreatDoor
open Go
theorem no_unit_within (s:ByteArray) (p v i:Nat) (hp:p<s.size) (hv1:1≤v) (hv4:v≤4) (hw:wideI s p=v) (h1:p<i) (h2:i<p+v):∀f j,j≤p→i∉placesF s f j
 | 0,_,_=>by simp[placesF,unitsF]
 | f+1,j,hj=>by
   intro hm
   have hj':j<s.size:=by omega
   obtain⟨d1,d2,d3⟩:=dec_width s j hj'
   rw[placesF_in s f j hj'] at hm
   rcases List.mem_cons.1 hm with h|h
   ·omega
   ·rcases Nat.lt_or_ge p (j+(Utf8.decode s j).2) with hlt|hge
    ·rcases Nat.eq_or_lt_of_le hj with e|hjp
     ·subst e
      rcases decode_wide s j hj' with ⟨h3,_⟩|⟨u,_,_,_,h6,h7⟩
      ·omega
      ·have:=placesF_ge s f _ _ h;omega
     ·have hc:=in_char s j (p-j) hj' (by omega) (by omega)
      rw[Nat.add_sub_cancel' hj] at hc
      have:=wide_cont s p hc.1 hc.2
      omega
    ·exact no_unit_within s p v i hp hv1 hv4 hw h1 h2 f _ hge h
theorem units_dec (s:ByteArray):∀f i p,p∈unitsF s f i→p.2=(Utf8.decode s p.1).1∧p.1<s.size
 | 0,_,p,h=>by simp[unitsF] at h
 | f+1,i,p,h=>by
   rw[unitsF] at h
   split at h
   ·rcases List.mem_cons.1 h with h|h
    ·subst h;exact⟨rfl,by assumption⟩
    ·exact units_dec s f _ p h
   ·simp at h
theorem before_unit (s:ByteArray) (i:Nat) (hi:i<s.size) (hm:i∈placesF s s.size 0):befP s ((i:Int)+(Utf8.decode s i).2)=(((Utf8.decode s i).1:Int),((Utf8.decode s i).2:Int)):=by
 obtain⟨d1,d2,d3⟩:=dec_width s i hi
 rw[show ((i:Int)+(Utf8.decode s i).2)=((i+(Utf8.decode s i).2:Nat):Int) by omega,befP_in s _ (by omega) d3]
 rcases decode_wide s i hi with ⟨h3,h4⟩|⟨u,u1,u4,u5,h6,h7⟩
 ·rw[h4]
  refine befK_none (fun v hv=>?_) 5 1 (by omega)
  obtain⟨v1,v4,vn,hw⟩:=hv
  rcases Nat.eq_or_lt_of_le v1 with e|e
  ·subst e
   rw[show i+1-1=i by omega] at hw
   omega
  ·exact no_unit_within s (i+1-v) v i (by omega) v1 v4 hw (by omega) (by omega) s.size 0 (Nat.zero_le _) hm
 ·rw[h7]
  have he:Ends s (i+u) u:=⟨u1,u4,by omega,by rw[Nat.add_sub_cancel];exact h6⟩
  have:=befK_ends (by omega) he 5 1 (by omega) u1 (by omega)
  rw[Nat.add_sub_cancel] at this
  exact this
def fixR (x:Int):Int:=if Utf8.valid x then x else 65533
end Go.Proofs.YtgpbaeehajkebaaGreatDoor
namespace Go.Proofs.YtgpbaeehajkebaaGreatDoor
open Go Go.RowKit Go.Kt Go.Kt.Bits
def PL (s:ByteArray):List Nat:=placesF s s.size 0
theorem PL_units (s:ByteArray):PL s=(units s).map (·.1):=rfl
theorem PL_len (s:ByteArray):(PL s).length=(units s).length:=by simp[PL_units]
theorem placesF_rise (s:ByteArray):∀f i,(placesF s f i).Pairwise (· < ·)
 | 0,i=>by simp[placesF,unitsF]
 | f+1,i=>by
   by_cases h:i<s.size
   ·rw[placesF_in s f i h]
    obtain⟨d1,_,_⟩:=dec_width s i h
    refine List.pairwise_cons.2 ⟨fun x hx=>?_,placesF_rise s f _⟩
    have:=placesF_ge s f _ x hx
    omega
   ·rw[placesF_end s (f+1) i (by omega)];exact List.Pairwise.nil
theorem PL_rise (s:ByteArray):(PL s).Pairwise (· < ·):=placesF_rise s _ _
theorem PL_lt (s:ByteArray) (x:Nat) (h:x∈PL s):x<s.size:=by
 obtain⟨p,hp,rfl⟩:=List.mem_map.1 h
 exact (units_dec s s.size 0 p hp).2
def kindB (k r:Nat):Bool:=if k=0 then true else if k=1 then decide (65535<r) else decide (r=10)
def isK (s:ByteArray) (k x:Nat):Bool:=decide (x∈PL s)&&kindB k (Utf8.decode s x).1
def kl (s:ByteArray) (k:Nat):List Nat:=(PL s).filter fun x=>kindB k (Utf8.decode s x).1
def isP (k:Nat) (pre:List (Nat × Nat)) (x:Nat):Bool:=pre.any fun u=>kindB k u.2&&decide (u.1=x)
def pos (s:ByteArray) (n:Nat):Nat:=(PL s).getD n s.size
theorem pos_in (s:ByteArray) (n:Nat) (h:n<(units s).length):∃hn:n<(PL s).length,pos s n=(PL s)[n]:=by
 have hn:n<(PL s).length:=by rw[PL_len];exact h
 exact⟨hn,by unfold pos;rw[List.getD_eq_getElem?_getD,List.getElem?_eq_getElem hn];rfl⟩
theorem pos_end (s:ByteArray) (n:Nat) (h:(units s).length≤n):pos s n=s.size:=by
 unfold pos;rw[List.getD_eq_getElem?_getD,List.getElem?_eq_none (by rw[PL_len];exact h)];rfl
theorem placesF_getD0 (s:ByteArray) (f i:Nat) (hi:i≤s.size) (hf:s.size≤f+i):(placesF s f i).getD 0 s.size=i:=by
 by_cases h:i<s.size
 ·obtain⟨f',rfl⟩:∃f',f=f'+1:=⟨f-1,by omega⟩
  rw[placesF_in s f' i h];rfl
 ·rw[placesF_end s f i (by omega)];simp;omega
theorem placesF_succ (s:ByteArray):∀n f i,i≤s.size→s.size≤f+i→n<(placesF s f i).length →
 (placesF s f i).getD (n+1) s.size=(placesF s f i).getD n s.size+(Utf8.decode s ((placesF s f i).getD n s.size)).2
 | n,f,i,hi,hf,hn=>by
   by_cases h:i<s.size
   ·obtain⟨f',rfl⟩:∃f',f=f'+1:=⟨f-1,by omega⟩
    obtain⟨d1,_,d3⟩:=dec_width s i h
    rw[placesF_in s f' i h] at hn ⊢
    cases n with
    | zero =>
      rw[List.getD_cons_succ,List.getD_cons_zero]
      exact placesF_getD0 s f' _ d3 (by omega)
    | succ n =>
      rw[List.getD_cons_succ,List.getD_cons_succ]
      exact placesF_succ s n f' _ d3 (by omega) (by simpa using hn)
   ·rw[placesF_end s f i (by omega)] at hn;simp at hn
theorem pos_zero (s:ByteArray):pos s 0=0:=placesF_getD0 s s.size 0 (Nat.zero_le _) (by omega)
theorem pos_succ (s:ByteArray) (n:Nat) (h:n<(units s).length):pos s (n+1)=pos s n+(Utf8.decode s (pos s n)).2 :=
 placesF_succ s n s.size 0 (Nat.zero_le _) (by omega) (by rw[show (placesF s s.size 0).length=(units s).length from PL_len s];exact h)
theorem pos_mem (s:ByteArray) (n:Nat) (h:n<(units s).length):pos s n∈PL s:=by
 obtain⟨hn,e⟩:=pos_in s n h;rw[e];exact List.getElem_mem hn
theorem pos_lt (s:ByteArray) (n:Nat) (h:n<(units s).length):pos s n<s.size:=PL_lt s _ (pos_mem s n h)
theorem pos_le (s:ByteArray) (n:Nat):pos s n≤s.size:=by
 rcases Nat.lt_or_ge n (units s).length with h|h
 ·exact Nat.le_of_lt (pos_lt s n h)
 ·rw[pos_end s n h];exact Nat.le_refl _
theorem pos_step (s:ByteArray) (n:Nat) (h:n<(units s).length):pos s n<pos s (n+1)∧pos s (n+1)≤pos s n+4:=by
 obtain⟨d1,d2,_⟩:=dec_width s _ (pos_lt s n h)
 rw[pos_succ s n h];omega
theorem unit_of (s:ByteArray) (a:Nat) (h:a<s.size):∃n,n<(units s).length∧pos s n≤a∧a<pos s (n+1):=by
 have:∀m,m≤(units s).length→a<pos s m→∃n,n<m∧pos s n≤a∧a<pos s (n+1):=by
  intro m
  induction m with
  | zero=>intro _ h;rw[pos_zero] at h;omega
  | succ m ih =>
    intro hm ha
    by_cases hlt:a<pos s m
    ·obtain⟨n,h1,h2,h3⟩:=ih (by omega) hlt
     exact⟨n,by omega,h2,h3⟩
    ·exact⟨m,by omega,by omega,ha⟩
 obtain⟨n,h1,h2,h3⟩:=this (units s).length (Nat.le_refl _) (by rw[pos_end s _ (Nat.le_refl _)];exact h)
 exact⟨n,h1,h2,h3⟩
end Go.Proofs.YtgpbaeehajkebaaGreatDoor
namespace Go.Proofs.YtgpbaeehajkebaaGreatDoor
open Go Go.RowKit Go.Kt
def withP (s:ByteArray) (a:Int):Bool:=decide (1<(decP s (a-1)).2)||decide (2<(decP s (a-2)).2)||decide (3<(decP s (a-3)).2)
def edgP (S:RdS) (s:ByteArray) (a:Int):Bool :=
 if s.size=0∨a<0∨s.size<a then false else if a=0∨a=s.size then true else if withP s a then false else edgU (untP S s (a-(befP s a).2)) (untP S s a)
theorem within_back (s:ByteArray) (i k:Nat) (hi:i<s.size) (h1:1≤k) (h:(k:Int)<(decP s ((i:Int)-k)).2):i∉PL s:=by
 by_cases hk:k≤i
 ·obtain⟨p,rfl⟩:∃p,i=p+k:=⟨i-k,by omega⟩
  rw[show ((p+k:Nat):Int)-k=(p:Int) by omega,decP_in s p (by omega)] at h
  simp only at h
  rcases decode_wide s p (by omega) with ⟨_,h4⟩|⟨u,u1,u4,u5,h6,h7⟩
  ·rw[h4] at h
   simp only at h
   omega
  ·exact no_unit_within s p u (p+k) (by omega) u1 u4 h6 (by omega) (by omega) s.size 0 (Nat.zero_le _)
 ·exfalso
  unfold decP at h
  rw[if_neg (by omega)] at h
  simp only at h
  omega
theorem withP_iff (s:ByteArray) (i:Nat) (hi:i<s.size):withP s i=true↔i∉PL s:=by
 constructor
 ·intro h
  unfold withP at h
  simp only[Bool.or_eq_true,decide_eq_true_eq] at h
  rcases h with (h|h)|h
  ·exact within_back s i 1 hi (by omega) (by simpa using h)
  ·exact within_back s i 2 hi (by omega) (by simpa using h)
  ·exact within_back s i 3 hi (by omega) (by simpa using h)
 ·intro h
  obtain⟨n,hn,h1,h2⟩:=unit_of s i hi
  have hne:pos s n≠i:=fun e=>h (e▸pos_mem s n hn)
  have hst:=pos_step s n hn
  have hsu:=pos_succ s n hn
  have hlt:=pos_lt s n hn
  have key:∀k:Nat,i=pos s n+k→(k:Int)<(decP s ((i:Int)-k)).2:=fun k hk=>by
   rw[show (i:Int)-k=(pos s n:Int) by omega,decP_in s _ hlt]
   simp only
   omega
  unfold withP
  simp only[Bool.or_eq_true,decide_eq_true_eq]
  rcases (by omega:i=pos s n+1∨i=pos s n+2∨i=pos s n+3) with e|e|e
  ·exact .inl (.inl (by simpa using key 1 e))
  ·exact .inl (.inr (by simpa using key 2 e))
  ·exact .inr (by simpa using key 3 e)
theorem edgP_unit (S:RdS) (s:ByteArray) (n:Nat) (hn:n+1<(units s).length):edgP S s (pos s (n+1))=edgU (untP S s (pos s n)) (untP S s (pos s (n+1))):=by
 have hlt:=pos_lt s (n+1) hn
 have hst:=(pos_step s n (by omega)).1
 have hw:withP s (pos s (n+1))=false:=by
  have:=(withP_iff s (pos s (n+1)) hlt)
  cases hb:withP s (pos s (n+1)) with
  | false=>rfl
  | true=>exact absurd (pos_mem s (n+1) hn) (this.1 hb)
 have hb:=before_unit s (pos s n) (pos_lt s n (by omega)) (pos_mem s n (by omega))
 have hsu:=pos_succ s n (by omega)
 unfold edgP
 rw[if_neg (by omega),if_neg (by omega),hw]
 simp only[Bool.false_eq_true,if_false]
 rw[show ((pos s (n+1):Nat):Int)=(pos s n:Int)+(Utf8.decode s (pos s n)).2 by omega,hb]
 simp only
 rw[Int.add_sub_cancel]
theorem edgP_within (S:RdS) (s:ByteArray) (i:Nat) (h0:0<i) (hi:i<s.size) (h:i∉PL s):edgP S s i=false:=by
 unfold edgP
 rw[if_neg (by omega),if_neg (by omega),(withP_iff s i hi).2 h]
 rfl
theorem edgP_ends (S:RdS) (s:ByteArray) (a:Int) (h:a=0∨a=s.size):edgP S s a=decide (s.size≠0):=by
 unfold edgP
 by_cases hz:s.size=0
 ·rw[if_pos (.inl hz)];simp[hz]
 ·rw[if_neg (by omega),if_pos h];simp[hz]
theorem edgP_out (S:RdS) (s:ByteArray) (a:Int) (h:a<0∨s.size<a):edgP S s a=false:=by
 unfold edgP
 rw[if_pos (by omega)]
def celStep (S:RdS) (s:ByteArray) (z:List (Nat × Nat) × Nat × CU) (p:Nat × Nat):List (Nat × Nat) × Nat × CU :=
 if 0<p.1∧edgU z.2.2 (untP S s p.1)=true then (z.1++[(z.2.1,p.1)],p.1,untP S s p.1) else (z.1,z.2.1,untP S s p.1)
def celF (S:RdS) (s:ByteArray) (l:List (Nat × Nat)):List (Nat × Nat) × Nat × CU:=l.foldl (celStep S s) ([],0,⟨0,false,false,false,0⟩)
def celL (S:RdS) (s:ByteArray):List (Nat × Nat):=if s.size=0 then [] else (celF S s (units s)).1++[((celF S s (units s)).2.1,s.size)]
theorem celF_snoc (S:RdS) (s:ByteArray) (l:List (Nat × Nat)) (p:Nat × Nat):celF S s (l++[p])=celStep S s (celF S s l) p:=by simp[celF]
theorem celF_pre (S:RdS) (s:ByteArray) (l r:List (Nat × Nat)):(celF S s l).1 <+: (celF S s (l++r)).1:=by
 induction r generalizing l with
 | nil=>rw[List.append_nil];exact List.prefix_refl _
 | cons p t ih =>
   have h1:(celF S s l).1 <+: (celF S s (l++[p])).1:=by
    rw[celF_snoc]
    unfold celStep
    split
    ·exact List.prefix_append _ _
    ·exact List.prefix_refl _
   have h2:=ih (l++[p])
   rw[List.append_assoc,List.singleton_append] at h2
   exact h1.trans h2
theorem celL_pre (S:RdS) (s:ByteArray) (l:List (Nat × Nat)) (h:l <+: units s) (hs:s.size≠0):(celF S s l).1 <+: celL S s:=by
 obtain⟨r,hr⟩:=h
 unfold celL
 rw[if_neg hs,←hr]
 exact (celF_pre S s l r).trans (List.prefix_append _ _)
theorem untP_han (S:RdS) (s:ByteArray) (a:Int):0≤(untP S s a).han∧(untP S s a).han≤5:=by
 unfold untP
 split
 ·exact⟨by decide,by decide⟩
 ·exact hanK_in _
theorem celF_han (S:RdS) (s:ByteArray) (l:List (Nat × Nat)):0≤(celF S s l).2.2.han∧(celF S s l).2.2.han≤5:=by
 rcases List.eq_nil_or_concat l with rfl|⟨r,p,rfl⟩
 ·exact⟨Int.le_refl 0,(by decide:(0:Int)≤5)⟩
 ·rw[List.concat_eq_append,celF_snoc]
  unfold celStep
  split
  ·exact untP_han S s _
  ·exact untP_han S s _
end Go.Proofs.YtgpbaeehajkebaaGreatDoor
namespace Go.Proofs.YtgpbaeehajkebaaGreatDoor
open Go Go.RowKit Go.Kt Go.Shelf
attribute [local go_sem] Oper.semAt_some
theorem unitsF_split (s:ByteArray):∀(F i0:Nat) (front:List (Nat × Nat)) (x:Nat × Nat) (rest:List (Nat × Nat)),unitsF s F i0=front++x::rest→s.size≤i0+F →
 x.1<s.size∧x.2=(Utf8.decode s x.1).1∧∃f',rest=unitsF s f' (x.1+(Utf8.decode s x.1).2)∧s.size≤x.1+(Utf8.decode s x.1).2+f'
 | 0,_,front,x,rest,h,_=>by simp[unitsF] at h
 | F+1,i0,front,x,rest,h,hf=>by
   by_cases hi:i0<s.size
   ·obtain⟨d1,d2,d3⟩:=dec_width s i0 hi
    rw[unitsF,if_pos hi] at h
    cases front with
    | nil =>
      simp only[List.nil_append,List.cons.injEq] at h
      obtain⟨h1,h2⟩:=h
      subst h1
      exact⟨hi,rfl,F,h2.symm,by simp only;omega⟩
    | cons y t =>
      simp only[List.cons_append,List.cons.injEq] at h
      exact unitsF_split s F _ t x rest h.2 (by omega)
   ·rw[unitsF,if_neg hi] at h
    simp at h
theorem unitsF_nil {s:ByteArray} {f e:Nat} (h:unitsF s f e=[]) (hf:s.size≤e+f):s.size≤e:=by
 rcases Nat.lt_or_ge e s.size with h1|h1
 ·cases f with
  | zero=>omega
  | succ f=>rw[unitsF,if_pos h1] at h;cases h
 ·exact h1
theorem unitsF_head {s:ByteArray} {f e:Nat} {x:Nat × Nat} {r:List (Nat × Nat)} (h:unitsF s f e=x::r):x.1=e:=by
 cases f with
 | zero=>simp[unitsF] at h
 | succ f =>
   rw[unitsF] at h
   split at h
   ·simp only[List.cons.injEq] at h;rw[←h.1]
   ·cases h
def Fr (s:ByteArray) (front:List (Nat × Nat)) (e:Nat):Prop:=∃f,units s=front++unitsF s f e∧(unitsF s f e=[]→s.size≤e)∧e≤s.size
theorem Fr.all (s:ByteArray):Fr s (units s) s.size:=⟨0,by simp[unitsF],fun _=>Nat.le_refl _,Nat.le_refl _⟩
theorem Fr.zero {s:ByteArray} {e:Nat} (h:Fr s [] e):e=0:=by
 obtain⟨f,h1,h2,h3⟩:=h
 rw[List.nil_append] at h1
 rcases Nat.eq_zero_or_pos s.size with hz|hz
 ·omega
 ·cases hu:units s with
  | nil =>
    have:=unitsF_nil (show unitsF s s.size 0=[] from hu) (by omega)
    omega
  | cons x r =>
    rw[hu] at h1
    have e1:=unitsF_head h1.symm
    have e2:=unitsF_head (show unitsF s s.size 0=x::r from hu)
    omega
theorem Fr.snoc {s:ByteArray} {front:List (Nat × Nat)} {x:Nat × Nat} {e:Nat} (h:Fr s (front++[x]) e):x.1<s.size∧x.2=(Utf8.decode s x.1).1∧e=x.1+(Utf8.decode s x.1).2∧Fr s front x.1:=by
 obtain⟨f,h1,h2,h3⟩:=h
 rw[List.append_assoc] at h1
 have h1':unitsF s s.size 0=front++x::unitsF s f e:=h1
 obtain⟨a1,a2,f',a3,a4⟩:=unitsF_split s s.size 0 front x _ h1' (by omega)
 obtain⟨d1,d2,d3⟩:=dec_width s x.1 a1
 refine⟨a1,a2,?_,f'+1,?_,fun h=>(by rw[unitsF,if_pos a1] at h;cases h),by omega⟩
 ·cases hu:unitsF s f e with
  | nil =>
    have k1:=h2 hu
    rw[hu] at a3
    have k2:=unitsF_nil a3.symm a4
    omega
  | cons y r =>
    have k1:=unitsF_head hu
    rw[hu] at a3
    have k2:=unitsF_head a3.symm
    omega
 ·rw[h1,unitsF,if_pos a1,←a3,←a2];rfl
set_option maxRecDepth 100000 in
set_option maxHeartbeats 1000000 in
theorem back_iter (s:ByteArray) (bs:Nat) (w0:World) (hc:w0.cell? ⟨bs,0,none⟩=some (.string s)) (hs:s.size≤4611686018427387904) (hT:Lib.Utf8Tabs 3 4 w0) (_hbs2:5≤bs) :
 Iter Tryz.prog 49 #[.pointer (some ⟨bs,0,none⟩)] enc2 (units s).reverse (fun b=>b=bs∨b<5) w0:=by
 intro l X J Jx W hNd hX hsame hsz hJ hJx hY h0
 have hcW:W.cell? ⟨bs,0,none⟩=some (.string s):=(World.cell?_of_block (w:=w0) (a:=⟨bs,0,none⟩) (hsame bs (.inl rfl))).trans hc
 have hTW:Lib.Utf8Tabs 3 4 W:=⟨fun c hc=>(World.cell?_of_block (w:=w0) (a:=⟨3,c,none⟩) (hsame 3 (.inr (by omega)))).trans (hT.1 c hc),fun i hi=>⟨(World.cell?_of_block (w:=w0) (a:=⟨4,2*i,none⟩) (hsame 4 (.inr (by omega)))).trans (hT.2 i hi).1,(World.cell?_of_block (w:=w0) (a:=⟨4,2*i+1,none⟩) (hsame 4 (.inr (by omega)))).trans (hT.2 i hi).2⟩⟩
 have hbs:bs<W.heap.size:=lt_of_cell hcW
 have hXb:¬X bs:=hNd bs (.inl rfl)
 have hX0:¬X 3:=hNd 3 (.inr (by omega))
 have hX1:¬X 4:=hNd 4 (.inr (by omega))
 have KeepT:Hid (∀V:World,Keep X W V→Lib.Utf8Tabs 3 4 V):=Lib.hid fun V hk=>⟨fun c hc=>hk.cell (hTW.1 c hc) hX0,fun i hi=>⟨hk.cell (hTW.2 i hi).1 hX1,hk.cell (hTW.2 i hi).2 hX1⟩⟩
 clear hTW hT
 have hfn:∀k,Fence.wide.fn k:=fun _=>trivial
 have hdep:Fence.wide.depth=none:=rfl
 refine (callsIn_wide (n:=0)).1 ?_
 refine callsIn_of_wp Tryz.func49 rfl trivial ?_ rfl
 simp only[Tryz.ntmps49,List.size_toArray,List.length_cons,List.length_nil,Nat.reduceAdd,Nat.reduceSub,Array.replicate_succ,Array.replicate_zero,List.push_toArray,List.append_toArray,List.nil_append,List.cons_append]
 gi_wp2
 gi_loopw [3,4,5] (fun v _ _ wr=>∃(front pre:List (Nat × Nat)) (Y:Nat→Prop) (e:Nat),(∀b,Y b→W.heap.size≤b)∧v = .int .i64 e∧Fr s front e∧pre++front.reverse=(units s).reverse∧J pre Y wr∧Keep X W wr)
  (fun v _ _ _=>(RowKit.intOf v).toNat)
 case atStart=>exact⟨units s,[],_,s.size,fun _ h=>h.elim,rfl,Fr.all s,rfl,h0,Keep.refl _ _⟩
 case round =>
  obtain⟨front,pre,Y,e,hYl,rfl,hfr,hp,hJs,hk⟩:=hrel
  have hcr:=hk.cell hcW hXb
  rcases List.eq_nil_or_concat front with rfl|⟨fr,x,rfl⟩
  ·obtain rfl:=hfr.zero
   rw[List.reverse_nil,List.append_nil] at hp
   have Hp:=Lib.hid hp
   clear hp hfr
   gi_wp2
   go_end0
   exact⟨⟨_,rfl⟩,hk,.inl ⟨Y,fun b hb=>by have:=hYl b hb;omega,Hp.out▸hJs⟩⟩
  ·rw[List.concat_eq_append] at hfr hp
   obtain⟨x1,x2,x3,hfr'⟩:=hfr.snoc
   obtain⟨d1,d2,d3⟩:=dec_width s x.1 x1
   have hm:x.1∈placesF s s.size 0:=by
    obtain⟨f,h1,_,_⟩:=hfr
    unfold placesF
    have h1':unitsF s s.size 0=(fr++[x])++unitsF s f e:=h1
    rw[h1']
    simp
   have hbe:=before_unit s x.1 x1 hm
   rw[show ((x.1:Int)+(Utf8.decode s x.1).2)=((e:Nat):Int) by rw[x3];simp] at hbe
   have C:=Lib.hid (fun (V:World) (hV:Keep X W V)=>utfBefore_any s e V (KeepT.out V hV) hs)
   rw[hbe] at C
   have hp2:(pre++[x])++fr.reverse=(units s).reverse:=by rw[←hp];simp
   have hpre:pre++[x] <+: (units s).reverse:=⟨fr.reverse,hp2⟩
   have Hdat:=Lib.hid (And.intro hp2 (And.intro hfr' (And.intro hpre x3)))
   have he0:(0:Int)<e:=by omega
   rw[←x2] at C
   have hwd:((e:Nat):Int)-((Utf8.decode s x.1).2:Nat)=((x.1:Nat):Int):=by omega
   have hxs:x.1≤4611686018427387904:=by omega
   generalize (Utf8.decode s x.1).2=wd at *
   clear hp hp2 hpre hfr hfr' x2 x3 hm hbe
   obtain⟨at',r⟩:=x
   simp only at C hwd hxs x1 d2 d3
   gi_wp2_with fail
   refine (callsIn_wide.2 (C.out _ hk)).mono ?_
   rintro e1 V1 ⟨rfl,hb1⟩
   have hk1:Keep X W V1:=hk.trans (.of_all hb1)
   have hJ1:J pre Y V1:=hJ _ _ _ _ (.of_all hb1) hJs
   obtain⟨fn,tmps,assign,body,hy,hR⟩:=hY pre (at',r) Y V1 Hdat.out.2.2.1 hJ1 (by have:=hb1.size;have:=hk.size;omega) (fun b hb=>by have:=hYl b hb;omega)
   have HK1:=Lib.hid hk1
   clear hb1 hJ1
   gi_wp2_with fail
   refine hR.mono ?_
   rintro e3 V3 ⟨Y',hk4,hY',(⟨rfl,hJ3⟩|⟨rfl,hJx3⟩)⟩
   all_goals have hk3:=HK1.out
   all_goals have hzk:=hk3.size
   all_goals have hkW:Keep X W V3:=⟨hk4.os.trans hk3.os,hk4.tape.trans hk3.tape,hk4.output.trans hk3.output,Nat.le_trans hk3.size hk4.size,fun b hb hx=>(hk4.same b (Nat.lt_of_lt_of_le hb hk3.size) (fun h=>by rcases h with h|h;exact hx h;have:=hYl b h;omega)).trans (hk3.same b hb hx)⟩
   ·clear hk4 hk3
    gi_wp2
    go_roundw
    case rel=>exact⟨fr,pre++[(at',r)],Y',at',fun b hb=>by rcases hY' b hb with h|h;exact hYl b h;omega,rfl,Hdat.out.2.1,Hdat.out.1,hJ3,hkW⟩
    case measure=>simp[RowKit.intOf];have:=Hdat.out.2.2.2;omega
   ·clear hk4 hk3
    gi_wp2
    refine bodyPost_ret (results_none rfl _ _ _) rfl ?_
    exact⟨⟨_,rfl⟩,hkW,.inr ⟨_,Y',Hdat.out.2.2.1,fun b hb=>by rcases hY' b hb with h|h;have:=hYl b h;omega;omega,hJx3⟩⟩
end Go.Proofs.YtgpbaeehajkebaaGreatDoor
namespace Go.Proofs.YtgpbaeehajkebaaGreatDoor
open Go Go.RowKit Go.Kt
def segs (S:RdS) (s:ByteArray):Nat→CU→List (Nat × Nat)→List (Nat × Nat)
 | f,_,[]=>[(f,s.size)]
 | f,c,x::r=>if edgU c (untP S s x.1)=true then (f,x.1)::segs S s x.1 (untP S s x.1) r else segs S s f (untP S s x.1) r
theorem celF_segs (S:RdS) (s:ByteArray):∀(l:List (Nat × Nat)) (z:List (Nat × Nat) × Nat × CU),(∀x∈l,0<x.1) →
 (l.foldl (celStep S s) z).1++[((l.foldl (celStep S s) z).2.1,s.size)]=z.1++segs S s z.2.1 z.2.2 l
 | [],z,_=>rfl
 | x::r,z,h=>by
   rw[List.foldl_cons,celF_segs S s r _ (fun y hy=>h y (List.mem_cons_of_mem _ hy))]
   have h0:=h x (List.mem_cons_self ..)
   unfold celStep
   rw[segs]
   by_cases he:edgU z.2.2 (untP S s x.1)=true
   ·rw[if_pos ⟨h0,he⟩,if_pos he,List.append_assoc];rfl
   ·rw[if_neg (fun h9=>he h9.2),if_neg he]
theorem units_cons (s:ByteArray) (hz:s.size≠0):∃x r,units s=x::r∧x.1=0∧∀y∈r,0<y.1:=by
 cases hu:units s with
 | nil=>exact absurd (unitsF_nil (show unitsF s s.size 0=[] from hu) (by omega)) (by omega)
 | cons x r =>
   refine⟨x,r,rfl,unitsF_head (show unitsF s s.size 0=x::r from hu),fun y hy=>?_⟩
   have hp:=PL_rise s
   rw[PL_units,hu,List.map_cons] at hp
   have:=(List.pairwise_cons.1 hp).1 y.1 (List.mem_map.2 ⟨y,hy,rfl⟩)
   omega
theorem celL_segs (S:RdS) (s:ByteArray) (hz:s.size≠0):∃x r,units s=x::r∧x.1=0∧celL S s=segs S s 0 (untP S s 0) r:=by
 obtain⟨x,r,hu,h0,hr⟩:=units_cons s hz
 refine⟨x,r,hu,h0,?_⟩
 unfold celL celF
 rw[if_neg hz,hu,List.foldl_cons,celF_segs S s r _ hr]
 unfold celStep
 rw[if_neg (by omega),h0]
 rfl
def bakStep (S:RdS) (s:ByteArray) (z:List (Nat × Nat) × Nat × Nat × CU) (p:Nat × Nat):List (Nat × Nat) × Nat × Nat × CU :=
 if z.2.1<s.size∧edgU (untP S s p.1) z.2.2.2=true then (z.1++[(z.2.1,z.2.2.1)],p.1,z.2.1,untP S s p.1) else (z.1,p.1,z.2.2.1,untP S s p.1)
def bakF (S:RdS) (s:ByteArray) (l:List (Nat × Nat)):List (Nat × Nat) × Nat × Nat × CU:=l.foldl (bakStep S s) ([],s.size,s.size,⟨0,false,false,false,0⟩)
theorem bakF_snoc (S:RdS) (s:ByteArray) (l:List (Nat × Nat)) (p:Nat × Nat):bakF S s (l++[p])=bakStep S s (bakF S s l) p:=by simp[bakF]
theorem bakF_segs (S:RdS) (s:ByteArray):∀(r:List (Nat × Nat)) (x:Nat × Nat),(∀y∈x::r,y.1<s.size) →
 (bakF S s (x::r).reverse).2.1=x.1∧(bakF S s (x::r).reverse).2.2.2=untP S s x.1∧∀f,segs S s f (untP S s x.1) r=(f,(bakF S s (x::r).reverse).2.2.1)::(bakF S s (x::r).reverse).1.reverse
 | [],x,_=>by
   have:bakF S s [x].reverse=([],x.1,s.size,untP S s x.1):=by
    show bakStep S s ([],s.size,s.size,⟨0,false,false,false,0⟩) x=_
    unfold bakStep
    rw[if_neg (fun h=>by have:=h.1;simp only at this;omega)]
   rw[this]
   exact⟨rfl,rfl,fun f=>rfl⟩
 | y::r,x,h=>by
   obtain⟨h1,h2,h3⟩:=bakF_segs S s r y (fun q hq=>h q (List.mem_cons_of_mem _ hq))
   have hy:=h y (by simp)
   have e:(x::y::r).reverse=(y::r).reverse++[x]:=by simp
   rw[e,bakF_snoc]
   generalize bakF S s (y::r).reverse=z at *
   unfold bakStep
   rw[h1,h2]
   by_cases he:edgU (untP S s x.1) (untP S s y.1)=true
   ·rw[if_pos ⟨hy,he⟩]
    refine⟨rfl,rfl,fun f=>?_⟩
    rw[segs,if_pos he,h3 y.1]
    simp
   ·rw[if_neg (fun h9=>he h9.2)]
    refine⟨rfl,rfl,fun f=>?_⟩
    rw[segs,if_neg he,h3 f]
theorem bakL_eq (S:RdS) (s:ByteArray) (hz:s.size≠0):(celL S s).reverse=(bakF S s (units s).reverse).1++[(0,(bakF S s (units s).reverse).2.2.1)]:=by
 obtain⟨x,r,hu,h0,hc⟩:=celL_segs S s hz
 have h:=(bakF_segs S s r x (fun y hy=>(units_dec s s.size 0 y (by rw[show unitsF s s.size 0=x::r from hu];exact hy)).2)).2.2 0
 have e0:((x.1:Nat):Int)=0:=by omega
 rw[e0] at h
 rw[hc,h,hu]
 simp
theorem bakF_pre (S:RdS) (s:ByteArray) (l r:List (Nat × Nat)):(bakF S s l).1 <+: (bakF S s (l++r)).1:=by
 induction r generalizing l with
 | nil=>rw[List.append_nil];exact List.prefix_refl _
 | cons p t ih =>
   have h1:(bakF S s l).1 <+: (bakF S s (l++[p])).1:=by
    rw[bakF_snoc]
    unfold bakStep
    split
    ·exact List.prefix_append _ _
    ·exact List.prefix_refl _
   have h2:=ih (l++[p])
   rw[List.append_assoc,List.singleton_append] at h2
   exact h1.trans h2
theorem bakL_pre (S:RdS) (s:ByteArray) (l:List (Nat × Nat)) (h:l <+: (units s).reverse) (hs:s.size≠0):(bakF S s l).1 <+: (celL S s).reverse:=by
 obtain⟨r,hr⟩:=h
 rw[bakL_eq S s hs,←hr]
 exact (bakF_pre S s l r).trans (List.prefix_append _ _)
theorem bakF_han (S:RdS) (s:ByteArray) (l:List (Nat × Nat)):0≤(bakF S s l).2.2.2.han∧(bakF S s l).2.2.2.han≤5:=by
 rcases List.eq_nil_or_concat l with rfl|⟨r,p,rfl⟩
 ·exact⟨Int.le_refl 0,(by decide:(0:Int)≤5)⟩
 ·rw[List.concat_eq_append,bakF_snoc]
  unfold bakStep
  split
  ·exact untP_han S s _
  ·exact untP_han S s _
end Go.Proofs.YtgpbaeehajkebaaGreatDoor
namespace Go.Proofs.YtgpbaeehajkebaaGreatDoor
open Go Go.RowKit Go.Kt Go.Kt.Rg Go.Maps
abbrev DsT:=Nat→Option (List Nat)
def sumO (g:Nat→Option Nat):List Nat→Option Nat
 | []=>some 0
 | y::t=>match g y,sumO g t with
   | some a,some b=>some (a+b)
   | _,_=>none
theorem sumO_some {g:Nat→Option Nat}:∀ {l:List Nat} {n:Nat},sumO g l=some n→∀y∈l,∃a,g y=some a
 | [],_,_,y,hy=>by cases hy
 | z::t,n,h,y,hy=>by
   rw[sumO] at h
   cases hz:g z with
   | none=>rw[hz] at h;cases h
   | some a =>
     cases ht:sumO g t with
     | none=>rw[hz,ht] at h;cases h
     | some b =>
       rcases List.mem_cons.1 hy with rfl|hy
       ·exact⟨a,hz⟩
       ·exact sumO_some ht y hy
theorem sumO_mono {g h:Nat→Option Nat} (hgh:∀y a,g y=some a→h y=some a):∀ {l:List Nat} {n:Nat},sumO g l=some n→sumO h l=some n
 | [],_,e=>e
 | z::t,n,e=>by
   rw[sumO] at e ⊢
   cases hz:g z with
   | none=>rw[hz] at e;cases e
   | some a =>
     cases ht:sumO g t with
     | none=>rw[hz,ht] at e;cases e
     | some b =>
       rw[hz,ht] at e
       rw[hgh z a hz,sumO_mono hgh ht];exact e
def fullN (ds:DsT):Nat→Nat→Option Nat
 | 0,_=>none
 | f+1,x=>if sylP x then some (partsP (x-44032)).length else match ds x with
   | none=>some 1
   | some l=>sumO (fullN ds f) l
theorem fullN_step (ds:DsT):∀(f x n:Nat),fullN ds f x=some n→fullN ds (f+1) x=some n
 | 0,x,n,h=>by cases h
 | f+1,x,n,h=>by
   rw[fullN] at h ⊢
   split
   ·rename_i hs;rw[if_pos hs] at h;exact h
   ·rename_i hs
    rw[if_neg hs] at h
    cases hd:ds x with
    | none=>rw[hd] at h;exact h
    | some l=>rw[hd] at h;exact sumO_mono (fun y a=>fullN_step ds f y a) h
theorem fullN_mono (ds:DsT) {f g x n:Nat} (hfg:f≤g) (h:fullN ds f x=some n):fullN ds g x=some n:=by
 obtain⟨k,rfl⟩:∃k,g=f+k:=⟨g-f,by omega⟩
 clear hfg
 induction k with
 | zero=>exact h
 | succ k ih=>exact fullN_step ds _ _ _ ih
def EndA (ds:DsT) (x n:Nat):Prop:=∃f,fullN ds f x=some n
def NoEnd (ds:DsT) (x:Nat):Prop:=∀f,fullN ds f x=none
theorem EndA.uniq {ds:DsT} {x n m:Nat} (h:EndA ds x n) (h2:EndA ds x m):n=m:=by
 obtain⟨f,h⟩:=h
 obtain⟨g,h2⟩:=h2
 have a:=fullN_mono ds (Nat.le_max_left f g) h
 have b:=fullN_mono ds (Nat.le_max_right f g) h2
 rw[a] at b
 exact Option.some.inj b
theorem EndA.not {ds:DsT} {x n:Nat} (h:EndA ds x n):¬NoEnd ds x:=fun h2=>by
 obtain⟨f,h⟩:=h
 rw[h2 f] at h;cases h
theorem end_or (ds:DsT) (x:Nat):NoEnd ds x∨∃n,EndA ds x n:=by
 by_cases h:∃n,EndA ds x n
 ·exact .inr h
 ·refine .inl fun f=>?_
  cases hf:fullN ds f x with
  | none=>rfl
  | some n=>exact absurd ⟨n,f,hf⟩ h
def EndS (ds:DsT) (l:List Nat) (n:Nat):Prop:=∃f,sumO (fullN ds f) l=some n
theorem ends_nil (ds:DsT):EndS ds [] 0:=⟨0,rfl⟩
theorem EndS.cons {ds:DsT} {y a b:Nat} {t:List Nat} (h:EndA ds y a) (ht:EndS ds t b):EndS ds (y::t) (a+b):=by
 obtain⟨f,h⟩:=h
 obtain⟨g,ht⟩:=ht
 refine⟨max f g,?_⟩
 rw[sumO,fullN_mono ds (Nat.le_max_left f g) h,sumO_mono (fun y a=>fullN_mono ds (Nat.le_max_right f g)) ht]
theorem EndA.ofL {ds:DsT} {x n:Nat} {l:List Nat} (hs:sylP (x:Int)=false) (hd:ds x=some l) (h:EndS ds l n):EndA ds x n:=by
 obtain⟨f,h⟩:=h
 exact⟨f+1,by rw[fullN,if_neg (by rw[hs];decide),hd];exact h⟩
theorem EndA.ofN {ds:DsT} {x:Nat} (hs:sylP (x:Int)=false) (hd:ds x=none):EndA ds x 1:=⟨1,by rw[fullN,if_neg (by rw[hs];decide),hd]⟩
theorem EndA.syl {ds:DsT} {x:Nat} (hs:sylP (x:Int)=true):EndA ds x (partsP (x-44032)).length:=⟨1,by rw[fullN,if_pos hs]⟩
theorem NoEnd.up {ds:DsT} {x y:Nat} {l:List Nat} (hs:sylP (x:Int)=false) (hd:ds x=some l) (hy:y∈l) (h:NoEnd ds y):NoEnd ds x:=fun f=>by
 cases f with
 | zero=>rfl
 | succ f =>
   rw[fullN,if_neg (by rw[hs];decide),hd]
   cases hq:sumO (fullN ds f) l with
   | none=>exact hq
   | some n =>
     obtain⟨a,ha⟩:=sumO_some hq y hy
     rw[h f] at ha;cases ha
inductive Leads (ds:DsT):Nat→Nat→Prop
 | one {p y:Nat} {l:List Nat} (hs:sylP (p:Int)=false) (hd:ds p=some l) (hy:y∈l):Leads ds p y
 | more {p y z:Nat} {l:List Nat} (h:Leads ds p y) (hs:sylP (y:Int)=false) (hd:ds y=some l) (hz:z∈l):Leads ds p z
theorem one_less {ds:DsT} {p y f n:Nat} {l:List Nat} (hs:sylP (p:Int)=false) (hd:ds p=some l) (hy:y∈l) (h:fullN ds f p=some n):∃g,g<f∧∃m,fullN ds g y=some m:=by
 cases f with
 | zero=>cases h
 | succ f =>
   rw[fullN,if_neg (by rw[hs];decide),hd] at h
   exact⟨f,Nat.lt_succ_self f,sumO_some h y hy⟩
theorem Leads.less {ds:DsT} {p y f n:Nat} (h:Leads ds p y) (hf:fullN ds f p=some n):∃g,g<f∧∃m,fullN ds g y=some m:=by
 induction h with
 | one hs hd hy=>exact one_less hs hd hy hf
 | more _ hs hd hz ih =>
   obtain⟨g,hg,m,hm⟩:=ih
   obtain⟨g2,hg2,m2,hm2⟩:=one_less hs hd hz hm
   exact⟨g2,by omega,m2,hm2⟩
theorem Leads.ring {ds:DsT} {x:Nat} (h:Leads ds x x):NoEnd ds x:=by
 have key:∀(k f:Nat),f≤k→fullN ds f x=none:=by
  intro k
  induction k with
  | zero =>
    intro f hf
    obtain rfl:f=0:=by omega
    rfl
  | succ k ih =>
    intro f hf
    cases hq:fullN ds f x with
    | none=>rfl
    | some n =>
      obtain⟨g,hg,m,hm⟩:=h.less hq
      rw[ih g (by omega)] at hm;cases hm
 exact fun f=>key f f (Nat.le_refl _)
/-! ### The program's lengths -/
def LeInv (ds:DsT) (P:List Nat) (le:LeT):Prop:=∀x v,le x=some v→(v = -1∧x∈P)∨(v = -1∧NoEnd ds x)∨∃n,EndA ds x n∧v=(min n 9:Nat)
def LenR (ds:DsT) (x:Nat) (r:Int):Prop:=(r = -1∧NoEnd ds x)∨∃n,EndA ds x n∧r=(min n 9:Nat)
theorem LeInv.upd {ds:DsT} {P:List Nat} {le:LeT} (h:LeInv ds P le) (x:Nat):LeInv ds (x::P) (updN le x (-1)):=fun y v hv=>by
 unfold updN at hv
 by_cases e:y=x
 ·rw[if_pos e] at hv
  exact .inl ⟨(Option.some.inj hv).symm,by rw[e];exact List.mem_cons_self⟩
 ·rw[if_neg e] at hv
  rcases h y v hv with ⟨h1,h2⟩|h
  ·exact .inl ⟨h1,List.mem_cons_of_mem _ h2⟩
  ·exact .inr h
theorem LeInv.done {ds:DsT} {P:List Nat} {le:LeT} {x n:Nat} (h:LeInv ds (x::P) le) (hx:EndA ds x n) {v:Int} (hv:v=(min n 9:Nat)):LeInv ds P (updN le x v):=fun y u hu=>by
 unfold updN at hu
 by_cases e:y=x
 ·rw[if_pos e] at hu
  exact .inr (.inr ⟨n,by rw[e];exact hx,by rw[←Option.some.inj hu];exact hv⟩)
 ·rw[if_neg e] at hu
  rcases h y u hu with ⟨h1,h2⟩|h
  ·rcases List.mem_cons.1 h2 with h2|h2
   ·exact absurd h2 e
   ·exact .inl ⟨h1,h2⟩
  ·exact .inr h
theorem LeInv.ring {ds:DsT} {P:List Nat} {le:LeT} {x:Nat} (h:LeInv ds (x::P) le) (hx:NoEnd ds x):LeInv ds P le:=fun y u hu=>by
 rcases h y u hu with ⟨h1,h2⟩|h
 ·rcases List.mem_cons.1 h2 with h2|h2
  ·exact .inr (.inl ⟨h1,by rw[h2];exact hx⟩)
  ·exact .inl ⟨h1,h2⟩
 ·exact .inr h
theorem lenL_spec {ds:DsT} {L:List Nat} {f x:Nat} {P:List Nat}
 (hg:∀le y,LeInv ds P le→LeOk le→(∀p∈P,Leads ds p y)→unk L le<f→LeInv ds P (lenF ds f le y).2∧LenR ds y (lenF ds f le y).1) :
 ∀(l:List Nat) (k:Nat) (sum:Int) (le:LeT),sum=(min k 9:Nat)→LeInv ds P le→LeOk le→(∀y∈l,∀p∈P,Leads ds p y)→unk L le<f →
  ((lenL (lenF ds f) x l sum le).1 = -1∧LeInv ds P (lenL (lenF ds f) x l sum le).2∧∃y∈l,NoEnd ds y) ∨
  ∃n le',EndS ds l n∧(lenL (lenF ds f) x l sum le)=(((min (k+n) 9:Nat):Int),updN le' x ((min (k+n) 9:Nat):Int))∧LeInv ds P le'
 | [],k,sum,le,hk,hI,_,_,_=>.inr ⟨0,le,ends_nil ds,by rw[lenL,hk];rfl,hI⟩
 | y::t,k,sum,le,hk,hI,hO,hr,hu=>by
   obtain⟨h1,h2⟩:=hg le y hI hO (hr y List.mem_cons_self) hu
   have h3:=lenF_ok ds f le y hO
   rw[lenL]
   rcases h2 with ⟨h2,h4⟩|⟨n,h4,h5⟩
   ·rw[if_pos h2]
    exact .inl ⟨rfl,h1,y,List.mem_cons_self,h4⟩
   ·rw[if_neg (by omega)]
    have hu2:=unk_mono L h3.2.2
    have hs:min (sum+(lenF ds f le y).1) 9=((min (k+n) 9:Nat):Int):=by rw[hk,h5];omega
    rcases lenL_spec hg t (k+n) _ _ hs h1 h3.2.1 (fun z hz=>hr z (List.mem_cons_of_mem _ hz)) (by omega) with ⟨q1,q2,z,hz,q3⟩|⟨m,le',q1,q2,q3⟩
    ·exact .inl ⟨q1,q2,z,List.mem_cons_of_mem _ hz,q3⟩
    ·refine .inr ⟨n+m,le',EndS.cons h4 q1,?_,q3⟩
     rw[q2,show k+n+m=k+(n+m) by omega]
theorem lenF_spec (ds:DsT) (L:List Nat) (hL:∀y,(ds y).isSome=true→y∈L):∀(f:Nat) (P:List Nat) (le:LeT) (x:Nat),LeInv ds P le→LeOk le→(∀p∈P,Leads ds p x)→unk L le<f→LeInv ds P (lenF ds f le x).2∧LenR ds x (lenF ds f le x).1
 | 0,P,le,x,_,_,_,hu=>absurd hu (by omega)
 | f+1,P,le,x,hI,hO,hP,hu=>by
   rw[lenF]
   by_cases hs:sylP (x:Int)=true
   ·rw[if_pos hs]
    refine⟨hI,.inr ⟨_,EndA.syl hs,?_⟩⟩
    have:(partsP (x-44032)).length≤3:=by unfold partsP;split <;> simp
    simp only
    omega
   ·have hs':sylP (x:Int)=false:=by simpa using hs
    rw[if_neg hs]
    cases hd:ds x with
    | none=>exact⟨hI,.inr ⟨1,EndA.ofN hs' hd,rfl⟩⟩
    | some own =>
      simp only
      cases hl:le x with
      | some v =>
        simp only
        refine⟨hI,?_⟩
        rcases hI x v hl with ⟨h1,h2⟩|h|h
        ·exact .inl ⟨h1,(hP x h2).ring⟩
        ·exact .inl h
        ·exact .inr h
      | none =>
        simp only
        have hu2:=unk_upd L (hL x (by rw[hd];rfl)) hl (-1)
        have key:=lenL_spec (ds:=ds) (L:=L) (f:=f) (x:=x) (P:=x::P) (fun le y a b c d=>lenF_spec ds L hL f (x::P) le y a b c d) own 0 0 (updN le x (-1)) rfl (hI.upd x) (hO.upd (by omega) (by omega))
         (fun y hy p hp=>by
          rcases List.mem_cons.1 hp with rfl|hp
          ·exact .one hs' hd hy
          ·exact .more (hP p hp) hs' hd hy) (by omega)
        rcases key with ⟨q1,q2,y,hy,q3⟩|⟨n,le',q1,q2,q3⟩
        ·have:=NoEnd.up hs' hd hy q3
         exact⟨q2.ring this,.inl ⟨q1,this⟩⟩
        ·have:=EndA.ofL hs' hd q1
         rw[q2,Nat.zero_add]
         exact⟨q3.done this rfl,.inr ⟨n,this,rfl⟩⟩
def FineD (ds:DsT) (x:Nat):Prop:=∃n,EndA ds x n∧n≤8
theorem FineD.not1 {ds:DsT} {x:Nat} (h:FineD ds x):¬NoEnd ds x:=by
 obtain⟨n,h,_⟩:=h
 exact h.not
theorem FineD.not2 {ds:DsT} {x n:Nat} (h:FineD ds x) (h2:EndA ds x n) (h8:8<n):False:=by
 obtain⟨m,h,hm⟩:=h
 have:=h.uniq h2
 omega
def BadN (ds:DsT) (x no:Nat):Prop:=(NoEnd ds x∧no=14)∨((∃n,EndA ds x n∧8<n)∧no=5)
theorem BadN.uniq {ds:DsT} {x a b:Nat} (h:BadN ds x a) (h2:BadN ds x b):a=b:=by
 rcases h with ⟨h,e⟩|⟨⟨n,h,_⟩,e⟩ <;> rcases h2 with ⟨h2,e2⟩|⟨⟨m,h2,_⟩,e2⟩
 ·omega
 ·exact absurd h h2.not
 ·exact absurd h2 h.not
 ·omega
theorem BadN.not {ds:DsT} {x a:Nat} (h:BadN ds x a):¬FineD ds x:=fun hf=>by
 rcases h with ⟨h,_⟩|⟨⟨n,h,h8⟩,_⟩
 ·exact hf.not1 h
 ·exact hf.not2 h h8
theorem BadN.ne {ds:DsT} {x a:Nat} (h:BadN ds x a):a≠0:=by
 rcases h with ⟨_,h⟩|⟨_,h⟩ <;> omega
theorem ringP_spec (S:RdS) (L0:List Nat) (f:Nat) (hL:∀y,(S.ds y).isSome=true→y∈L0) (hf:L0.length<f):∀(L:List Nat) (le:LeT),LeInv S.ds [] le→LeOk le →
 (ringP S f L le=(0,0)∧∀x∈L,FineD S.ds x)∨∃a x b no,L=a++x::b∧(∀y∈a,FineD S.ds y)∧BadN S.ds x no∧ringP S f L le=(no,(S.ls x).getD 0)
 | [],le,_,_=>.inl ⟨rfl,fun x h=>by cases h⟩
 | x::t,le,hI,hO=>by
   have hu:unk L0 le<f:=Nat.lt_of_le_of_lt (List.length_filter_le _ _) hf
   obtain⟨h1,h2⟩:=lenF_spec S.ds L0 hL f [] le x hI hO (fun p hp=>by cases hp) hu
   have h3:=(lenF_ok S.ds f le x hO).2.1
   rw[ringP]
   rcases h2 with ⟨h2,h4⟩|⟨n,h4,h5⟩
   ·have e:endN (lenF S.ds f le x).1=14:=by rw[h2];rfl
    rw[e,if_pos (by decide)]
    exact .inr ⟨[],x,t,14,rfl,fun y h=>(by cases h),.inl ⟨h4,rfl⟩,rfl⟩
   ·by_cases h8:8<n
    ·have e:endN (lenF S.ds f le x).1=5:=by rw[h5];unfold endN;rw[if_neg (by omega),if_pos (by omega)]
     rw[e,if_pos (by decide)]
     exact .inr ⟨[],x,t,5,rfl,fun y h=>(by cases h),.inr ⟨⟨n,h4,h8⟩,rfl⟩,rfl⟩
    ·have e:endN (lenF S.ds f le x).1=0:=by rw[h5];unfold endN;rw[if_neg (by omega),if_neg (by omega)]
     rw[e,if_neg (by decide)]
     have hx:FineD S.ds x:=⟨n,h4,by omega⟩
     rcases ringP_spec S L0 f hL hf t _ h1 h3 with ⟨q1,q2⟩|⟨a,y,b,no,rfl,q2,q3,q4⟩
     ·refine .inl ⟨q1,fun y hy=>?_⟩
      rcases List.mem_cons.1 hy with rfl|hy
      ·exact hx
      ·exact q2 y hy
     ·refine .inr ⟨x::a,y,b,no,rfl,fun z hz=>?_,q3,q4⟩
      rcases List.mem_cons.1 hz with rfl|hz
      ·exact hx
      ·exact q2 z hz
theorem leInv_none (ds:DsT):LeInv ds [] fun _=>none:=fun _ _ h=>by cases h
theorem leOk_none:LeOk fun _=>none:=fun _ _ h=>by cases h
end Go.Proofs.YtgpbaeehajkebaaGreatDoor
namespace Go.Proofs.YtgpbaeehajkebaaGreatDoor
open Go Go.RowKit Go.Kt Go.Kt.Rg Go.Maps
abbrev Ln3:=Nat × List Nat × Nat
def LfW (w:World) (v:Value) (l:List Ln3):Prop :=
 ∃ao cp,v = .slice ao l.length cp∧(l=[]∨∃g,ao=some ⟨g,0,none⟩∧∀(i:Nat) (r:Ln3),l[i]? = some r→w.cell? ⟨g,i*3,none⟩=some (.int .i64 r.1)∧(∃v,w.cell? ⟨g,i*3+1,none⟩=some v∧Sl .i32 w v (toZ r.2.1))∧w.cell? ⟨g,i*3+2,none⟩=some (.int .i64 r.2.2))
theorem LfW.below {v:Value} {l:List Ln3} {A B:World} (h:LfW A v l) (hb:Below A.heap.size A B):LfW B v l:=by
 obtain⟨ao,cp,rfl,h⟩:=h
 refine⟨ao,cp,rfl,?_⟩
 rcases h with h|⟨g,e,h⟩
 ·exact .inl h
 ·refine .inr ⟨g,e,fun i r hr=>?_⟩
  obtain⟨h1,⟨u,h2,h3⟩,h4⟩:=h i r hr
  exact⟨(hb.cell (lt_of_cell h1)).trans h1,⟨u,(hb.cell (lt_of_cell h2)).trans h2,h3.below hb⟩,(hb.cell (lt_of_cell h4)).trans h4⟩
def spkL (l:List Ln3) (n:Int):Bool:=l.any fun x=>(x.1:Int)==n
end Go.Proofs.YtgpbaeehajkebaaGreatDoor
namespace Go.Proofs.YtgpbaeehajkebaaGreatDoor
open Go Go.RowKit Go.Kt Go.Kt.Rg Go.Maps
def ZnO (H:Nat) (v:Value) (l:List Int) (W:World):Prop:=OwnS (fun b=>H≤b) 21 1 v l.length (encZ l) W
theorem zno_nil (H:Nat) (W:World):ZnO H (.slice none 0 0) [] W:=own_nil _ _ _ _
theorem ZnO.below {H:Nat} {v:Value} {l:List Int} {A B:World} (h:ZnO H v l A) (hb:Below A.heap.size A B):ZnO H v l B:=OwnS.keep h (Keep.of_all hb) (fun _ h=>False.elim h)
theorem ZnO.app {H:Nat} {v:Value} {l:List Int} {W:World} (h:ZnO H v l W) (hz:H≤W.heap.size) (hn:l.length≤1048576) (x:Int) :
 ∃v' W',(∀ty,(Builtin.append_ #[78,78] ty #[v,.slice (some ⟨W.heap.size,0,none⟩) 1 1]).run Tryz.prog (W.alloc (.cells #[.int .i32 x] 21)) = .ok v' W')∧ZnO H v' (l++[x]) W'∧Below H W W':=by
 obtain⟨g,cap,w3,hrun,hown3,hk3,hg3,hz3⟩:=append_x (P:=Tryz.prog) W 78 21 Tryz.underlying78 tinfoI32 rfl (by omega) h [.int .i32 x] rfl
  (by intro u hu;simp at hu;subst hu;rfl) (by unfold maxLen;omega) (by omega)
 have hgg:H≤g:=by
  rcases hg3 with hx|hx
  ·exact h.2 _ hx
  ·omega
 refine⟨_,w3,hrun,?_,hk3.below hz (fun b hb=>h.2 b hb)⟩
 have e:encZ (l++[x])=encZ l++[.int .i32 x]:=by simp[encZ]
 unfold ZnO
 rw[e,List.length_append]
 exact hown3.weaken (fun b hb=>by subst hb;exact hgg)
set_option maxRecDepth 100000 in
set_option maxHeartbeats 4000000 in
theorem ycopy (l:List Int) (sv:Value) (w:World) (hS:Sl .i32 w sv l) (hn:l.length≤1048576) :
 Calls Tryz.prog 111 #[sv] w fun e w'=>∃v,e = .returned v∧ZnO w.heap.size v l w'∧Below w.heap.size w w':=by
 obtain⟨ao,cp,rfl,hc⟩:=hS
 obtain⟨n,hln⟩:∃n,l.length=n:=⟨_,rfl⟩
 rw[hln] at hn ⊢
 have HC:=Lib.hid (And.intro hc hln)
 clear hc hln
 go_enter Tryz.func111,Tryz.ntmps111
 go_wp2_with fail
 go_loopw [3,4] (fun u x wr=>∃k:Nat,x = .int .i64 (k:Nat)∧k≤n∧Hid (ZnO w.heap.size u (l.take k) wr∧Below w.heap.size w wr)) (fun _ x _=>n-(RowKit.intOf x).toNat)
 case atStart=>exact⟨0,rfl,Nat.zero_le _,Lib.hid ⟨zno_nil _ _,Below.refl _ _⟩⟩
 case round =>
  obtain⟨k,rfl,hk,H⟩:=hrel
  by_cases hlt:k<n
  ·have e1:(k:Int)<n:=by omega
   have hk0:(0:Int)≤(k:Int):=by omega
   have hk1:IntKind.i64.wrap ((k:Int)+1)=((k+1:Nat):Int):=by rw[IntWalk.i64_in _ (by omega)];omega
   obtain⟨x,hx⟩:∃x,l[k]? = some x:=⟨_,List.getElem?_eq_getElem (by rw[HC.out.2];omega)⟩
   obtain⟨g,off,rfl,c0⟩:∃g off,ao=some ⟨g,off,none⟩∧w.cell? ⟨g,off+k,none⟩=some (.int .i32 x):=by
    rcases HC.out.1 with h|⟨g,off,e,h⟩
    ·rw[h] at hx;cases hx
    ·exact⟨g,off,e,h k _ hx⟩
   have d0:=(H.out.2.cell (lt_of_cell c0)).trans c0
   obtain⟨v',W',hrun,hz',hb'⟩:=H.out.1.app H.out.2.size (by rw[List.length_take];omega) x
   have ht:l.take (k+1)=l.take k++[x]:=by rw[List.take_add_one,hx];rfl
   rw[←ht] at hz'
   have HRun:=Lib.hid hrun
   have HB:=Lib.hid (And.intro hz' (H.out.2.trans hb'))
   clear hrun hz' hb' ht hx c0 hlt
   go_wp2_with (first|(at_builtin;refine wpList_append_eq rfl rfl rfl rfl HRun.out ?_;clear HRun)|fail)
   go_roundw
   case rel=>exact⟨k+1,by go_num,by omega,Lib.hid ⟨HB.out.1,HB.out.2⟩⟩
   case measure=>simp[RowKit.intOf];omega
  ·have e1:¬(k:Int)<n:=by omega
   have hz:=H.out.1
   rw[List.take_of_length_le (by rw[HC.out.2];omega)] at hz
   have HB:=Lib.hid hz
   clear hlt hz
   go_wp2
   go_ret
   exact⟨_,rfl,HB.out,H.out.2⟩
end Go.Proofs.YtgpbaeehajkebaaGreatDoor
namespace Go.Proofs.YtgpbaeehajkebaaGreatDoor
open Go Go.RowKit Go.Kt Go.Kt.Rg Go.Maps
theorem ZnO.sl {H:Nat} {v:Value} {l:List Int} {w:World} (ho:ZnO H v l w):Sl .i32 w v l:=by
 rcases OwnS.shape ho with ⟨hv,h0⟩|⟨gb,cap,hv,hg,hgl⟩
 ·exact⟨none,0,by rw[hv,h0],.inl (List.length_eq_zero_iff.1 h0)⟩
 ·subst hv
  refine⟨_,cap,rfl,.inr ⟨gb,0,rfl,fun i x hx=>?_⟩⟩
  rw[Nat.zero_add]
  refine OwnS.at0 ho (i:=i) ?_
  simp[encZ,List.getElem?_map,hx]
def ofL (l:List Ln3) (r:Int):Option (List Nat):=(l.find? fun x=>(x.1:Int)==r).map (·.2.1)
theorem ofL_cons (x:Ln3) (t:List Ln3) (r:Int):ofL (x::t) r=if (x.1:Int)=r then some x.2.1 else ofL t r:=by
 unfold ofL
 rw[List.find?_cons]
 by_cases h:(x.1:Int)=r
 ·rw[if_pos h]
  have:((x.1:Int)==r)=true:=by simpa using h
  rw[this];rfl
 ·rw[if_neg h]
  have:((x.1:Int)==r)=false:=by simpa using h
  rw[this]
def xfldV (l:List Ln3) (r:Int):List Int:=match ofL l r with
 | some t=>toZ t
 | none=>[r]
theorem LfW.at {w:World} {ao:Option Addr} {n cp:Nat} {l:List Ln3} (h:LfW w (.slice ao n cp) l) {k:Nat} {x:Ln3} (hx:l[k]? = some x) :
 ∃g v,ao=some ⟨g,0,none⟩∧w.cell? ⟨g,k*3,none⟩=some (.int .i64 (x.1:Nat))∧w.cell? ⟨g,k*3+1,none⟩=some v∧Sl .i32 w v (toZ x.2.1):=by
 obtain⟨ao',cp',e,hc⟩:=h
 cases e
 rcases hc with h|⟨g,e,h⟩
 ·rw[h] at hx;cases hx
 ·obtain⟨h1,⟨v,h2,h3⟩,_⟩:=h k x hx
  exact⟨g,v,e,h1,h2,h3⟩
end Go.Proofs.YtgpbaeehajkebaaGreatDoor
namespace Go.Proofs.YtgpbaeehajkebaaGreatDoor
open Go Go.RowKit Go.Kt Go.Kt.Rg Go.Maps
section
variable {B0:Nat} {ρ:Nat→Nat} {R:RdB} {line n m:Nat} {S:RdS} {cv kv:Value} {w w':World}
theorem RdW.keep9 {X:Nat→Prop} (h:RdW B0 ρ R line n m S cv kv w) (hk:Keep X w w') (hX:∀b,X b→ρ b=9):RdW B0 ρ R line n m S cv kv w' where
 hr:=h.hr
 hB:=Nat.le_trans h.hB hk.size
 g:=h.g
 cell:=hk.heap h.cell (fun e=>by have:=hX _ e;have:=h.g;omega)
 c:=h.c.keep hk (fun b hb hy=>by have:=hX b hb;have hy:ρ b=2:=hy;omega)
 k:=h.k.keep hk (fun b hb hy=>by have:=hX b hb;have hy:ρ b=3:=hy;omega)
 d:=h.d.keep hk (fun b hb=>by have:=hX b hb;omega)
 f:=h.f.keep hk (fun b hb=>by have:=hX b hb;omega)
 l:=⟨h.l.1,h.l.2.keep hk (fun e=>by have:=hX _ e;have:=h.l.1;omega)⟩
 e:=⟨h.e.1,h.e.2.keep hk (fun e=>by have:=hX _ e;have:=h.e.1;omega)⟩
 s:=⟨h.s.1,h.s.2.keep hk (fun e=>by have:=hX _ e;have:=h.s.1;omega)⟩
theorem RdW.setline (h:RdW B0 ρ R line n m S cv kv w) (l2:Nat):RdW B0 ρ R l2 n m S cv kv (w.setCell ⟨R.g,1,none⟩ (.int .i64 (l2:Nat)))∧Keep (fun b=>b=R.g) w (w.setCell ⟨R.g,1,none⟩ (.int .i64 (l2:Nat))):=by
 have hk:Keep (fun b=>b=R.g) w (w.setCell ⟨R.g,1,none⟩ (.int .i64 (l2:Nat))):=Keep.setCell (X:=fun b=>b=R.g) (p:=⟨R.g,1,none⟩) (Keep.refl _ _) rfl _
 have hg:=h.g
 refine⟨{
  hr:=h.hr,hB:=Nat.le_trans h.hB hk.size,g:=h.g
  cell:=by
   have:=heap_setCell_same w R.g 1 _ _ (.int .i64 (l2:Nat)) h.cell
   simpa [cellsR] using this
  c:=h.c.keep hk (fun b hb hy=>by subst hb;have hy:ρ R.g=2:=hy;omega)
  k:=h.k.keep hk (fun b hb hy=>by subst hb;have hy:ρ R.g=3:=hy;omega)
  d:=h.d.keep hk (fun b hb=>by subst hb;omega)
  f:=h.f.keep hk (fun b hb=>by subst hb;omega)
  l:=⟨h.l.1,h.l.2.keep hk (fun e=>by have:=h.l.1;rw[e] at this;omega)⟩
  e:=⟨h.e.1,h.e.2.keep hk (fun e=>by have:=h.e.1;rw[e] at this;omega)⟩
  s:=⟨h.s.1,h.s.2.keep hk (fun e=>by have:=h.s.1;rw[e] at this;omega)⟩ },hk⟩
theorem RdW.recast (h:RdW B0 ρ R line n m S cv kv w) (ρ':Nat→Nat) (e:∀b,b<w.heap.size→ρ' b=ρ b):RdW B0 ρ' R line n m S cv kv w :=
 h.role e (fun _ hb _=>Nat.le_trans h.hB hb)
end
set_option maxRecDepth 100000 in
theorem RdW.lnl {B0:Nat} {ρ:Nat→Nat} {R:RdB} {line n m:Nat} {S:RdS} {cv kv:Value} {w:World} (h:RdW B0 ρ R line n m S cv kv w) {x ln:Nat} (hx:x≤1114111) (hl:S.ls x=some ln) :
 (Instr.lookup 71 (.map (some R.bl)) (.int .i32 (x:Nat)) false).run Tryz.prog w = .ok (.int .i64 (ln:Nat)) w:=by
 have hkey:keyOf Tryz.prog 21 (.int .i32 (x:Nat))=some (.int .i32 (x:Nat)):=keyOf_int_mk Tryz.underlying21 (WalkArith.wf_i32 (n:=(x:Int)) ⟨by omega,by omega⟩)
 have h1:=h.l.2.look1 (int_keyed Tryz.underlying21) Tryz.underlying71 (z:=.int .i64 0) rfl hkey
 rw[ptF_at,lsV,hl] at h1
 exact h1
theorem results_cc {P:Program} {fn:Func} {p q:Tmp} {t1 t2:TypeId} (h:fn.results = #[.cell p t1,.cell q t2]) (tmps:Array Value) (w:World) (g1 g2:Nat) (v1 v2:Value)
 (hp:tmps.getD p undef = .pointer (some ⟨g1,0,none⟩)) (hg:w.cell? ⟨g1,0,none⟩=some v1) (ha:∀w,(isAgg t1).run P w = .ok false w)
 (hp2:tmps.getD q undef = .pointer (some ⟨g2,0,none⟩)) (hg2:w.cell? ⟨g2,0,none⟩=some v2) (ha2:∀w,(isAgg t2).run P w = .ok false w) :
 (results fn tmps).run P w = .ok (.tuple #[v1,v2]) w:=by
 have hp':tmps[p]?.getD undef = .pointer (some ⟨g1,0,none⟩):=by simpa using hp
 have hp2':tmps[q]?.getD undef = .pointer (some ⟨g2,0,none⟩):=by simpa using hp2
 simp[results,h,hp',hp2',asAddr,loadVar,ha,hg,ha2,hg2]
theorem exec_lookup {P:Program} {o:Oper} {a:Act} {w w':World} {t:TypeId} {m k:Operand} {b:Bool} {u0 u1 v:Value} (ho:o.op = .lookup t m k b) (hm:a.eval m=u0) (hk:a.eval k=u1) (h:(Instr.lookup t u0 u1 b).run P w = .ok v w'):(execOp a.eval o).run P w = .ok (.value v) w':=by
 unfold execOp;rw[ho];simp only[hm,hk];exact run_val h
def errP (no line:Nat):Value:=if line=0 then .iface 62 (.int .i64 (no:Nat)) else .iface 111 (.agg #[.int .i64 (no:Nat),.int .i64 (line:Nat),.int .i64 0])
def ParseR (l:List UInt8) (no line:Nat) (S:RdS) (L:List Nat):Prop :=
 ((1048576<l.length∨65536<lnC l)∧no=5∧line=0) ∨
 (¬(1048576<l.length∨65536<lnC l)∧(readP 0 rd0 (linesP l)).1≠0∧no=(readP 0 rd0 (linesP l)).1∧line=(readP 0 rd0 (linesP l)).2.1) ∨
 (¬(1048576<l.length∨65536<lnC l)∧(readP 0 rd0 (linesP l)).1=0∧S=(readP 0 rd0 (linesP l)).2.2∧L.Pairwise (· < ·)∧(∀x,x∈L↔(S.ds x).isSome=true)∧no=(ringP S (L.length+1) L (fun _=>none)).1∧line=(ringP S (L.length+1) L (fun _=>none)).2)
theorem rd_le_none {S:RdS} (h:S.le=fun _=>none):({ S with le:=fun _=>none }:RdS)=S:=by
 rw[←h]
def Alien (w:World) (b:Nat):Prop:=(∀o k x,w.cell? ⟨b,o,none⟩≠some (.int k x))∧(∀es c,w.heap[b]?≠some (.map es c))∧∀cs,w.heap[b]?≠some (.cells cs 120 (0,0))
theorem RunV.alien {X:Nat→Prop} {w w':World} {v:Value} {L:List (Nat × Int)} (h:RunV w v L) (hk:Keep X w w') (hX:∀b,X b→Alien w b):RunV w' v L:=by
 obtain⟨ao,cp,rfl,h⟩:=h
 refine⟨ao,cp,rfl,?_⟩
 rcases h with h|⟨g,e,h⟩
 ·exact .inl h
 ·refine .inr ⟨g,e,fun i r hr=>⟨hk.cell (h i r hr).1 (fun hx=>(hX _ hx).1 _ _ _ (h i r hr).1),hk.cell (h i r hr).2 (fun hx=>(hX _ hx).1 _ _ _ (h i r hr).2)⟩⟩
theorem MapG.alien {P:Program} {k:TypeId} {b n:Nat} {f:Lit→Option Value} {X:Nat→Prop} {w w':World} (h:MapG P k b n f w) (hk:Keep X w w') (hX:∀b,X b→Alien w b):MapG P k b n f w' :=
 h.keep hk (fun hx=>by
  obtain⟨D,⟨es,clock,h1,_⟩,_⟩:=h
  exact (hX _ hx).2.1 _ _ h1)
theorem DecM.alien {ρ:Nat→Nat} {k B n:Nat} {d:Nat→Option (List Nat)} {X:Nat→Prop} {w w':World} (h:DecM ρ k B n d w) (hk:Keep X w w') (hX:∀b,X b→Alien w b):DecM ρ k B n d w':=by
 obtain⟨h0,vs,h1,h2,h3⟩:=h
 refine⟨h0,vs,MapG.alien h1 hk hX,h2,fun x v l hv hl=>?_⟩
 obtain⟨b,off,cap,rfl,a1,a2,a3,a4,a5⟩:=h3 x v l hv hl
 exact⟨b,off,cap,rfl,a1,a2,a3,Nat.lt_of_lt_of_le a4 hk.size,fun i y hy=>hk.cell (a5 i y hy) (fun hx=>(hX _ hx).1 _ _ _ (a5 i y hy))⟩
theorem PrW.alien {g:Nat} {S:RdS} {md:MdT} {X:Nat→Prop} {w w':World} (h:PrW g S md w) (hk:Keep X w w') (hX:∀b,X b→Alien w b):PrW g S md w':=by
 obtain⟨B,h⟩:=h
 refine⟨B,{ cell:=hk.heap h.cell (fun hx=>(hX _ hx).2.2 _ h.cell),c:=h.c.alien hk hX,k:=h.k.alien hk hX,cp:=h.cp,kp:=h.kp,d:=h.d.alien hk hX,f:=h.f.alien hk hX,m:=?_ }⟩
 obtain⟨f,m1,m2⟩:=h.m
 exact⟨f,MapG.alien m1 hk hX,m2⟩
theorem PrW.le {g:Nat} {S:RdS} {le:LeT} {L:List Nat} {w:World} (h:PrW g { S with le:=le } (mdOf { S with le:=le } L) w):PrW g S (mdOf S L) w:=by
 obtain⟨B,h⟩:=h
 exact⟨B,{ cell:=h.cell,c:=h.c,k:=h.k,cp:=h.cp,kp:=h.kp,d:=h.d,f:=h.f,m:=h.m }⟩
theorem alien_one {w:World} {b:Nat} {v:Value} {T:TypeId} (h:w.heap[b]? = some (.cells #[v] T (0,0))) (hT:T≠120) (hv:∀k x,v≠.int k x):Alien w b:=by
 refine⟨fun o k x e=>?_,fun es c e=>(by rw[h] at e;cases e),fun cs e=>(by rw[h] at e;cases e;exact hT rfl)⟩
 rw[Lib.cell_of_heap h] at e
 cases o with
 | zero=>exact hv k x (by simpa using e)
 | succ o=>simp at e
theorem alien_def {w:World} {b:Nat} {q:Option (List Deferred)} (h:w.heap[b]? = some (.deferred q)):Alien w b:=by
 refine⟨fun o k x e=>?_,fun es c e=>(by rw[h] at e;cases e),fun cs e=>(by rw[h] at e;cases e)⟩
 simp[World.cell?,h] at e
theorem unk_len (L:List Nat) (le:LeT):unk L le≤L.length:=by
 unfold unk
 exact List.length_filter_le _ _
theorem ringP_snoc {S:RdS} {f:Nat} {L:List Nat} {le:LeT} {i x:Nat} (hx:L[i]? = some x) (h:(ringP S f (L.take i) le).1=0) :
 ringP S f (L.take (i+1)) le=if endN (lenF S.ds f (ringL S f (L.take i) le) x).1≠0 then (endN (lenF S.ds f (ringL S f (L.take i) le) x).1,(S.ls x).getD 0) else (0,0):=by
 rw[List.take_add_one,hx]
 simp only[Option.toList_some]
 rw[ringP_append,if_neg (by rw[h];simp),ringP]
 split <;> rfl
theorem ringL_snoc {S:RdS} {f:Nat} {L:List Nat} {le:LeT} {i x:Nat} (hx:L[i]? = some x):ringL S f (L.take (i+1)) le=(lenF S.ds f (ringL S f (L.take i) le) x).2:=by
 rw[List.take_add_one,hx]
 simp only[Option.toList_some]
 have:∀(a:List Nat) (le:LeT),ringL S f (a++[x]) le=(lenF S.ds f (ringL S f a le) x).2:=by
  intro a
  induction a with
  | nil=>intro le;rfl
  | cons y t ih=>intro le;rw[List.cons_append,ringL,ringL];exact ih _
 exact this _ _
theorem ringP_bad {S:RdS} {f:Nat} {L:List Nat} {le:LeT} {i x no:Nat} (hx:L[i]? = some x) (h:(ringP S f (L.take i) le).1=0) (hn:endN (lenF S.ds f (ringL S f (L.take i) le) x).1=no) (h0:no≠0) :
 ringP S f L le=(no,(S.ls x).getD 0):=by
 have h1:ringP S f (L.take (i+1)) le=(no,(S.ls x).getD 0):=by rw[ringP_snoc hx h,hn,if_pos h0]
 have h2:L=L.take (i+1)++L.drop (i+1):=(List.take_append_drop _ _).symm
 conv=>lhs;rw[h2]
 rw[ringP_append,h1]
 simp only[ne_eq,h0,not_false_eq_true,if_true]
def RingI (B0:Nat) (ρ:Nat→Nat) (R:RdB) (n N:Nat) (L:List Nat) (S:RdS) (cv kv:Value) (W4:World) (i:Nat) (wr:World):Prop :=
 ∃line m,RdW B0 ρ R line n m { S with le:=ringL S (N+1) (L.take i) fun _=>none } cv kv wr∧(ringP S (N+1) (L.take i) fun _=>none).1=0∧LeOk (ringL S (N+1) (L.take i) fun _=>none)∧m+2*unk L (ringL S (N+1) (L.take i) fun _=>none)≤2*N∧Keep (fun b=>b=R.g∨b=R.bn) W4 wr
def ParseO (l:List UInt8) (w:World) (e:Ending) (w':World):Prop :=
 ∃no line S L,ParseR l no line S L∧Below w.heap.size w w'∧((no=0∧∃g,e = .returned (.tuple #[.pointer (some ⟨g,0,none⟩),.nilIface])∧PrW g S (mdOf S L) w')∨(no≠0∧e = .returned (.tuple #[.pointer none,errP no line])))
def RoleP (B0 H2 bs HL:Nat) (ρ:Nat→Nat) (Y:Nat→Prop):Prop:=(∀b,¬Y b→(b=bs∨HL≤b)→ρ b=9)∧∀b,b<HL→ρ b≠0→ρ b≠9→B0≤b∧b<H2
def ResC (r2:Nat) (W:World):Prop:=W.heap[r2]? = some (.cells #[.pointer none] 22 (0,0))∧W.heap[r2+1]? = some (.cells #[.nilIface] 40 (0,0))
theorem ResC.keep {r2:Nat} {X:Nat→Prop} {W W':World} (h:ResC r2 W) (hk:Keep X W W') (h1:¬X r2) (h2:¬X (r2+1)):ResC r2 W':=⟨hk.heap h.1 h1,hk.heap h.2 h2⟩
def LineI (r2 B0 H2 bs HL:Nat) (R:RdB) (pre:List (List UInt8)) (Y:Nat→Prop) (W:World):Prop :=
 ∃ρ cv kv S,RdW B0 ρ R pre.length (2*pre.length) 0 S cv kv W∧readP 0 rd0 pre=(0,pre.length,S)∧RoleP B0 H2 bs HL ρ Y∧ResC r2 W
def LineX (r2 r3:Nat) (all:List (List UInt8)) (c:Code) (_pre:List (List UInt8)) (_Y:Nat→Prop) (W:World):Prop :=
 c = .ret∧(readP 0 rd0 all).1≠0∧(readP 0 rd0 all).2.1≠0∧W.heap[r2]? = some (.cells #[.pointer none] 22 (0,0))∧W.heap[r3]? = some (.cells #[errP (readP 0 rd0 all).1 (readP 0 rd0 all).2.1] 40 (0,0))
theorem LineI.low {r2 B0 H2 bs HL:Nat} {R:RdB} (h1:r2+1<HL) (h2:r2+1<bs):LowZ (fun b=>b=bs) HL (LineI r2 B0 H2 bs HL R):=fun pre Y W W' hk ⟨ρ,cv,kv,S,a1,a2,a3,a4⟩ =>
 ⟨ρ,cv,kv,S,a1.keep9 hk (fun b hb=>a3.1 b hb.2 hb.1),a2,a3,a4.keep hk (fun h=>by have:=hk.size;rcases h.1 with h|h <;> omega) (fun h=>by rcases h.1 with h|h <;> omega)⟩
theorem LineI.slim {r2 B0 H2 bs HL:Nat} {R:RdB}:Slim (LineI r2 B0 H2 bs HL R):=fun pre Y W ⟨ρ,cv,kv,S,h1,h2,h3,h4⟩=>by
 refine⟨moreR W ρ 9,cv,kv,S,h1.role_more 9,h2,⟨fun b hb hbs=>?_,fun b hb h0 h9=>?_⟩,h4⟩
 ·by_cases e:b<W.heap.size
  ·rw[moreR_old b e]
   exact h3.1 b (fun hy=>hb ⟨hy,e⟩) hbs
  ·exact moreR_new b (by omega)
 ·by_cases e:b<W.heap.size
  ·rw[moreR_old b e] at h0 h9
   exact h3.2 b hb h0 h9
  ·exact absurd (moreR_new b (by omega)) h9
theorem readP_snoc {pre:List (List UInt8)} {S:RdS} (h:readP 0 rd0 pre=(0,pre.length,S)) (x:List UInt8):readP 0 rd0 (pre++[x])=if (takeP (pre.length+1) S (wrdP x)).1≠0 then ((takeP (pre.length+1) S (wrdP x)).1,pre.length+1,S) else (0,pre.length+1,(takeP (pre.length+1) S (wrdP x)).2):=by
 rw[readP_append,h]
 simp only[ne_eq,not_true_eq_false,if_false]
 rw[readP]
 split <;> rfl
theorem readP_bad {pre t:List (List UInt8)} {S:RdS} {x:List UInt8} (h:readP 0 rd0 pre=(0,pre.length,S)) (hn:(takeP (pre.length+1) S (wrdP x)).1≠0):readP 0 rd0 (pre++[x]++t)=((takeP (pre.length+1) S (wrdP x)).1,pre.length+1,S):=by
 rw[readP_append,readP_snoc h,if_pos hn]
 simp only[ne_eq,hn,not_false_eq_true,if_true]
end Go.Proofs.YtgpbaeehajkebaaGreatDoor
