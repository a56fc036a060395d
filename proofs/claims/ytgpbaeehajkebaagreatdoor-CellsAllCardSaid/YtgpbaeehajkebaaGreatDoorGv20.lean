/- Parts of the proof of what the last text says. -/
import Derived.Test.YtgpbaeehajkebaaGreatDoorGv18
import Derived.Test.YtgpbaeehajkebaaGreatDoorGv9
import Derived.Test.YtgpbaeehajkebaaGreatDoorGv17
import Derived.Test.YtgpbaeehajkebaaGreatDoorGv19
import Derived.Test.YtgpbaeehajkebaaGreatDoorGv3
import Derived.OwnWalk
namespace Go.Proofs.YtgpbaeehajkebaaGreatDoor
open Go Go.RowKit Go.Kt

def celD (S:RdS) (s:ByteArray) (f k:Nat):List (Nat × Nat):=segs S s f (untP S s (pos s k)) ((units s).drop (k+1))
def edgK (S:RdS) (s:ByteArray) (k:Nat):Bool:=edgU (untP S s (pos s k)) (untP S s (pos s (k+1)))
theorem units_fst (s:ByteArray) (k:Nat) (h:k<(units s).length):(units s)[k].1=pos s k:=by
  obtain⟨hn,e⟩:=pos_in s k h
  rw[e]
  simp[PL_units]
theorem celD_end (S:RdS) (s:ByteArray) (f k:Nat) (h:(units s).length≤k+1):celD S s f k=[(f,s.size)]:=by
  unfold celD
  rw[List.drop_eq_nil_of_le h]
  rfl
theorem celD_step (S:RdS) (s:ByteArray) (f k:Nat) (h:k+1<(units s).length):celD S s f k=if edgK S s k=true then (f,pos s (k+1))::celD S s (pos s (k+1)) (k+1) else celD S s f (k+1):=by
  unfold celD edgK
  rw[List.drop_eq_getElem_cons h,segs,units_fst s (k+1) h]
theorem celL_D (S:RdS) (s:ByteArray) (hz:s.size≠0):celL S s=celD S s 0 0:=by
  obtain⟨x,r,hu,h0,hc⟩:=celL_segs S s hz
  rw[hc]
  unfold celD
  rw[pos_zero,hu]
  rfl
def Chn (s:ByteArray):Nat→List (Nat × Nat)→Prop
  | a,[]=>a=s.size
  | a,c::r=>c.1=a∧a<c.2∧c.2≤s.size∧a∈PL s∧Chn s c.2 r
theorem celD_chn (S:RdS) (s:ByteArray):∀(n f k:Nat),(units s).length≤k+n→k<(units s).length→f∈PL s→f≤pos s k→Chn s f (celD S s f k)
  | 0,_,_,h,hk,_,_=>by omega
  | n+1,f,k,h,hk,hf,hfk=>by
    have hlt:=pos_lt s k hk
    rcases Nat.lt_or_ge (k+1) (units s).length with h1|h1
    · rw[celD_step S s f k h1]
      have hst:=(pos_step s k hk).1
      have hlt1:=pos_lt s (k+1) h1
      split
      · exact⟨rfl,by show f<pos s (k+1);omega,by show pos s (k+1)≤s.size;omega,hf,celD_chn S s n _ (k+1) (by omega) h1 (pos_mem s (k+1) h1) (Nat.le_refl _)⟩
      · exact celD_chn S s n f (k+1) (by omega) h1 hf (by omega)
    · rw[celD_end S s f k h1]
      exact⟨rfl,by show f<s.size;omega,Nat.le_refl _,hf,rfl⟩
theorem units_pos (s:ByteArray) (hz:s.size≠0):0<(units s).length:=by
  obtain⟨x,r,hu,_⟩:=units_cons s hz
  rw[hu];simp
theorem celL_chn (S:RdS) (s:ByteArray):Chn s 0 (celL S s):=by
  by_cases hz:s.size=0
  · unfold celL
    rw[if_pos hz]
    exact hz.symm
  · rw[celL_D S s hz]
    have h0:=units_pos s hz
    have h1:=pos_mem s 0 h0
    rw[pos_zero] at h1
    exact celD_chn S s (units s).length 0 0 (by omega) h0 h1 (by rw[pos_zero];exact Nat.le_refl _)
theorem celD_mem (S:RdS) (s:ByteArray):∀(n f k:Nat),(units s).length≤k+n→k<(units s).length→∀j,((∃c∈celD S s f k,c.1=j∨c.2=j)↔(j=f∨j=s.size∨∃i,k≤i∧i+1<(units s).length∧pos s (i+1)=j∧edgK S s i=true))
  | 0,_,_,h,hk,_=>by omega
  | n+1,f,k,h,hk,j=>by
    rcases Nat.lt_or_ge (k+1) (units s).length with h1|h1
    · rw[celD_step S s f k h1]
      by_cases he:edgK S s k=true
      · rw[if_pos he]
        have ih:=celD_mem S s n (pos s (k+1)) (k+1) (by omega) h1 j
        constructor
        · rintro⟨c,hc,h9⟩
          rcases List.mem_cons.1 hc with rfl|hc
          · rcases h9 with h9|h9
            · exact .inl h9.symm
            · exact .inr (.inr ⟨k,Nat.le_refl _,h1,h9,he⟩)
          · rcases ih.1 ⟨c,hc,h9⟩ with h2|h2|⟨i,i1,i2,i3,i4⟩
            · exact .inr (.inr ⟨k,Nat.le_refl _,h1,h2.symm,he⟩)
            · exact .inr (.inl h2)
            · exact .inr (.inr ⟨i,by omega,i2,i3,i4⟩)
        · rintro (h2|h2|⟨i,i1,i2,i3,i4⟩)
          · exact⟨_,List.mem_cons_self ..,.inl h2.symm⟩
          · obtain⟨c,hc,h9⟩:=ih.2 (.inr (.inl h2))
            exact⟨c,List.mem_cons_of_mem _ hc,h9⟩
          · rcases Nat.eq_or_lt_of_le i1 with e|e
            · subst e
              exact⟨_,List.mem_cons_self ..,.inr i3⟩
            · obtain⟨c,hc,h9⟩:=ih.2 (.inr (.inr ⟨i,e,i2,i3,i4⟩))
              exact⟨c,List.mem_cons_of_mem _ hc,h9⟩
      · rw[if_neg he,celD_mem S s n f (k+1) (by omega) h1 j]
        constructor
        · rintro (h2|h2|⟨i,i1,i2,i3,i4⟩)
          · exact .inl h2
          · exact .inr (.inl h2)
          · exact .inr (.inr ⟨i,by omega,i2,i3,i4⟩)
        · rintro (h2|h2|⟨i,i1,i2,i3,i4⟩)
          · exact .inl h2
          · exact .inr (.inl h2)
          · rcases Nat.eq_or_lt_of_le i1 with e|e
            · subst e;exact absurd i4 he
            · exact .inr (.inr ⟨i,e,i2,i3,i4⟩)
    · rw[celD_end S s f k h1]
      constructor
      · rintro⟨c,hc,h9⟩
        obtain rfl:=List.mem_singleton.1 hc
        rcases h9 with h9|h9
        · exact .inl h9.symm
        · exact .inr (.inl h9.symm)
      · rintro (h2|h2|⟨i,i1,i2,i3,i4⟩)
        · exact⟨_,List.mem_singleton.2 rfl,.inl h2.symm⟩
        · exact⟨_,List.mem_singleton.2 rfl,.inr h2.symm⟩
        · omega
def cenB (l:List (Nat × Nat)) (j:Nat):Bool:=l.any fun c=>c.1==j||c.2==j
theorem cenB_iff (l:List (Nat × Nat)) (j:Nat):cenB l j=true↔∃c∈l,c.1=j∨c.2=j:=by simp[cenB]
theorem edge_ends (S:RdS) (s:ByteArray) (j:Nat) (hj:j≤s.size):edgP S s j=cenB (celL S s) j:=by
  by_cases hz:s.size=0
  · have h1:edgP S s j=false:=by
      have h:=edgP_ends S s j (.inl (by omega))
      rw[h,hz];rfl
    rw[h1]
    unfold celL
    rw[if_pos hz]
    rfl
  have key:edgP S s j=true↔cenB (celL S s) j=true:=by
    have h0:=units_pos s hz
    rw[cenB_iff,celL_D S s hz,celD_mem S s (units s).length 0 0 (by omega) h0 j]
    constructor
    · intro h
      by_cases h1:j=0
      · exact .inl h1
      by_cases h2:j=s.size
      · exact .inr (.inl h2)
      by_cases hm:j∈PL s
      · obtain⟨n,hn,e1,e2⟩:=unit_of s j (by omega)
        have e:pos s n=j:=by
          rcases Nat.eq_or_lt_of_le e1 with e|e
          · exact e
          · exfalso
            have hu:=units_pos s hz
            obtain⟨d1,d2,d3⟩:=dec_width s (pos s n) (pos_lt s n hn)
            have hsu:=pos_succ s n hn
            have hin:=in_char s (pos s n) (j-pos s n) (pos_lt s n hn) (by omega) (by omega)
            have hw:=(withP_iff s j (by omega)).2
            have:withP s j=true:=by
              have hb:j-pos s n=1∨j-pos s n=2∨j-pos s n=3:=by omega
              unfold withP
              simp only[Bool.or_eq_true,decide_eq_true_eq]
              have hd:∀k:Nat,j=pos s n+k→(k:Int)<(decP s ((j:Int)-k)).2:=fun k hk=>by
                rw[show (j:Int)-k=(pos s n:Int) by omega,decP_in s _ (pos_lt s n hn)]
                simp only
                omega
              rcases hb with hb|hb|hb
              · exact .inl (.inl (by simpa using hd 1 (by omega)))
              · exact .inl (.inr (by simpa using hd 2 (by omega)))
              · exact .inr (by simpa using hd 3 (by omega))
            exact absurd hm ((withP_iff s j (by omega)).1 this)
        have hn0:n≠0:=fun e9=>by rw[e9,pos_zero] at e;omega
        obtain⟨i,rfl⟩:∃i,n=i+1:=⟨n-1,by omega⟩
        refine .inr (.inr ⟨i,Nat.zero_le _,hn,e,?_⟩)
        rw[←e,edgP_unit S s i hn] at h
        exact h
      · rw[edgP_within S s j (by omega) (by omega) hm] at h
        cases h
    · rintro (h1|h1|⟨i,_,i2,i3,i4⟩)
      · rw[edgP_ends S s j (.inl (by omega))];simpa using hz
      · rw[edgP_ends S s j (.inr (by omega))];simpa using hz
      · rw[←i3,edgP_unit S s i i2];exact i4
  cases h1:edgP S s j <;> cases h2:cenB (celL S s) j
  · rfl
  · rw[h1,h2] at key;simp at key
  · rw[h1,h2] at key;simp at key
  · rfl
end Go.Proofs.YtgpbaeehajkebaaGreatDoor
namespace Go.Proofs.YtgpbaeehajkebaaGreatDoor
open Go Go.RowKit Go.Kt

structure DU where
  at':Nat
  r:Int
  bad:Bool
def duK (s:ByteArray) (k:Nat):DU:=⟨pos s k,(Utf8.decode s (pos s k)).1,decide ((Utf8.decode s (pos s k)).1=65533)&&decide ((Utf8.decode s (pos s k)).2=1)⟩
def docW (S:RdS) (u:DU):Int :=
  if u.bad=true∨u.r=13∨u.r=10∨kndV S u.r=5 then 1 else if hanK u.r=0 then 0 else hanK u.r+1
def docE (S:RdS) (a b:DU):Bool :=
  if a.r=13∧b.r=10 then false else if docW S a=1∨docW S b=1 then true else if kndV S b.r=3∨kndV S b.r=6∨0<clsV S b.r then false else if kndV S a.r=6 then false
  else if docW S a=2∧(docW S b=2∨docW S b=3∨docW S b=5∨docW S b=6) then false else if (docW S a=3∨docW S a=5)∧(docW S b=3∨docW S b=4) then false else if (docW S a=4∨docW S a=6)∧docW S b=4 then false else true
theorem unt_du (S:RdS) (s:ByteArray) (k:Nat) (hk:k<(units s).length):untP S s (pos s k)=if (duK s k).bad=true then ⟨65533,true,false,false,0⟩
    else ⟨(duK s k).r,decide ((duK s k).r=10)||decide ((duK s k).r=13)||decide (kndV S (duK s k).r=5),decide (kndV S (duK s k).r=3)||decide (kndV S (duK s k).r=6)||decide (0<clsV S (duK s k).r),decide (kndV S (duK s k).r=6),hanK (duK s k).r⟩:=by
  unfold untP duK
  rw[decP_in s _ (pos_lt s k hk)]
  simp only[Bool.and_eq_true,decide_eq_true_eq]
  by_cases h:(Utf8.decode s (pos s k)).1=65533∧(Utf8.decode s (pos s k)).2=1
  · rw[if_pos h,if_pos ⟨by omega,by omega⟩]
  · rw[if_neg h,if_neg (fun h9=>h ⟨by omega,by omega⟩)]
theorem du_bad (s:ByteArray) (k:Nat) (h:(duK s k).bad=true):(duK s k).r=65533:=by
  unfold duK at h ⊢
  simp only[Bool.and_eq_true,decide_eq_true_eq] at h ⊢
  omega
theorem docW_one (S:RdS) (u:DU):docW S u=1↔(u.bad=true∨u.r=13∨u.r=10∨kndV S u.r=5):=by
  unfold docW
  have h:=hanK_in u.r
  by_cases h1:u.bad=true∨u.r=13∨u.r=10∨kndV S u.r=5
  · rw[if_pos h1];exact⟨fun _=>h1,fun _=>rfl⟩
  · rw[if_neg h1]
    by_cases h2:hanK u.r=0
    · rw[if_pos h2];exact⟨fun h9=>absurd h9 (by decide),fun h9=>absurd h9 h1⟩
    · rw[if_neg h2];exact⟨fun h9=>by omega,fun h9=>absurd h9 h1⟩
theorem docE_han (x y:Int) (hx:0≤x∧x≤5) (hy:0≤y∧y≤5) :
    (if (if x=0 then 0 else x+1)=2∧((if y=0 then 0 else y+1)=2∨(if y=0 then 0 else y+1)=3∨(if y=0 then 0 else y+1)=5∨(if y=0 then 0 else y+1)=6) then false
      else if ((if x=0 then 0 else x+1)=3∨(if x=0 then 0 else x+1)=5)∧((if y=0 then 0 else y+1)=3∨(if y=0 then 0 else y+1)=4) then false
      else if ((if x=0 then 0 else x+1)=4∨(if x=0 then 0 else x+1)=6)∧(if y=0 then (0:Int) else y+1)=4 then false else true) = !oneS x y:=by
  have hx':x=0∨x=1∨x=2∨x=3∨x=4∨x=5:=by omega
  have hy':y=0∨y=1∨y=2∨y=3∨y=4∨y=5:=by omega
  rcases hx' with rfl|rfl|rfl|rfl|rfl|rfl <;> rcases hy' with rfl|rfl|rfl|rfl|rfl|rfl <;> decide
theorem docE_eq (S:RdS) (s:ByteArray) (k:Nat) (hk:k+1<(units s).length):docE S (duK s k) (duK s (k+1))=edgK S s k:=by
  unfold edgK
  rw[unt_du S s k (by omega),unt_du S s (k+1) hk]
  have b1:=du_bad s k
  have b2:=du_bad s (k+1)
  generalize duK s k=a at *
  generalize duK s (k+1)=b at *
  have ha:=docW_one S a
  have hb:=docW_one S b
  unfold docE edgU
  by_cases a1:a.bad=true
  · have ra:=b1 a1
    rw[if_pos a1,if_neg (by omega),if_pos (.inl (ha.2 (.inl a1))),if_neg (fun h=>by have:=h.1;simp at this)]
    simp
  by_cases a2:b.bad=true
  · have rb:=b2 a2
    rw[if_pos a2,if_neg (by omega),if_pos (.inr (hb.2 (.inl a2))),if_neg (fun h=>by have:=h.2;simp at this)]
    simp
  rw[if_neg a1,if_neg a2]
  simp only
  by_cases c1:a.r=13∧b.r=10
  · rw[if_pos c1,if_pos c1]
  rw[if_neg c1,if_neg c1]
  by_cases c2:docW S a=1∨docW S b=1
  · rw[if_pos c2,if_pos]
    simp only[Bool.or_eq_true,decide_eq_true_eq]
    rcases c2 with c2|c2
    · rcases ha.1 c2 with h|h|h|h
      · exact absurd h a1
      · exact .inl (.inl (.inr h))
      · exact .inl (.inl (.inl h))
      · exact .inl (.inr h)
    · rcases hb.1 c2 with h|h|h|h
      · exact absurd h a2
      · exact .inr (.inl (.inr h))
      · exact .inr (.inl (.inl h))
      · exact .inr (.inr h)
  have d1:¬(a.bad=true∨a.r=13∨a.r=10∨kndV S a.r=5):=fun h=>c2 (.inl (ha.2 h))
  have d2:¬(b.bad=true∨b.r=13∨b.r=10∨kndV S b.r=5):=fun h=>c2 (.inr (hb.2 h))
  have n1:¬((decide (a.r=10)||decide (a.r=13)||decide (kndV S a.r=5)||(decide (b.r=10)||decide (b.r=13)||decide (kndV S b.r=5)))=true):=by
    simp only[Bool.or_eq_true,decide_eq_true_eq]
    rintro ((h|h)|h)
    · exact d1 (by rcases h with h|h;exact .inr (.inr (.inl h));exact .inr (.inl h))
    · exact d1 (.inr (.inr (.inr h)))
    · exact d2 (by rcases h with (h|h)|h;exact .inr (.inr (.inl h));exact .inr (.inl h);exact .inr (.inr (.inr h)))
  rw[if_neg c2,if_neg n1]
  by_cases c3:kndV S b.r=3∨kndV S b.r=6∨0<clsV S b.r
  · have n3:(decide (kndV S b.r=3)||decide (kndV S b.r=6)||decide (0<clsV S b.r)||decide (kndV S a.r=6))=true:=by
      simp only[Bool.or_eq_true,decide_eq_true_eq]
      rcases c3 with h|h|h
      · exact .inl (.inl (.inl h))
      · exact .inl (.inl (.inr h))
      · exact .inl (.inr h)
    rw[if_pos c3,if_pos n3]
  rw[if_neg c3]
  by_cases c4:kndV S a.r=6
  · have n4:(decide (kndV S b.r=3)||decide (kndV S b.r=6)||decide (0<clsV S b.r)||decide (kndV S a.r=6))=true:=by
      simp only[Bool.or_eq_true,decide_eq_true_eq]
      exact .inr c4
    rw[if_pos c4,if_pos n4]
  have n5:¬((decide (kndV S b.r=3)||decide (kndV S b.r=6)||decide (0<clsV S b.r)||decide (kndV S a.r=6))=true):=by
    simp only[Bool.or_eq_true,decide_eq_true_eq]
    rintro (((h|h)|h)|h)
    · exact c3 (.inl h)
    · exact c3 (.inr (.inl h))
    · exact c3 (.inr (.inr h))
    · exact c4 h
  rw[if_neg c4,if_neg n5]
  have ea:docW S a=if hanK a.r=0 then 0 else hanK a.r+1:=by unfold docW;rw[if_neg d1]
  have eb:docW S b=if hanK b.r=0 then 0 else hanK b.r+1:=by unfold docW;rw[if_neg d2]
  rw[ea,eb]
  exact docE_han _ _ (hanK_in _) (hanK_in _)
def tlE (S:RdS) (s:ByteArray):Nat→Nat→List Nat
  | 0,_=>[s.size]
  | n+1,k=>if edgK S s k=true then pos s (k+1)::tlE S s n (k+1) else tlE S s n (k+1)
def prL:Nat→List Nat→List (Nat × Nat)
  | _,[]=>[]
  | f,x::r=>(f,x)::prL x r
theorem prL_tl (S:RdS) (s:ByteArray):∀(n f k:Nat),k+n+1=(units s).length→prL f (tlE S s n k)=celD S s f k
  | 0,f,k,h=>by
    rw[celD_end S s f k (by omega)]
    rfl
  | n+1,f,k,h=>by
    rw[celD_step S s f k (by omega),tlE]
    split
    · rw[prL,prL_tl S s n _ (k+1) (by omega)]
    · rw[prL_tl S s n _ (k+1) (by omega)]
def edL (S:RdS) (s:ByteArray):List Nat:=if s.size=0 then [] else 0::tlE S s ((units s).length-1) 0
theorem edL_all (S:RdS) (s:ByteArray) (hz:s.size≠0):∃r,edL S s=0::r∧prL 0 r=celL S s:=by
  refine⟨tlE S s ((units s).length-1) 0,by unfold edL;rw[if_neg hz],?_⟩
  have:=units_pos s hz
  rw[celL_D S s hz,prL_tl S s _ 0 0 (by omega)]
theorem prL_mem:∀(r:List Nat) (f j:Nat),r≠[]→((∃c∈prL f r,c.1=j∨c.2=j)↔j∈f::r)
  | [],_,_,h=>absurd rfl h
  | [x],f,j,_=>by
    simp only[prL,List.mem_cons,List.not_mem_nil,or_false]
    constructor
    · rintro⟨c,rfl,h|h⟩
      · exact .inl h.symm
      · exact .inr h.symm
    · rintro (h|h)
      · exact⟨_,rfl,.inl h.symm⟩
      · exact⟨_,rfl,.inr h.symm⟩
  | x::y::r,f,j,_=>by
    have ih:=prL_mem (y::r) x j (by simp)
    rw[prL]
    constructor
    · rintro⟨c,hc,h⟩
      rcases List.mem_cons.1 hc with rfl|hc
      · rcases h with h|h
        · exact List.mem_cons.2 (.inl h.symm)
        · exact List.mem_cons.2 (.inr (List.mem_cons.2 (.inl h.symm)))
      · exact List.mem_cons.2 (.inr (ih.1 ⟨c,hc,h⟩))
    · intro h
      rcases List.mem_cons.1 h with h|h
      · exact⟨_,List.mem_cons_self ..,.inl h.symm⟩
      · obtain⟨c,hc,h⟩:=ih.2 h
        exact⟨c,List.mem_cons_of_mem _ hc,h⟩
theorem edL_mem (S:RdS) (s:ByteArray) (j:Nat) (hj:j≤s.size):edgP S s j=decide (j∈edL S s):=by
  rw[edge_ends S s j hj]
  by_cases hz:s.size=0
  · unfold celL edL
    rw[if_pos hz,if_pos hz]
    simp[cenB]
  obtain⟨r,h1,h2⟩:=edL_all S s hz
  have hr:r≠[]:=fun h=>by
    rw[h] at h2
    have:=celL_chn S s
    rw[←h2] at this
    exact hz (show s.size=0 from this.symm)
  rw[Bool.eq_iff_iff,cenB_iff,←h2,prL_mem r 0 j hr,←h1]
  simp
theorem edL_le (S:RdS) (s:ByteArray):∀j∈edL S s,j≤s.size:=by
  have key:∀(n k:Nat),∀j∈tlE S s n k,j≤s.size:=by
    intro n
    induction n with
    | zero=>intro k j hj;rw[tlE,List.mem_singleton] at hj;omega
    | succ n ih =>
      intro k j hj
      rw[tlE] at hj
      split at hj
      · rcases List.mem_cons.1 hj with h|h
        · have:=pos_le s (k+1);omega
        · exact ih _ _ h
      · exact ih _ _ hj
  intro j hj
  unfold edL at hj
  split at hj
  · cases hj
  · rcases List.mem_cons.1 hj with h|h
    · omega
    · exact key _ _ _ h
theorem edL_at (S:RdS) (s:ByteArray) (a:Int):edgP S s a=(edL S s).any fun (j:Nat)=>(j:Int)==a:=by
  by_cases h:0≤a∧a≤s.size
  · obtain⟨j,rfl⟩:=Int.eq_ofNat_of_zero_le h.1
    rw[edL_mem S s j (by omega),Bool.eq_iff_iff]
    simp only[decide_eq_true_eq,List.any_eq_true,beq_iff_eq]
    constructor
    · intro h
      exact⟨j,h,rfl⟩
    · rintro⟨x,h1,h2⟩
      obtain rfl:x=j:=by omega
      exact h1
  · rw[edgP_out S s a (by omega)]
    symm
    rw[Bool.eq_false_iff]
    intro h9
    obtain⟨j,hj,h1⟩:=List.any_eq_true.1 h9
    have:=edL_le S s j hj
    simp at h1
    omega
end Go.Proofs.YtgpbaeehajkebaaGreatDoor
namespace Go.Proofs.YtgpbaeehajkebaaGreatDoor
open Go Go.RowKit Go.Kt Go.Kt.Rg Go.Maps
theorem tinfoD:(Tryz.prog.info? 97).map (fun i=>(i.zero,i.size,i.bytes))=some (some (.agg #[.int .i64 0,.int .i32 0,.bool false]),3,16):=by kernel_rfl
def duV (u:DU):Value:=.agg #[.int .i64 u.at',.int .i32 u.r,.bool u.bad]
def encD (l:List DU):List Value:=l.flatMap fun x=>[.int .i64 x.at',.int .i32 x.r,.bool x.bad]
theorem encD_snoc (l:List DU) (x:DU):encD (l++[x])=encD l++[.int .i64 x.at',.int .i32 x.r,.bool x.bad]:=by simp[encD]
theorem encD_at:∀(l:List DU) (i:Nat) (x:DU),l[i]? = some x→(encD l)[i*3]? = some (.int .i64 x.at')∧(encD l)[i*3+1]? = some (.int .i32 x.r)∧(encD l)[i*3+2]? = some (.bool x.bad)
 | [],_,_,h=>by simp at h
 | y::t,0,x,h=>by
   simp at h
   subst h
   exact⟨rfl,rfl,rfl⟩
 | y::t,i+1,x,h=>by
   have ih:=encD_at t i x (by simpa using h)
   have e:encD (y::t) = .int .i64 y.at' :: .int .i32 y.r :: .bool y.bad::encD t:=rfl
   rw[e,show (i+1)*3=i*3+1+1+1 by omega]
   refine⟨?_,?_,?_⟩
   ·rw[List.getElem?_cons_succ,List.getElem?_cons_succ,List.getElem?_cons_succ];exact ih.1
   ·rw[List.getElem?_cons_succ,List.getElem?_cons_succ,List.getElem?_cons_succ];exact ih.2.1
   ·rw[List.getElem?_cons_succ,List.getElem?_cons_succ,List.getElem?_cons_succ];exact ih.2.2
def DuR (W:World) (v:Value) (L:List DU):Prop:=∃ao cp,v = .slice ao L.length cp∧(L=[]∨∃g,ao=some ⟨g,0,none⟩∧∀(i:Nat) (x:DU),L[i]? = some x→W.cell? ⟨g,i*3,none⟩=some (.int .i64 x.at')∧W.cell? ⟨g,i*3+1,none⟩=some (.int .i32 x.r)∧W.cell? ⟨g,i*3+2,none⟩=some (.bool x.bad))
theorem dur_own {Y:Nat→Prop} {v:Value} {n:Nat} {L:List DU} {W:World} (h:OwnS Y 97 3 v n (encD L) W) (hn:n=L.length):DuR W v L:=by
 subst hn
 rcases h.1.2 with ⟨h1,h2⟩|⟨g,cap,cur,rfl,_,hg,_⟩
 ·have:L=[]:=List.length_eq_zero_iff.1 h2
  subst this
  exact⟨none,0,h1,.inl rfl⟩
 ·refine⟨_,_,rfl,.inr ⟨g,rfl,fun i x hx=>?_⟩⟩
  have c:=h.1.cells (g:=g) rfl
  have e:=encD_at L i x hx
  have c1:=c _ _ e.1
  have c2:=c _ _ e.2.1
  have c3:=c _ _ e.2.2
  rw[Addr.add_lit,Nat.zero_add] at c1 c2 c3
  exact⟨c1,c2,c3⟩
def duL (s:ByteArray):List DU:=(List.range (units s).length).map (duK s)
theorem duL_len (s:ByteArray):(duL s).length=(units s).length:=by simp[duL]
theorem duL_at (s:ByteArray) (k:Nat) (h:k<(units s).length):(duL s)[k]? = some (duK s k):=by simp[duL,h]
theorem duL_take (s:ByteArray) (k:Nat) (h:k<(units s).length):(duL s).take (k+1)=(duL s).take k++[duK s k]:=by
 rw[List.take_add_one,duL_at s k h];rfl
set_option maxRecDepth 100000 in
set_option maxHeartbeats 1000000 in
theorem yunits (s:ByteArray) (w:World) (hs:s.size≤1000000) :
 Calls Tryz.prog 41 #[.string s] w fun e w'=>∃v,e = .returned v∧DuR w' v (duL s)∧Below w.heap.size w w':=by
 have hul:=units_len s
 have ho1:OwnS (fun b=>w.heap.size≤b) 97 3 (.slice none 0 0) 0 (encD []) w:=⟨⟨rfl,.inl ⟨rfl,rfl⟩⟩,fun g h=>by cases h⟩
 have HO:=Lib.hid ho1
 clear ho1
 go_enter Tryz.func41,Tryz.ntmps41
 go_wp2
 go_loopw [3,4] (fun o v wr=>∃(k:Nat) (ao:Option Addr) (cv:Nat),k≤(units s).length∧v = .int .i64 (pos s k)∧o = .slice ao k cv∧OwnS (fun b=>w.heap.size≤b) 97 3 (.slice ao k cv) k (encD ((duL s).take k)) wr∧Below w.heap.size w wr) (fun _ v _=>s.size-(RowKit.intOf v).toNat)
 case atStart=>exact⟨0,none,0,Nat.zero_le _,by rw[pos_zero];rfl,rfl,HO.out,Below.refl _ _⟩
 case round =>
  obtain⟨k,ao,cv,hk,rfl,rfl,hown,hb⟩:=hrel
  by_cases hkl:k<(units s).length
  ·have hp:=pos_lt s k hkl
   have hsu:=pos_succ s k hkl
   have hst:=(pos_step s k hkl)
   have hpl:=pos_le s (k+1)
   have CD:=refDecode_any s (pos s k) wr (by omega)
   rw[decP_in s _ hp] at CD
   have hzz:=hb.size
   have hdu:duK s k=⟨pos s k,((Utf8.decode s (pos s k)).1:Int),decide ((Utf8.decode s (pos s k)).1=65533)&&decide ((Utf8.decode s (pos s k)).2=1)⟩:=rfl
   have htk:=duL_take s k hkl
   obtain⟨p,hpp⟩:∃p,pos s k=p:=⟨_,rfl⟩
   rw[hpp] at CD hdu hsu hst hp
   obtain⟨⟨r,wd⟩,hrw⟩:∃z,Utf8.decode s p=z:=⟨_,rfl⟩
   rw[hrw] at CD hdu hsu
   simp only at CD hdu hsu
   obtain⟨b,hbd⟩:∃b,(decide (r=65533)&&decide (wd=1))=b:=⟨_,rfl⟩
   rw[hbd] at hdu
   obtain⟨g,cap,w3,hrun,hown3,hk3,hg3,hz3⟩:=append_x (P:=Tryz.prog) wr 93 97 Tryz.underlying93 tinfoD rfl (by omega) hown [.int .i64 p,.int .i32 r,.bool b] rfl
    (by intro u hu;simp at hu;rcases hu with rfl|rfl|rfl <;> rfl) (by unfold maxLen;omega) (by omega)
   have hgl:w.heap.size≤g:=by
    rcases hg3 with h|h
    ·exact hown.2 g h
    ·omega
   have hown4:OwnS (fun b=>w.heap.size≤b) 97 3 (.slice (some ⟨g,0,none⟩) (k+1) cap) (k+1) (encD ((duL s).take (k+1))) w3:=by
    rw[htk,encD_snoc,hdu]
    exact hown3.weaken fun b hb=>by subst hb;exact hgl
   have hb3:Below w.heap.size w w3:=hb.trans (hk3.below hzz fun b h=>hown.2 b h)
   have HR:=Lib.hid hrun
   have HC:=Lib.hid CD
   have HF:Hid (∃(j:Nat) (ao:Option Addr) (cv:Nat),j≤(units s).length∧(.int .i64 ((p:Int)+wd):Value) = .int .i64 (pos s j)∧(.slice (some ⟨g,0,none⟩) (k+1) cap:Value) = .slice ao j cv∧OwnS (fun b=>w.heap.size≤b) 97 3 (.slice ao j cv) j (encD ((duL s).take j)) w3∧Below w.heap.size w w3) :=
    Lib.hid ⟨k+1,_,_,by omega,by congr 1;omega,rfl,hown4,hb3⟩
   have hp':(p:Int)<s.size:=by omega
   have hp2:(p:Int)≤1000000:=by omega
   have hw2:(wd:Int)≤4:=by omega
   have hw3:1≤wd:=by omega
   rw[hpp]
   have hbb:((r:Int)==65533)=false∧b=false∨((r:Int)==65533)=true∧((wd:Int)==1)=b:=by
    by_cases h1:r=65533
    ·refine .inr ⟨by rw[beq_iff_eq];omega,?_⟩
     rw[←hbd]
     by_cases h2:wd=1
     ·simp[h1,h2]
     ·have:((wd:Int)==1)=false:=by rw[beq_eq_false_iff_ne];omega
      simp[h1,h2,this]
    ·exact .inl ⟨by rw[beq_eq_false_iff_ne];omega,by rw[←hbd];simp[h1]⟩
   clear hrun hown hown3 hown4 hk3 hg3 hz3 hb hb3 hsu hst hpl hdu htk hrw hzz hgl hbd CD hk hkl hul hpp hp
   rcases hbb with ⟨q1,rfl⟩|⟨q1,q2⟩
   ·go_wp2_with fail
    refine HC.out.mono ?_
    rintro e w2 ⟨rfl,rfl⟩
    go_wp2_with (first|(refine wpList_append_eq (o:=⟨some 28,_,_,_,_,_⟩) rfl rfl rfl rfl HR.out ?_))
    go_roundw
    case rel=>exact HF.out
    case measure=>simp[RowKit.intOf];omega
   ·go_wp2_with fail
    refine HC.out.mono ?_
    rintro e w2 ⟨rfl,rfl⟩
    go_wp2_with (first|(refine wpList_append_eq (o:=⟨some 28,_,_,_,_,_⟩) rfl rfl rfl rfl HR.out ?_))
    go_roundw
    case rel=>exact HF.out
    case measure=>simp[RowKit.intOf];omega
  ·have hke:pos s k=s.size:=pos_end s k (by omega)
   obtain rfl:k=(units s).length:=by omega
   rw[List.take_of_length_le (by rw[duL_len];exact Nat.le_refl _)] at hown
   have HF:=Lib.hid (And.intro (dur_own hown (duL_len s).symm) hb)
   rw[hke]
   have hlt:¬(s.size:Int)<s.size:=by omega
   clear hown hb hke hkl hk hul
   go_wp2
   go_ret
   exact⟨_,rfl,HF.out.1,HF.out.2⟩
def DocK (gx:Nat) (S:RdS) (w:World):Prop:=∀W,Below w.heap.size w W→∀r,I32 r →
 Calls Tryz.prog 80 #[.pointer (some ⟨gx,0,none⟩),.int .i32 r] W (fun e w'=>e = .returned (.int .i64 (kndV S r))∧Below W.heap.size W w') ∧
 Calls Tryz.prog 81 #[.pointer (some ⟨gx,0,none⟩),.int .i32 r] W (fun e w'=>e = .returned (.int .i64 (clsV S r))∧Below W.heap.size W w')
theorem DocK.below {gx:Nat} {S:RdS} {w w':World} (h:DocK gx S w) (hb:Below w.heap.size w w'):DocK gx S w':=fun W h2 r hr=>h W (hb.trans (h2.mono hb.size)) r hr
end Go.Proofs.YtgpbaeehajkebaaGreatDoor
namespace Go.Proofs.YtgpbaeehajkebaaGreatDoor
open Go Go.RowKit Go.Kt Go.Kt.Rg Go.Maps
set_option maxRecDepth 100000 in
set_option maxHeartbeats 2000000 in
theorem ywhat {gx:Nat} {S:RdS} (u:DU) (w:World) (HD:DocK gx S w) (hr:I32 u.r) :
 Calls Tryz.prog 79 #[.pointer (some ⟨gx,0,none⟩),duV u] w fun e w'=>e = .returned (.int .i64 (docW S u))∧Below w.heap.size w w':=by
 have HW:Hid (docW S u=if u.bad=true∨u.r=13∨u.r=10∨kndV S u.r=5 then 1 else if hanK u.r=0 then 0 else hanK u.r+1):=Lib.hid rfl
 rw[HW.out]
 clear HW
 obtain⟨a,r,b⟩:=u
 simp only at hr ⊢
 unfold duV
 simp only
 have HA:Hid (Below w.heap.size w (w.alloc (.cells #[.int .i64 a,.int .i32 r,.bool b] 97))):=Lib.hid ((Below.refl _ w).alloc (Nat.le_refl _) _)
 cases b with
 | true =>
   rw[if_pos (.inl rfl)]
   clear HD hr
   go_enter Tryz.func79,Tryz.ntmps79
   go_wp2
   go_ret
   exact⟨rfl,HA.out⟩
 | false =>
   by_cases r13:r=13
   ·rw[if_pos (.inr (.inl r13))]
    subst r13
    clear HD hr
    go_enter Tryz.func79,Tryz.ntmps79
    go_wp2
    go_ret
    exact⟨rfl,HA.out⟩
   by_cases r10:r=10
   ·rw[if_pos (.inr (.inr (.inl r10)))]
    subst r10
    clear HD hr
    go_enter Tryz.func79,Tryz.ntmps79
    go_wp2
    go_ret
    exact⟨rfl,HA.out⟩
   obtain⟨w1,hw1⟩:∃W,w.alloc (.cells #[.int .i64 a,.int .i32 r,.bool false] 97)=W:=⟨_,rfl⟩
   have CK:=(HD w1 (by rw[←hw1];exact HA.out) r hr).1
   have c1:w1.cell? ⟨w.heap.size,1,none⟩=some (.int .i32 r):=by rw[←hw1,Lib.cell_of_heap (World.alloc_heap_new _ _)];rfl
   have hb1:Below w.heap.size w w1:=by rw[←hw1];exact HA.out
   obtain⟨k,hk⟩:∃k,kndV S r=k:=⟨_,rfl⟩
   rw[hk] at CK ⊢
   have HC:=Lib.hid CK
   have HW1:=Lib.hid hw1
   have HB1:=Lib.hid hb1
   have HX:=Lib.hid c1
   have e13:(r==13)=false:=by rw[beq_eq_false_iff_ne];exact r13
   have e10:(r==10)=false:=by rw[beq_eq_false_iff_ne];exact r10
   have HIF:Hid (¬k=5→(if (false:Bool)=true∨r=13∨r=10∨k=5 then (1:Int) else if hanK r=0 then 0 else hanK r+1)=if hanK r=0 then 0 else hanK r+1):=Lib.hid fun h=>if_neg (by rintro (h9|h9|h9|h9);cases h9;exact r13 h9;exact r10 h9;exact h h9)
   have HI5:Hid (k=5→(if (false:Bool)=true∨r=13∨r=10∨k=5 then (1:Int) else if hanK r=0 then 0 else hanK r+1)=1):=Lib.hid fun h=>if_pos (.inr (.inr (.inr h)))
   obtain⟨V,hV⟩:∃V:Int,(if (false:Bool)=true∨r=13∨r=10∨k=5 then (1:Int) else if hanK r=0 then 0 else hanK r+1)=V:=⟨_,rfl⟩
   rw[hV] at HIF HI5 ⊢
   clear HD hr hk CK hw1 hb1 c1 HA r13 r10 hV
   go_enter Tryz.func79,Tryz.ntmps79
   go_wp2_with fail
   rw[HW1.out]
   refine HC.out.mono ?_
   rintro e w2 ⟨rfl,hb2⟩
   have c2:=(hb2.cell (lt_of_cell HX.out)).trans HX.out
   have HB2:=Lib.hid (HB1.out.trans (hb2.mono HB1.out.size))
   clear hb2
   by_cases k5:k=5
   ·obtain rfl:=HI5.out k5
    subst k5
    clear HIF HI5 HC
    go_wp2
    go_ret
    exact⟨rfl,HB2.out⟩
   have HV:=Lib.hid (HIF.out k5)
   have e5:(k==5)=false:=by rw[beq_eq_false_iff_ne];exact k5
   clear HIF HI5 HC k5 HW1
   by_cases hlead:4352≤r∧r≤4370
   ·obtain rfl:V=2:=by rw[HV.out,show hanK r=1 by unfold hanK; rw[if_pos hlead]];rfl
    have a1:4352≤r:=by omega
    have a2:r≤4370:=by omega
    clear hlead  HV
    go_wp2
    go_ret
    exact⟨rfl,HB2.out⟩
   by_cases hvowel:4449≤r∧r≤4469
   ·obtain rfl:V=3:=by rw[HV.out,show hanK r=2 by unfold hanK;rw[if_neg hlead];rw[if_pos hvowel]];rfl
    have a1:4352≤r:=by omega
    have a2:¬r≤4370:=by omega
    have a3:4449≤r:=by omega
    have a4:r≤4469:=by omega
    clear hvowel hlead HV
    go_wp2
    go_ret
    exact⟨rfl,HB2.out⟩
   by_cases htail:4520≤r∧r≤4546
   ·obtain rfl:V=4:=by rw[HV.out,show hanK r=3 by unfold hanK;rw[if_neg hlead];rw[if_neg hvowel];rw[if_pos htail]];rfl
    have a1:4352≤r:=by omega
    have a2:¬r≤4370:=by omega
    have a3:4449≤r:=by omega
    have a4:¬r≤4469:=by omega
    have a5:4520≤r:=by omega
    have a6:r≤4546:=by omega
    clear htail hlead hvowel HV
    go_wp2
    go_ret
    exact⟨rfl,HB2.out⟩
   by_cases hn0:r<4352
   ·obtain rfl:V=0:=by rw[HV.out,show hanK r=0 by unfold hanK;rw[if_neg hlead];rw[if_neg hvowel];rw[if_neg htail];rw[if_pos (by omega)]];rfl
    have a1:¬4352≤r:=by omega
    have a3:¬4449≤r:=by omega
    have a5:¬4520≤r:=by omega
    have a7:¬44032≤r:=by omega
    clear hn0 hlead hvowel htail  HV
    go_wp2
    go_ret
    exact⟨rfl,HB2.out⟩
   by_cases hn1:r<4449
   ·obtain rfl:V=0:=by rw[HV.out,show hanK r=0 by unfold hanK;rw[if_neg hlead];rw[if_neg hvowel];rw[if_neg htail];rw[if_pos (by omega)]];rfl
    have a1:4352≤r:=by omega
    have a2:¬r≤4370:=by omega
    have a3:¬4449≤r:=by omega
    have a5:¬4520≤r:=by omega
    have a7:¬44032≤r:=by omega
    clear hn1 hlead hvowel htail hn0 HV
    go_wp2
    go_ret
    exact⟨rfl,HB2.out⟩
   by_cases hn2:r<4520
   ·obtain rfl:V=0:=by rw[HV.out,show hanK r=0 by unfold hanK;rw[if_neg hlead];rw[if_neg hvowel];rw[if_neg htail];rw[if_pos (by omega)]];rfl
    have a1:4352≤r:=by omega
    have a2:¬r≤4370:=by omega
    have a3:4449≤r:=by omega
    have a4:¬r≤4469:=by omega
    have a5:¬4520≤r:=by omega
    have a7:¬44032≤r:=by omega
    clear hn2 hlead hvowel htail hn0 hn1 HV
    go_wp2
    go_ret
    exact⟨rfl,HB2.out⟩
   by_cases hn3:r<44032
   ·obtain rfl:V=0:=by rw[HV.out,show hanK r=0 by unfold hanK;rw[if_neg hlead];rw[if_neg hvowel];rw[if_neg htail];rw[if_pos (by omega)]];rfl
    have a1:4352≤r:=by omega
    have a2:¬r≤4370:=by omega
    have a3:4449≤r:=by omega
    have a4:¬r≤4469:=by omega
    have a5:4520≤r:=by omega
    have a6:¬r≤4546:=by omega
    have a7:¬44032≤r:=by omega
    clear hn3 hlead hvowel htail hn0 hn1 hn2 HV
    go_wp2
    go_ret
    exact⟨rfl,HB2.out⟩
   by_cases hn4:55203<r
   ·obtain rfl:V=0:=by rw[HV.out,show hanK r=0 by unfold hanK;rw[if_neg hlead];rw[if_neg hvowel];rw[if_neg htail];rw[if_pos (by omega)]];rfl
    have a1:4352≤r:=by omega
    have a2:¬r≤4370:=by omega
    have a3:4449≤r:=by omega
    have a4:¬r≤4469:=by omega
    have a5:4520≤r:=by omega
    have a6:¬r≤4546:=by omega
    have a7:44032≤r:=by omega
    have a8:¬r≤55203:=by omega
    clear hn4 hlead hvowel htail hn0 hn1 hn2 hn3 HV
    go_wp2
    go_ret
    exact⟨rfl,HB2.out⟩
   have hsy:hanK r=if (r-44032) % 28=0 then 4 else 5:=by unfold hanK;rw[if_neg hlead];rw[if_neg hvowel];rw[if_neg htail];rw[if_neg (by omega)]
   obtain⟨m,rfl⟩:∃m,r=44032+m:=⟨r-44032,by omega⟩
   have q1:IntKind.i32.wrap (44032+m-44032)=m:=by rw[IntWalk.i32_in _ (by omega)];omega
   have q2:m.tmod 28=m % 28:=Int.tmod_eq_emod_of_nonneg (by omega)
   have q3:44032+m-44032=m:=by omega
   obtain⟨j,hj⟩:∃j,m % 28=j:=⟨_,rfl⟩
   have q4:IntKind.i32.wrap j=j:=IntWalk.i32_in _ (by omega)
   rw[q3,hj] at hsy
   have a1:4352≤(44032+m):=by omega
   have a2:¬(44032+m)≤4370:=by omega
   have a3:4449≤(44032+m):=by omega
   have a4:¬(44032+m)≤4469:=by omega
   have a5:4520≤(44032+m):=by omega
   have a6:¬(44032+m)≤4546:=by omega
   have a7:44032≤(44032+m):=by omega
   have a8:(44032+m)≤55203:=by omega
   by_cases j0:j=0
   ·rw[if_pos j0] at hsy
    obtain rfl:V=5:=by rw[HV.out,hsy];rfl
    clear hsy HV q3 hlead hvowel htail hn0 hn1 hn2 hn3 hn4
    subst j0
    go_wp2
    go_ret
    exact⟨rfl,HB2.out⟩
   ·rw[if_neg j0] at hsy
    obtain rfl:V=6:=by rw[HV.out,hsy];rfl
    have ej:(j==0)=false:=by rw[beq_eq_false_iff_ne];exact j0
    clear hsy HV q3 j0 hlead hvowel htail hn0 hn1 hn2 hn3 hn4
    go_wp2
    go_ret
    exact⟨rfl,HB2.out⟩
end Go.Proofs.YtgpbaeehajkebaaGreatDoor
namespace Go.Proofs.YtgpbaeehajkebaaGreatDoor
open Go Go.RowKit Go.Kt Go.Kt.Rg Go.Maps
theorem exec_asgE {P:Program} {o:Oper} {a:Act} {w:World} {x:Operand} {u:Value} (ho:o.op = .assign x) (hx:a.eval x=u):(execOp a.eval o).run P w = .ok (.value u) w:=by
 unfold execOp;rw[ho];simp only[hx];rfl
theorem spn_some {l:List UInt8} {i:Nat} (h:Lib.index l [46,46]=(i:Int)):spnP l=spnO (numP (l.take i)) (numP (l.drop (i+2))):=by
 unfold spnP Lib.cut
 rw[h,if_pos (by omega),Int.toNat_natCast]
 rfl
theorem spn_none {l:List UInt8} (h:Lib.index l [46,46] = -1):((spnP l).2.1:Int)=(pntP l).1∧((spnP l).2.2:Int)=(pntP l).1∧(spnP l).1=(pntP l).2:=by
 have e:spnP l=spnO (numP l) (numP l):=by
  unfold spnP Lib.cut
  rw[h,if_neg (by omega)]
  rfl
 rw[e]
 unfold pntP
 cases numP l with
 | none=>exact⟨rfl,rfl,rfl⟩
 | some n =>
   rw[spnO_some]
   simp only
   by_cases hv:Lib.validRune (n:Int)=false
   ·rw[if_pos (.inl hv),if_pos hv];exact⟨rfl,rfl,rfl⟩
   ·rw[if_neg (fun h=>by rcases h with h|h <;> exact hv h),if_neg (Nat.lt_irrefl n),if_neg hv];exact⟨rfl,rfl,rfl⟩
theorem oc_none {l:List UInt8} {i:Nat} (h:∀j,j<i→Lib.occAt l [46,46] j=false) (hi:l.length≤i+1):Lib.index l [46,46] = -1:=Lib.index_none fun j hj=>by
 by_cases hlt:j<i
 ·exact h j hlt
 ·cases ho:Lib.occAt l [46,46] j with
  | false=>rfl
  | true =>
    exfalso
    rcases Lib.occAt_room ho with h2|h2
    ·simp at h2;omega
    ·cases h2
def nmV (o:Option Nat):Int:=match o with
 | some n=>(n:Int)
 | none=>-1
theorem numG_V (l:List UInt8):numG 16 4 6 l=nmV (numP l):=by rw[numG_P];rfl
theorem slFE (T:ByteArray) (i:Nat) (hT:i≤T.size) (X:World):(Instr.sliceAt 9 (.string T) (some (.int .i64 (i:Nat))) none none).run Tryz.prog X = .ok (.string (T.extract i T.size)) X:=by
 have q:(i:Int)≤T.size:=by omega
 go_simp
theorem ext_to (s:ByteArray) (i:Nat):(s.extract 0 i).data.toList=s.data.toList.take i:=by
 have:=Lib.extract_toList s 0 i
 rw[ByteArray.toList_eq] at this
 rw[this];simp
theorem ext_end (s:ByteArray) (i:Nat):(s.extract i s.size).data.toList=s.data.toList.drop i:=by
 have:=Lib.extract_toList s i s.size
 rw[ByteArray.toList_eq] at this
 rw[this,List.take_of_length_le (by rw[List.length_drop,←Lib.size_eq];exact Nat.le_refl _)]
def pE5 (i:Nat) (s sA sB:ByteArray) (na nb:Int) (jx:Nat) (v:Value) (_W:World):Prop:=match jx with
 | 0=>v = .string s
 | 1=>v = .int .i64 (i:Nat)
 | 2=>v = .string sA
 | 3=>v = .int .i64 na
 | 4=>v = .string s
 | 5=>v = .int .i64 (i:Nat)
 | 6=>v = .int .i64 ((i+2:Nat):Int)
 | 7=>v = .string sB
 | 8=>v = .int .i64 nb
 | 9=>v = .int .i64 na
 | 10=>v = .int .i64 nb
 | _=>True
set_option maxRecDepth 100000 in
set_option maxHeartbeats 4000000 in
theorem yends (s:ByteArray) (w:World) (hs:s.size≤1048000) :
 Calls Tryz.prog 71 #[.string s] w fun e w'=>e = .returned (.tuple #[.int .i64 ((spnP s.data.toList).2.1:Nat),.int .i64 ((spnP s.data.toList).2.2:Nat),.int .i64 ((spnP s.data.toList).1:Nat)])∧Below w.heap.size w w':=by
 have hln:s.data.toList.length=s.size:=(Lib.size_eq s).symm
 have HLN:=Lib.hid hln
 clear hln
 go_enter Tryz.func71,Tryz.ntmps71
 go_wp2_with fail
 go_loopw [5] (fun x wr=>∃(i:Nat),x = .int .i64 (i:Nat)∧i≤s.size∧Hid ((∀j,j<i→Lib.occAt s.data.toList [46,46] j=false)∧Below w.heap.size w wr)) (fun x _=>s.size-(RowKit.intOf x).toNat)
 case atStart=>exact⟨0,rfl,Nat.zero_le _,Lib.hid ⟨fun j h=>by omega,Below.refl _ _⟩⟩
 case round =>
  obtain⟨i,rfl,hi,H⟩:=hrel
  have hk1:IntKind.i64.wrap ((i:Int)+1)=((i+1:Nat):Int):=by rw[IntWalk.i64_in _ (by omega)];omega
  by_cases hlt:i+1<s.size
  ·have e1:((i+1:Nat):Int)<s.size:=by omega
   have hk2:IntKind.i64.wrap ((i:Int)+2)=((i+2:Nat):Int):=by rw[IntWalk.i64_in _ (by omega)];omega
   have HS:=fun W=>slFT s i (i+2) (by omega) (by omega) W
   obtain⟨T,hT⟩:∃T,s.extract i (i+2)=T:=⟨_,rfl⟩
   have hTl:T.data.toList=(s.data.toList.drop i).take 2:=by
    rw[←hT]
    have:=Lib.extract_toList s i (i+2)
    rw[ByteArray.toList_eq] at this
    rw[this,Nat.add_sub_cancel_left]
   have hoc:Lib.occAt s.data.toList [46,46] i=(T.data.toList==[46,46]):=by
    rw[Lib.occAt_iff_take _ _ _ (by have:=HLN.out;simp;omega),hTl];rfl
   clear hTl
   by_cases hdd:T.data.toList=[46,46]
   ·have hT1:((s.extract i (i+2)).toList==[46,46])=true:=by rw[hT,ByteArray.toList_eq,hdd];rfl
    have hix:Lib.index s.data.toList [46,46]=(i:Int):=Lib.index_first (by have:=HLN.out;omega) (by rw[hoc,hdd];rfl) H.out.1
    have hsp:=spn_some hix
    have hslA:=fun X=>slT0 s i (by omega) X
    have hslB:=fun X=>slFE s (i+2) (by omega) X
    have CA:=Lib.hid (fun X=>ynumber (s.extract 0 i) 16 4 6 X (by rw[ByteArray.size_extract];omega) (.inl ⟨rfl,rfl,rfl⟩))
    have CB:=Lib.hid (fun X=>ynumber (s.extract (i+2) s.size) 16 4 6 X (by rw[ByteArray.size_extract];omega) (.inl ⟨rfl,rfl,rfl⟩))
    rw[numG_V,ext_to] at CA
    rw[numG_V,ext_end] at CB
    obtain⟨sA,hsA⟩:∃T,s.extract 0 i=T:=⟨_,rfl⟩
    obtain⟨sB,hsB⟩:∃T,s.extract (i+2) s.size=T:=⟨_,rfl⟩
    rw[hsA] at CA hslA
    rw[hsB] at CB hslB
    obtain⟨o1,ho1⟩:∃o,numP (s.data.toList.take i)=o:=⟨_,rfl⟩
    obtain⟨o2,ho2⟩:∃o,numP (s.data.toList.drop (i+2))=o:=⟨_,rfl⟩
    rw[ho1] at CA hsp
    rw[ho2] at CB hsp
    have HSP:=Lib.hid hsp
    have HB:=Lib.hid H.out.2
    have hadd:∀(X:World) (x y:Operand),(do eqGuard .add 3 x y (.int .i64 (i:Nat)) (.int .i64 2);binOp .add 3 (.int .i64 (i:Nat)) (.int .i64 2):Sem Value).run Tryz.prog X = .ok (.int .i64 ((i+2:Nat):Int)) X:=fun X x y=>by go_simp
    obtain⟨na,hna⟩:∃x,nmV o1=x:=⟨_,rfl⟩
    obtain⟨nb,hnb⟩:∃x,nmV o2=x:=⟨_,rfl⟩
    rw[hna] at CA
    rw[hnb] at CB
    have HNA:=Lib.hid (And.intro hna hnb)
    have CC:=Lib.hid (fun n W=>ychar n W)
    clear hsA hsB ho1 ho2 hsp hix hoc hdd hna hnb hlt hT
    go_wp2_with fail
    refine wp_region_guarded (fun X=>Below wr.heap.size wr X) (fun U V=>Below U.heap.size U V) (pE5 i s sA sB na nb) (by kernel_rfl) (by kernel_rfl) (by kernel_rfl) ?hS ?hp ?hs ?hd
    case hS=>exact below_drewN (Below.refl _ _) 1
    case hp=>exact fun i v U V _ _ _ hv=>hv
    case hs =>
     refine GSteps.cons ?_ (GSteps.cons ?_ (GSteps.cons ?_ (GSteps.cons ?_ (GSteps.cons ?_ (GSteps.cons ?_ (GSteps.cons ?_ (GSteps.cons ?_ (GSteps.cons ?_ (GSteps.cons ?_ (GSteps.cons ?_ (GSteps.nil)))))))))))
     ·intro a X hX hL hd
      refine .inl ⟨rfl,?_⟩
      have e0:a.eval (.tmp 0) = .string s:=hL.far 0 (by kernel_rfl)
      exact wp_value (exec_move rfl e0) ⟨_,rfl,hX,Below.refl _ _,rfl⟩
     ·intro a X hX hL hd
      refine .inl ⟨rfl,?_⟩
      have e0:a.eval (.tmp 5) = .int .i64 (i:Nat):=hL.far 5 (by kernel_rfl)
      exact wp_value (exec_move rfl e0) ⟨_,rfl,hX,Below.refl _ _,rfl⟩
     ·intro a X hX hL hd
      refine .inl ⟨rfl,?_⟩
      have e0:a.eval (.tmp 23) = .string s:=hd 0 23 (by kernel_rfl) (by kernel_rfl)
      have e1:a.eval (.tmp 24) = .int .i64 (i:Nat):=hd 1 24 (by kernel_rfl) (by kernel_rfl)
      exact wp_value (exec_slice rfl e0 rfl (by rw[Option.map_some,e1]) rfl (hslA X)) ⟨_,rfl,hX,Below.refl _ _,rfl⟩
     ·intro a X hX hL hd
      refine .inl ⟨rfl,?_⟩
      have e0:a.eval (.tmp 25) = .string sA:=hd 2 25 (by kernel_rfl) (by kernel_rfl)
      refine wp_enter (exec_call (vs:=#[.string sA,.int .i64 16,.int .i64 4,.int .i64 6]) rfl (by simp only[List.map_toArray,List.map_cons,List.map_nil,e0];rfl) Tryz.func72 rfl rfl) ?_
      refine (CA.out X).mono ?_
      rintro e w' ⟨rfl,hb⟩
      exact⟨_,rfl,_,rfl,hX.trans (hb.mono hX.size),hb,rfl⟩
     ·intro a X hX hL hd
      refine .inl ⟨rfl,?_⟩
      have e0:a.eval (.tmp 0) = .string s:=hL.far 0 (by kernel_rfl)
      exact wp_value (exec_move rfl e0) ⟨_,rfl,hX,Below.refl _ _,rfl⟩
     ·intro a X hX hL hd
      refine .inl ⟨rfl,?_⟩
      have e0:a.eval (.tmp 5) = .int .i64 (i:Nat):=hL.far 5 (by kernel_rfl)
      exact wp_value (exec_move rfl e0) ⟨_,rfl,hX,Below.refl _ _,rfl⟩
     ·intro a X hX hL hd
      refine .inl ⟨rfl,?_⟩
      have e0:a.eval (.tmp 28) = .int .i64 (i:Nat):=hd 5 28 (by kernel_rfl) (by kernel_rfl)
      exact wp_value (exec_binop rfl e0 rfl (hadd X _ _)) ⟨_,rfl,hX,Below.refl _ _,rfl⟩
     ·intro a X hX hL hd
      refine .inl ⟨rfl,?_⟩
      have e0:a.eval (.tmp 27) = .string s:=hd 4 27 (by kernel_rfl) (by kernel_rfl)
      have e1:a.eval (.tmp 29) = .int .i64 ((i+2:Nat):Int):=hd 6 29 (by kernel_rfl) (by kernel_rfl)
      exact wp_value (exec_slice rfl e0 (by rw[Option.map_some,e1]) rfl rfl (hslB X)) ⟨_,rfl,hX,Below.refl _ _,rfl⟩
     ·intro a X hX hL hd
      refine .inl ⟨rfl,?_⟩
      have e0:a.eval (.tmp 30) = .string sB:=hd 7 30 (by kernel_rfl) (by kernel_rfl)
      refine wp_enter (exec_call (vs:=#[.string sB,.int .i64 16,.int .i64 4,.int .i64 6]) rfl (by simp only[List.map_toArray,List.map_cons,List.map_nil,e0];rfl) Tryz.func72 rfl rfl) ?_
      refine (CB.out X).mono ?_
      rintro e w' ⟨rfl,hb⟩
      exact⟨_,rfl,_,rfl,hX.trans (hb.mono hX.size),hb,rfl⟩
     ·intro a X hX hL hd
      refine .inl ⟨rfl,?_⟩
      have e0:a.eval (.tmp 26) = .int .i64 na:=hd 3 26 (by kernel_rfl) (by kernel_rfl)
      exact wp_value (exec_asgE rfl e0) ⟨_,rfl,hX,Below.refl _ _,rfl⟩
     ·intro a X hX hL hd
      refine .inl ⟨rfl,?_⟩
      have e0:a.eval (.tmp 31) = .int .i64 nb:=hd 8 31 (by kernel_rfl) (by kernel_rfl)
      exact wp_value (exec_asgE rfl e0) ⟨_,rfl,hX,Below.refl _ _,rfl⟩
    case hd =>
     intro a X hX hL hd _
     have h6:a.tmps.getD 6 undef = .int .i64 na:=hd 9 6 (by kernel_rfl)
     have h7:a.tmps.getD 7 undef = .int .i64 nb:=hd 10 7 (by kernel_rfl)
     obtain⟨f,ha,hf⟩:=hL.out [23,24,25,26,27,28,29,30,31,6,7] (by kernel_rfl)
     have h6':f 6 = .int .i64 na:=(hf 6).trans h6
     have h7':f 7 = .int .i64 nb:=(hf 7).trans h7
     simp only[List.foldl_cons,List.foldl_nil,List.setIfInBounds_toArray,List.set_cons_zero,List.set_cons_succ,h6',h7'] at ha
     clear hf hd hL h6 h7
     subst ha
     have HX:=Lib.hid (HB.out.trans (hX.mono HB.out.size))
     clear hX
     have nofault:∀no:Nat,spnO o1 o2=(no,0,0)→∀W,Below w.heap.size w W→(Ending.returned (.tuple #[.int .i64 0,.int .i64 0,.int .i64 (no:Nat)]) = .returned (.tuple #[.int .i64 ((spnP s.data.toList).2.1:Nat),.int .i64 ((spnP s.data.toList).2.2:Nat),.int .i64 ((spnP s.data.toList).1:Nat)]))∧Below w.heap.size w W:=fun no h W hW=>by
      rw[HSP.out,h];exact⟨rfl,hW⟩
     have NF:=Lib.hid nofault
     clear nofault CA CB hslA hslB
     cases o1 with
     | none =>
       obtain rfl:(-1:Int)=na:=HNA.out.1
       have HF:Hid (spnO none o2=(11,0,0)):=Lib.hid (by unfold spnO;rfl)
       go_wp2
       go_ret3
       exact NF.out 11 HF.out _ HX.out
     | some lo =>
       obtain rfl:(lo:Int)=na:=HNA.out.1
       have g1:¬(lo:Int)<0:=by omega
       cases o2 with
       | none =>
         obtain rfl:(-1:Int)=nb:=HNA.out.2
         have HF:Hid (spnO (some lo) none=(11,0,0)):=Lib.hid (by unfold spnO;rfl)
         go_wp2
         go_ret3
         exact NF.out 11 HF.out _ HX.out
       | some hi' =>
         obtain rfl:(hi':Int)=nb:=HNA.out.2
         have g2:¬(hi':Int)<0:=by omega
         cases v1:Lib.validRune (lo:Int) with
         | false =>
           have HF:Hid (spnO (some lo) (some hi')=(8,0,0)):=Lib.hid (by rw[spnO_some,if_pos (.inl v1)])
           have C1:=Lib.hid (fun W=>v1▸CC.out (lo:Int) W)
           clear v1
           go_wp2_with fail
           refine (C1.out _).mono ?_
           rintro e w2 ⟨rfl,hb2⟩
           have HB2:=Lib.hid (HX.out.trans (hb2.mono HX.out.size))
           clear hb2
           go_wp2
           go_ret3
           exact NF.out 8 HF.out _ HB2.out
         | true =>
           have C1:=Lib.hid (fun W=>v1▸CC.out (lo:Int) W)
           go_wp2_with fail
           refine (C1.out _).mono ?_
           rintro e w2 ⟨rfl,hb2⟩
           have HB2:=Lib.hid (HX.out.trans (hb2.mono HX.out.size))
           clear hb2
           cases v2:Lib.validRune (hi':Int) with
           | false =>
             have HF:Hid (spnO (some lo) (some hi')=(8,0,0)):=Lib.hid (by rw[spnO_some,if_pos (.inr v2)])
             have C2:=Lib.hid (fun W=>v2▸CC.out (hi':Int) W)
             clear v1 v2
             go_wp2_with fail
             refine (C2.out _).mono ?_
             rintro e w3 ⟨rfl,hb3⟩
             have HB3:=Lib.hid (HB2.out.trans (hb3.mono HB2.out.size))
             clear hb3
             go_wp2
             go_ret3
             exact NF.out 8 HF.out _ HB3.out
           | true =>
             have hv:¬(Lib.validRune (lo:Int)=false∨Lib.validRune (hi':Int)=false):=by rw[v1,v2];decide
             have C2:=Lib.hid (fun W=>v2▸CC.out (hi':Int) W)
             by_cases hlt:hi'<lo
             ·have HF:Hid (spnO (some lo) (some hi')=(1,0,0)):=Lib.hid (by rw[spnO_some,if_neg hv,if_pos hlt])
              have g3:(hi':Int)<lo:=by omega
              clear v1 v2 hv hlt
              go_wp2_with fail
              refine (C2.out _).mono ?_
              rintro e w3 ⟨rfl,hb3⟩
              have HB3:=Lib.hid (HB2.out.trans (hb3.mono HB2.out.size))
              clear hb3
              go_wp2
              go_ret3
              exact NF.out 1 HF.out _ HB3.out
             ·have HF:Hid (spnO (some lo) (some hi')=(0,lo,hi')):=Lib.hid (by rw[spnO_some,if_neg hv,if_neg hlt])
              have g3:(decide ((hi':Int)<(lo:Int)))=false:=by simp;omega
              have G3:=Lib.hid g3
              clear v1 v2 hv hlt g1 g2 g3
              go_wp2_with fail
              refine (C2.out _).mono ?_
              rintro e w3 ⟨rfl,hb3⟩
              have HB3:=Lib.hid (HB2.out.trans (hb3.mono HB2.out.size))
              clear hb3
              obtain⟨x,hx⟩:∃x:Int,(hi':Int)=x:=⟨_,rfl⟩
              obtain⟨y,hy⟩:∃y:Int,(lo:Int)=y:=⟨_,rfl⟩
              have g3:=G3.out
              rw[hx,hy] at g3
              rw[hx,hy]
              have HXY:=Lib.hid (And.intro hx hy)
              clear hx hy hs hk1 hk2 e1
              go_wp2
              go_ret3
              exact⟨by rw[HSP.out,HF.out,←HXY.out.1,←HXY.out.2];rfl,HB3.out⟩
   ·have hocf:Lib.occAt s.data.toList [46,46] i=false:=by rw[hoc];simpa using hdd
    have hT1:((s.extract i (i+2)).toList==[46,46])=false:=by rw[hT,ByteArray.toList_eq];simpa using hdd
    have HE:=Lib.hid (show ∀j,j<i+1→Lib.occAt s.data.toList [46,46] j=false from fun j hj=>by
     by_cases e:j=i
     ·subst e;exact hocf
     ·exact H.out.1 j (by omega))
    clear hdd hoc hocf hT
    go_wp2
    go_roundw
    case rel=>exact⟨i+1,by go_num,by omega,Lib.hid ⟨HE.out,H.out.2⟩⟩
    case measure=>simp[RowKit.intOf];omega
  ·have e1:¬((i+1:Nat):Int)<s.size:=by omega
   obtain⟨q1,q2,q3⟩:=spn_none (oc_none H.out.1 (by have:=HLN.out;omega))
   have CP:=Lib.hid (ypoint s wr (by omega))
   have HQ:=Lib.hid (And.intro q1 (And.intro q2 q3))
   clear q1 q2 q3 hlt
   go_wp2_with fail
   refine CP.out.mono ?_
   rintro e w2 ⟨rfl,hb2⟩
   have HB:=Lib.hid (H.out.2.trans (hb2.mono H.out.2.size))
   clear hb2
   go_wp2
   go_ret3
   exact⟨by rw[HQ.out.1,HQ.out.2.1,HQ.out.2.2];rfl,HB.out⟩
end Go.Proofs.YtgpbaeehajkebaaGreatDoor
