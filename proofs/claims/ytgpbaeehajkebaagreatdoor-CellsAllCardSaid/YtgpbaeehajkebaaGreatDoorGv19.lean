/- Parts of the proof of what the last text says. -/
import Derived.Test.YtgpbaeehajkebaaGreatDoorGv3
import Derived.Test.YtgpbaeehajkebaaGreatDoorGv6
import Derived.Test.YtgpbaeehajkebaaGreatDoorGv17
import Derived.Test.YtgpbaeehajkebaaGreatDoorProg
import Derived.WalkKit
import Derived.LaidEql
import Derived.Stop.Asserts
import Derived.RowKitTokens
import Derived.Lib.Hide
import Derived.Test.YtgpbaeehajkebaaGreatDoorGv9
import Derived.Deep.RegionHeldLaw
namespace Go.Kt
open Go

section
variable {P:Program} {ops:Array Oper} {Q:Exit→Act→World→Prop} {md:Region.Mode}

def GStep (P:Program) (md:Region.Mode) (ops:Array Oper) (Q:Exit→Act→World→Prop) (S:World→Prop) (R:World→World→Prop) (p:Nat→Value→World→Prop) (a0:Act) (i:Nat) (o:Oper):Prop :=
  ∀a w,S w→Like ops a0 a→(∀j k,waitsB md o j=true→slotB ops j k=true→p j (a.tmps.getD k undef) w) →
    (Region.wanted o (yielded ops a.tmps)=true∧o.wp P a w (fun a' w'=>∃v,a'=a.put o.dst v∧S w'∧R w w'∧p i v w') Q)∨(Region.wanted o (yielded ops a.tmps)=false∧R w w∧p i undef w)
def GSteps (P:Program) (md:Region.Mode) (ops:Array Oper) (Q:Exit→Act→World→Prop) (S:World→Prop) (R:World→World→Prop) (p:Nat→Value→World→Prop) (a0:Act):Nat→List Oper→Prop
  | _,[]=>True
  | i,o::r=>GStep P md ops Q S R p a0 i o∧GSteps P md ops Q S R p a0 (i+1) r
theorem GSteps.get {S:World→Prop} {R:World→World→Prop} {p:Nat→Value→World→Prop} {a0:Act}:∀(l:List Oper) (i:Nat),GSteps P md ops Q S R p a0 i l→∀j o,l[j]? = some o→GStep P md ops Q S R p a0 (i+j) o
  | [],_,_,j,o,h=>by simp at h
  | x::r,i,hs,0,o,h=>by simp at h;subst h;exact hs.1
  | x::r,i,hs,j+1,o,h=>by
    have:=GSteps.get r (i+1) hs.2 j o (by simpa using h)
    rw[show i+(j+1)=i+1+j by omega];exact this

theorem wp_region_guarded {id:Nat} {a0:Act} {w0:World} (S:World→Prop) (R:World→World→Prop) (p:Nat→Value→World→Prop) (hm:P.follows .mixedOrders=true) (hap:apartB ops a0.tmps.size=true) (hfw:forwardB .any ops=true)
    (hS:S w0.drew) (hp:∀i v w w',S w→S w'→R w w'→p i v w→p i v w') (hs:GSteps P .any ops Q S R p a0 0 ops.toList)
    (hd:∀a w,S w→Like ops a0 a→(∀j k,slotB ops j k=true→p j (a.tmps.getD k undef) w)→(∀j,j<ops.size→∃v,p j v w)→Q .normal a w):(Code.region id ops true).wp P Q a0 w0:=by
  have hdst:∀(i:Nat) (o:Oper) (k:Nat),ops[i]? = some o→o.dst=some k→k<a0.tmps.size∧∀(j:Nat) (oj:Oper),ops[j]? = some oj→oj.dst=some k→i=j:=by
    intro i o k ho hk
    have hi:=(Array.getElem?_eq_some_iff.1 ho).1
    have h1:=List.all_eq_true.1 hap i (List.mem_range.2 hi)
    have h2:ops.getD i default=o:=by simp[Array.getD_eq_getD_getElem?,ho]
    rw[h2,hk] at h1
    simp only[Bool.and_eq_true,decide_eq_true_eq] at h1
    refine⟨h1.1,fun j oj hj hjk=>?_⟩
    have hj':=(Array.getElem?_eq_some_iff.1 hj).1
    have h3:=List.all_eq_true.1 h1.2 j (List.mem_range.2 hj')
    have h4:ops.getD j default=oj:=by simp[Array.getD_eq_getD_getElem?,hj]
    rw[h4,hjk] at h3
    simpa using h3
  refine wp_region_any hm ?_
  refine wpAny_inv (fun listed a w=>listed.size=ops.size∧S w∧Like ops a0 a∧(∀j,listed.getD j false=true→∃v,p j v w)∧∀j k,listed.getD j false=true→slotB ops j k=true→p j (a.tmps.getD k undef) w) ?_ ?_ _ _ _ _ ?_ ⟨by simp,hS,⟨rfl,rfl,fun _ _=>rfl⟩,?_,?_⟩
  · rintro listed a w i ⟨hz,hSw,hL,hE,hP⟩ hi
    obtain⟨hjun,o,ho,hall⟩:=mem_ready.1 hi
    have hilt:=(Array.getElem?_eq_some_iff.1 ho).1
    have hst:=GSteps.get ops.toList 0 hs i o (by simpa using ho)
    rw[Nat.zero_add] at hst
    have hst2:=hst a w hSw hL (fun j k hj hk=>hP j k (by
      unfold waitsB at hj
      obtain⟨e,he,h2⟩:=Array.any_eq_true'.1 hj
      simp only[Bool.and_eq_true,beq_iff_eq] at h2
      have:=hall e he h2.2
      rw[h2.1] at this
      exact this) hk)
    suffices key:∀(v:Value) (w':World),S w'→R w w'→p i v w'→(listed.setIfInBounds i true).size=ops.size∧S w'∧Like ops a0 (a.put o.dst v)∧(∀j,(listed.setIfInBounds i true).getD j false=true→∃v,p j v w')∧∀j k,(listed.setIfInBounds i true).getD j false=true→slotB ops j k=true→p j ((a.put o.dst v).tmps.getD k undef) w' by
      rcases hst2 with ⟨hw,hx⟩|⟨hw,hR0,hp0⟩
      · unfold wpOp
        simp only[ho,hw,if_true]
        refine .inl (Oper.wp_mono ?_ hx)
        rintro a' w' ⟨v,rfl,hS',hR',hpv⟩
        exact key v w' hS' hR' hpv
      · unfold wpOp
        simp only[ho,hw,Bool.false_eq_true,if_false]
        exact key undef w hSw hR0 hp0
    intro v w' hS' hR' hpv
    refine⟨by simpa using hz,hS',⟨?_,?_,fun k hk=>?_⟩,fun j hj=>?_,fun j k hj hk=>?_⟩
    · cases h:o.dst <;> exact hL.defers
    · cases h:o.dst
      · exact hL.size
      · simp only[Act.put,Array.size_setIfInBounds];exact hL.size
    · cases h:o.dst with
      | none=>exact hL.far k hk
      | some d =>
        have hne:d≠k:=fun e=>by
          subst e
          unfold outside at hk
          have:=Array.all_eq_true.1 hk i hilt
          rw[(Array.getElem?_eq_some_iff.1 ho).2,h] at this
          simp at this
        simp only[Act.put,Array.getD_eq_getD_getElem?,Array.getElem?_setIfInBounds,if_neg hne]
        have:=hL.far k hk
        simpa only[Array.getD_eq_getD_getElem?] using this
    · by_cases hji:j=i
      · subst hji;exact⟨v,hpv⟩
      · have hjl:listed.getD j false=true:=by
          simp only[Array.getD_eq_getD_getElem?,Array.getElem?_setIfInBounds,if_neg (Ne.symm hji)] at hj ⊢
          exact hj
        obtain⟨u,hu⟩:=hE j hjl
        exact⟨u,hp j _ w w' hSw hS' hR' hu⟩
    · obtain⟨oj,hoj,hjk⟩:∃oj,ops[j]? = some oj∧oj.dst=some k:=by
        unfold slotB at hk
        cases h:ops[j]? with
        | none=>rw[h] at hk;cases hk
        | some oj=>rw[h] at hk;exact⟨oj,rfl,by simpa using hk⟩
      by_cases hji:j=i
      · subst hji
        rw[hoj] at ho
        cases ho
        have hkz:=(hdst j _ k hoj hjk).1
        rw[hjk]
        have:(a.put (some k) v).tmps.getD k undef=v:=by
          have:k<a.tmps.size:=by rw[hL.size];exact hkz
          simp[Act.put,Array.getD_eq_getD_getElem?,this]
        rw[this]
        exact hpv
      · have hjl:listed.getD j false=true:=by
          simp only[Array.getD_eq_getD_getElem?,Array.getElem?_setIfInBounds,if_neg (Ne.symm hji)] at hj ⊢
          exact hj
        have h1:=hp j _ w w' hSw hS' hR' (hP j k hjl hk)
        cases h:o.dst with
        | none=>exact h1
        | some d =>
          have hne:d≠k:=fun e=>by
            subst e
            exact hji ((hdst i o d ho h).2 j oj hoj hjk).symm
          simp only[Act.put,Array.getD_eq_getD_getElem?,Array.getElem?_setIfInBounds,if_neg hne] at h1 ⊢
          exact h1
  · rintro listed a w ⟨hz,hSw,hL,hE,hP⟩ hr
    have hall:∀n j,j<n→j<ops.size→listed.getD j false=true:=by
      intro n
      induction n with
      | zero=>intro j h;omega
      | succ n ih =>
        intro j hjn hj
        cases hl:listed.getD j true with
        | true =>
          have:j<listed.size:=by omega
          simpa [Array.getD_eq_getD_getElem?,this] using hl
        | false =>
          exfalso
          have hmem:j∈Region.ready .any ops listed:=mem_ready.2 ⟨hl,ops[j],by simp[hj],fun e he hb=>by
            have h1:=List.all_eq_true.1 hfw j (List.mem_range.2 hj)
            have h2:ops.getD j default=ops[j]:=by simp[Array.getD_eq_getD_getElem?,hj]
            rw[h2] at h1
            have h3:=Array.all_eq_true_iff_forall_mem.1 h1 e he
            rw[hb] at h3
            simp at h3
            exact ih e.on (by omega) (by omega)⟩
          rw[hr] at hmem
          cases hmem
    refine hd a w hSw hL (fun j k hk=>hP j k (hall (j+1) j (by omega) ?_) hk) (fun j hj=>hE j (hall (j+1) j (by omega) hj))
    unfold slotB at hk
    cases h:ops[j]? with
    | none=>rw[h] at hk;cases hk
    | some oj=>exact (Array.getElem?_eq_some_iff.1 h).1
  · unfold unlisted
    exact Nat.le_trans (List.length_filter_le _ _) (by simp)
  · intro j hj
    simp only[Array.getD_eq_getD_getElem?,Array.getElem?_replicate] at hj
    split at hj <;> simp at hj
  · intro j k hj
    simp only[Array.getD_eq_getD_getElem?,Array.getElem?_replicate] at hj
    split at hj <;> simp at hj
end
section
variable {P:Program} {ops:Array Oper} {Q:Exit→Act→World→Prop}
theorem GSteps.cons {S:World→Prop} {R:World→World→Prop} {p:Nat→Value→World→Prop} {a0:Act} {md:Region.Mode} {i:Nat} {o:Oper} {r:List Oper}
    (h:GStep P md ops Q S R p a0 i o) (hr:GSteps P md ops Q S R p a0 (i+1) r):GSteps P md ops Q S R p a0 i (o::r):=⟨h,hr⟩
theorem GSteps.nil {S:World→Prop} {R:World→World→Prop} {p:Nat→Value→World→Prop} {a0:Act} {md:Region.Mode} {i:Nat}:GSteps P md ops Q S R p a0 i []:=trivial
end
end Go.Kt
namespace Go.Kt
open Go

section
variable {P:Program} {ops:Array Oper} {Q:Exit→Act→World→Prop} {md:Region.Mode}

def EStep (P:Program) (md:Region.Mode) (ops:Array Oper) (Q:Exit→Act→World→Prop) (S:(Nat→Bool)→World→Prop) (p:Nat→Value→World→Prop) (a0:Act) (i:Nat) (o:Oper):Prop :=
  ∀(D:Nat→Bool) a w,D i=false→(∀j,awaits md ops j i=true→D j=false)→(∀j,waitsB md o j=true→D j=true)→S D w→Like ops a0 a→(∀j k,D j=false→slotB ops j k=true→a.tmps.getD k undef=a0.tmps.getD k undef)→(∀j k,waitsB md o j=true→slotB ops j k=true→p j (a.tmps.getD k undef) w) →
    Region.wanted o (yielded ops a.tmps)=true∧o.wp P a w (fun a' w'=>∃v,a'=a.put o.dst v∧S (fun j=>D j||j==i) w'∧(∀j u,D j=true→p j u w→p j u w')∧p i v w') Q
def ESteps (P:Program) (md:Region.Mode) (ops:Array Oper) (Q:Exit→Act→World→Prop) (S:(Nat→Bool)→World→Prop) (p:Nat→Value→World→Prop) (a0:Act):Nat→List Oper→Prop
  | _,[]=>True
  | i,o::r=>EStep P md ops Q S p a0 i o∧ESteps P md ops Q S p a0 (i+1) r
theorem ESteps.get {S:(Nat→Bool)→World→Prop} {p:Nat→Value→World→Prop} {a0:Act}:∀(l:List Oper) (i:Nat),ESteps P md ops Q S p a0 i l→∀j o,l[j]? = some o→EStep P md ops Q S p a0 (i+j) o
  | [],_,_,j,o,h=>by simp at h
  | x::r,i,hs,0,o,h=>by simp at h;subst h;exact hs.1
  | x::r,i,hs,j+1,o,h=>by
    have:=ESteps.get r (i+1) hs.2 j o (by simpa using h)
    rw[show i+(j+1)=i+1+j by omega];exact this
theorem ESteps.cons {S:(Nat→Bool)→World→Prop} {p:Nat→Value→World→Prop} {a0:Act} {i:Nat} {o:Oper} {r:List Oper} (h:EStep P md ops Q S p a0 i o) (hr:ESteps P md ops Q S p a0 (i+1) r):ESteps P md ops Q S p a0 i (o::r):=⟨h,hr⟩
theorem ESteps.nil {S:(Nat→Bool)→World→Prop} {p:Nat→Value→World→Prop} {a0:Act} {i:Nat}:ESteps P md ops Q S p a0 i []:=trivial

theorem wp_region_old {id:Nat} {a0:Act} {w0:World} (S:(Nat→Bool)→World→Prop) (p:Nat→Value→World→Prop) (hm:P.follows .mixedOrders=true) (hap:apartB ops a0.tmps.size=true) (hfw:forwardB .any ops=true)
    (hS:S (fun _=>false) w0.drew) (hs:ESteps P .any ops Q S p a0 0 ops.toList)
    (hd:∀D a w,(∀j,j<ops.size→D j=true)→S D w→Like ops a0 a→(∀j k,slotB ops j k=true→p j (a.tmps.getD k undef) w)→(∀j,j<ops.size→∃v,p j v w)→Q .normal a w):(Code.region id ops true).wp P Q a0 w0:=by
  have hdst:∀(i:Nat) (o:Oper) (k:Nat),ops[i]? = some o→o.dst=some k→k<a0.tmps.size∧∀(j:Nat) (oj:Oper),ops[j]? = some oj→oj.dst=some k→i=j:=by
    intro i o k ho hk
    have hi:=(Array.getElem?_eq_some_iff.1 ho).1
    have h1:=List.all_eq_true.1 hap i (List.mem_range.2 hi)
    have h2:ops.getD i default=o:=by simp[Array.getD_eq_getD_getElem?,ho]
    rw[h2,hk] at h1
    simp only[Bool.and_eq_true,decide_eq_true_eq] at h1
    refine⟨h1.1,fun j oj hj hjk=>?_⟩
    have hj':=(Array.getElem?_eq_some_iff.1 hj).1
    have h3:=List.all_eq_true.1 h1.2 j (List.mem_range.2 hj')
    have h4:ops.getD j default=oj:=by simp[Array.getD_eq_getD_getElem?,hj]
    rw[h4,hjk] at h3
    simpa using h3
  refine wp_region_any hm ?_
  refine wpAny_inv (fun listed a w=>listed.size=ops.size∧S (fun j=>listed.getD j false) w∧(∀j k,listed.getD j false=true→awaits .any ops j k=true→listed.getD k false=true)∧Like ops a0 a∧(∀j k,listed.getD j false=false→slotB ops j k=true→a.tmps.getD k undef=a0.tmps.getD k undef)∧(∀j,listed.getD j false=true→∃v,p j v w)∧∀j k,listed.getD j false=true→slotB ops j k=true→p j (a.tmps.getD k undef) w) ?_ ?_ _ _ _ _ ?_ ⟨by simp,by rw[show (fun j=>(Array.replicate ops.size false).getD j false)=fun _=>false from funext fun j=>by simp only[Array.getD_eq_getD_getElem?,Array.getElem?_replicate];split <;> rfl];exact hS,?_,⟨rfl,rfl,fun _ _=>rfl⟩,fun _ _ _ _=>rfl,?_,?_⟩
  · rintro listed a w i ⟨hz,hSw,hC,hL,hU,hE,hP⟩ hi
    obtain⟨hjun,o,ho,hall⟩:=mem_ready.1 hi
    have hilt:=(Array.getElem?_eq_some_iff.1 ho).1
    have hin:listed.getD i false=false:=by
      have hi2:i<listed.size:=by omega
      simpa [Array.getD_eq_getD_getElem?,hi2] using hjun
    have hw8:∀j,waitsB .any o j=true→listed.getD j false=true:=fun j hj=>by
      unfold waitsB at hj
      obtain⟨e,he,h2⟩:=Array.any_eq_true'.1 hj
      simp only[Bool.and_eq_true,beq_iff_eq] at h2
      have:=hall e he h2.2
      rw[h2.1] at this
      exact this
    have hst:=ESteps.get ops.toList 0 hs i o (by simpa using ho)
    rw[Nat.zero_add] at hst
    obtain⟨hw,hx⟩:=hst (fun j=>listed.getD j false) a w hin (fun j hj=>by
      cases hl:listed.getD j false with
      | false=>rfl
      | true=>have:=hC j i hl hj;rw[hin] at this;cases this) hw8 hSw hL hU (fun j k hj hk=>hP j k (hw8 j hj) hk)
    unfold wpOp
    simp only[ho,hw,if_true]
    refine .inl (Oper.wp_mono ?_ hx)
    rintro a' w' ⟨v,rfl,hS',hR',hpv⟩
    refine⟨by simpa using hz,by rw[set_done listed i (by omega)];exact hS',?_,⟨?_,?_,fun k hk=>?_⟩,fun j k hj hk=>?_,fun j hj=>?_,fun j k hj hk=>?_⟩
    · intro j k hj hk
      have hd1:=congrFun (set_done listed i (by omega))
      rw[hd1] at hj ⊢
      rw[Bool.or_eq_true] at hj ⊢
      left
      rcases hj with hj|hj
      · exact hC j k hj hk
      · have:j=i:=by simpa using hj
        subst this
        unfold awaits at hk
        rw[ho] at hk
        exact hw8 k hk
    · cases h:o.dst <;> exact hL.defers
    · cases h:o.dst
      · exact hL.size
      · simp only[Act.put,Array.size_setIfInBounds];exact hL.size
    · cases h:o.dst with
      | none=>exact hL.far k hk
      | some d =>
        have hne:d≠k:=fun e=>by
          subst e
          unfold outside at hk
          have:=Array.all_eq_true.1 hk i hilt
          rw[(Array.getElem?_eq_some_iff.1 ho).2,h] at this
          simp at this
        simp only[Act.put,Array.getD_eq_getD_getElem?,Array.getElem?_setIfInBounds,if_neg hne]
        have:=hL.far k hk
        simpa only[Array.getD_eq_getD_getElem?] using this
    · have hji:j≠i:=fun e=>by
        subst e
        have:j<listed.size:=by omega
        simp[Array.getD_eq_getD_getElem?,this] at hj
      have hjl:listed.getD j false=false:=by
        simp only[Array.getD_eq_getD_getElem?,Array.getElem?_setIfInBounds,if_neg (Ne.symm hji)] at hj ⊢
        exact hj
      have h1:=hU j k hjl hk
      obtain⟨oj,hoj,hjk⟩:∃oj,ops[j]? = some oj∧oj.dst=some k:=by
        unfold slotB at hk
        cases h:ops[j]? with
        | none=>rw[h] at hk;cases hk
        | some oj=>rw[h] at hk;exact⟨oj,rfl,by simpa using hk⟩
      cases h:o.dst with
      | none=>exact h1
      | some d =>
        have hne:d≠k:=fun e=>by
          subst e
          exact hji ((hdst i o d ho h).2 j oj hoj hjk).symm
        simp only[Act.put,Array.getD_eq_getD_getElem?,Array.getElem?_setIfInBounds,if_neg hne] at h1 ⊢
        exact h1
    · by_cases hji:j=i
      · subst hji;exact⟨v,hpv⟩
      · have hjl:listed.getD j false=true:=by
          simp only[Array.getD_eq_getD_getElem?,Array.getElem?_setIfInBounds,if_neg (Ne.symm hji)] at hj ⊢
          exact hj
        obtain⟨u,hu⟩:=hE j hjl
        exact⟨u,hR' j _ hjl hu⟩
    · obtain⟨oj,hoj,hjk⟩:∃oj,ops[j]? = some oj∧oj.dst=some k:=by
        unfold slotB at hk
        cases h:ops[j]? with
        | none=>rw[h] at hk;cases hk
        | some oj=>rw[h] at hk;exact⟨oj,rfl,by simpa using hk⟩
      by_cases hji:j=i
      · subst hji
        rw[hoj] at ho
        cases ho
        have hkz:=(hdst j _ k hoj hjk).1
        rw[hjk]
        have:(a.put (some k) v).tmps.getD k undef=v:=by
          have:k<a.tmps.size:=by rw[hL.size];exact hkz
          simp[Act.put,Array.getD_eq_getD_getElem?,this]
        rw[this]
        exact hpv
      · have hjl:listed.getD j false=true:=by
          simp only[Array.getD_eq_getD_getElem?,Array.getElem?_setIfInBounds,if_neg (Ne.symm hji)] at hj ⊢
          exact hj
        have h1:=hR' j _ hjl (hP j k hjl hk)
        cases h:o.dst with
        | none=>exact h1
        | some d =>
          have hne:d≠k:=fun e=>by
            subst e
            exact hji ((hdst i o d ho h).2 j oj hoj hjk).symm
          simp only[Act.put,Array.getD_eq_getD_getElem?,Array.getElem?_setIfInBounds,if_neg hne] at h1 ⊢
          exact h1
  · rintro listed a w ⟨hz,hSw,hC,hL,hU,hE,hP⟩ hr
    have hall:∀n j,j<n→j<ops.size→listed.getD j false=true:=by
      intro n
      induction n with
      | zero=>intro j h;omega
      | succ n ih =>
        intro j hjn hj
        cases hl:listed.getD j true with
        | true =>
          have:j<listed.size:=by omega
          simpa [Array.getD_eq_getD_getElem?,this] using hl
        | false =>
          exfalso
          have hmem:j∈Region.ready .any ops listed:=mem_ready.2 ⟨hl,ops[j],by simp[hj],fun e he hb=>by
            have h1:=List.all_eq_true.1 hfw j (List.mem_range.2 hj)
            have h2:ops.getD j default=ops[j]:=by simp[Array.getD_eq_getD_getElem?,hj]
            rw[h2] at h1
            have h3:=Array.all_eq_true_iff_forall_mem.1 h1 e he
            rw[hb] at h3
            simp at h3
            exact ih e.on (by omega) (by omega)⟩
          rw[hr] at hmem
          cases hmem
    refine hd _ a w (fun j hj=>hall (j+1) j (by omega) hj) hSw hL (fun j k hk=>hP j k (hall (j+1) j (by omega) ?_) hk) (fun j hj=>hE j (hall (j+1) j (by omega) hj))
    unfold slotB at hk
    cases h:ops[j]? with
    | none=>rw[h] at hk;cases hk
    | some oj=>exact (Array.getElem?_eq_some_iff.1 h).1
  · unfold unlisted
    exact Nat.le_trans (List.length_filter_le _ _) (by simp)
  · intro j k hj
    simp only[Array.getD_eq_getD_getElem?,Array.getElem?_replicate] at hj
    split at hj <;> simp at hj
  · intro j hj
    simp only[Array.getD_eq_getD_getElem?,Array.getElem?_replicate] at hj
    split at hj <;> simp at hj
  · intro j k hj
    simp only[Array.getD_eq_getD_getElem?,Array.getElem?_replicate] at hj
    split at hj <;> simp at hj
end
end Go.Kt
namespace Go.Kt
open Go Go.RowKit
structure AppR where
 w:World
 kv:Value
 E:TypeId
 sz:Nat
 n:Nat
 m:Nat
 xs:List Value
 ys:List Value
 bs:Array Value
 bl:Nat
 ib:Nat
 ia:Nat
 ic:Nat
 val:Nat→Option Value
section
variable {F:AppR}
def AppR.Row (F:AppR) (v:Value) (W:World):Prop :=
 ∃ao cp,v = .slice ao F.m cp∧OwnS (fun b=>F.kv.ownBlock=some b∨F.w.heap.size≤b) F.E F.sz v F.m F.ys W
def AppR.S (F:AppR) (D:Nat→Bool) (X:World):Prop :=
 (D F.ia=false→OwnS (fun b=>F.kv.ownBlock=some b) F.E F.sz F.kv F.n F.xs X)∧Keep (fun b=>F.kv.ownBlock=some b) F.w X
variable {D:Nat→Bool} {X Y W:World} {i:Nat} {v u:Value}
theorem AppR.S.more (h:F.S D X):F.S (fun j=>D j||j==i) X:=⟨fun e=>h.1 (orb_l e),h.2⟩
theorem AppR.S.below (h:F.S D X) (hb:Below X.heap.size X Y):F.S D Y :=
 ⟨fun e=>(h.1 e).keep (X:=fun _=>False) (Keep.of_all hb) (fun _ h=>h.elim),h.2.then (hb.mono h.2.size)⟩
theorem AppR.S.app (h:F.S D X) (hk:Keep (fun b=>F.kv.ownBlock=some b) X Y):F.S (fun j=>D j||j==F.ia) Y :=
 ⟨fun e=>by simp at e,h.2.trans hk⟩
def AppR.P (F:AppR) (i:Nat) (v:Value) (W:World):Prop :=
 (∀u,F.val i=some u→v=u)∧(i=F.ib→∃b,v = .slice (some ⟨b,0,none⟩) F.bl F.bl∧W.heap[b]? = some (.cells F.bs F.E (0,0))∧F.w.heap.size≤b)∧(i=F.ia∨i=F.ic→F.Row v W)
theorem AppR.P.is (h:F.P i v W) (e:F.val i=some u):v=u:=h.1 u e
theorem AppR.P.mk (e:F.val i=some v) (hi:i≠F.ib∧i≠F.ia∧i≠F.ic):F.P i v W :=
 ⟨fun u h=>by rw[e] at h;exact Option.some.inj h,fun h=>absurd h hi.1,fun h=>by rcases h with h|h;exact absurd h hi.2.1;exact absurd h hi.2.2⟩
theorem AppR.P.bs_ (e:F.val F.ib=none) (hi:F.ib≠F.ia∧F.ib≠F.ic) (h:∃b,v = .slice (some ⟨b,0,none⟩) F.bl F.bl∧W.heap[b]? = some (.cells F.bs F.E (0,0))∧F.w.heap.size≤b):F.P F.ib v W :=
 ⟨fun u h=>(by rw[e] at h;cases h),fun _=>h,fun h=>by rcases h with h|h;exact absurd h hi.1;exact absurd h hi.2⟩
theorem AppR.P.row (_hi:i=F.ia∨i=F.ic) (e:F.val i=none) (hb:i≠F.ib) (h:F.Row v W):F.P i v W :=
 ⟨fun u h=>(by rw[e] at h;cases h),fun h=>absurd h hb,fun _=>h⟩
theorem AppR.Row.below (h:F.Row v W) (hb:Below W.heap.size W Y):F.Row v Y:=by
 obtain⟨ao,cp,e,ho⟩:=h
 exact⟨ao,cp,e,ho.keep (X:=fun _=>False) (Keep.of_all hb) (fun _ h=>h.elim)⟩
theorem AppR.P.below (h:F.P i v W) (hb:Below W.heap.size W Y):F.P i v Y:=by
 refine⟨h.1,fun e=>?_,fun e=>(h.2.2 e).below hb⟩
 obtain⟨b,h1,h2,h3⟩:=h.2.1 e
 exact⟨b,h1,(hb.block b (Array.getElem?_eq_some_iff.1 h2).1).trans h2,h3⟩
theorem AppR.P.app (h:F.P i v W) (hkv:∀b,F.kv.ownBlock=some b→b<F.w.heap.size) (hk:Keep (fun b=>F.kv.ownBlock=some b) W Y) (ha:i≠F.ia) (hc:i≠F.ic):F.P i v Y:=by
 refine⟨h.1,fun e=>?_,fun e=>by rcases e with e|e;exact absurd e ha;exact absurd e hc⟩
 obtain⟨b,h1,h2,h3⟩:=h.2.1 e
 exact⟨b,h1,hk.heap h2 (fun h=>by have:=hkv b h;omega),h3⟩
end
end Go.Kt
namespace Go.Proofs.YtgpbaeehajkebaaGreatDoor
open Go Go.RowKit Go.Kt Go.Kt.Rg Go.Maps
theorem tinfoStr:(Tryz.prog.info? 9).map (fun i=>(i.zero,i.size,i.bytes))=some (some (.string ⟨#[]⟩),1,16):=by kernel_rfl
def encS (ws:List (List UInt8)):List Value:=ws.map fun x=>.string ⟨x.toArray⟩
def TxO (H:Nat) (v:Value) (ws:List (List UInt8)) (W:World):Prop:=OwnS (fun b=>H≤b) 9 1 v ws.length (encS ws) W
theorem txo_nil (H:Nat) (W:World):TxO H (.slice none 0 0) [] W:=own_nil _ _ _ _
theorem TxO.app {H:Nat} {v:Value} {ws:List (List UInt8)} {W:World} (h:TxO H v ws W) (hz:H≤W.heap.size) (hn:ws.length≤1048576) (x:ByteArray) :
 ∃v' W',(∀ty,(Builtin.append_ #[75,75] ty #[v,.slice (some ⟨W.heap.size,0,none⟩) 1 1]).run Tryz.prog (W.alloc (.cells #[.string x] 9)) = .ok v' W')∧TxO H v' (ws++[x.data.toList]) W'∧Below H W W':=by
 obtain⟨g,cap,w3,hrun,hown3,hk3,hg3,hz3⟩:=append_x (P:=Tryz.prog) W 75 9 Tryz.underlying75 tinfoStr rfl (by omega) h [.string x] rfl
  (by intro u hu;simp at hu;subst hu;rfl) (by unfold maxLen;omega) (by omega)
 have hgg:H≤g:=by
  rcases hg3 with hx|hx
  ·exact h.2 _ hx
  ·omega
 refine⟨_,w3,hrun,?_,hk3.below hz (fun b hb=>h.2 b hb)⟩
 have e:encS (ws++[x.data.toList])=encS ws++[.string x]:=by simp[encS]
 unfold TxO
 rw[e,List.length_append]
 exact hown3.weaken (fun b hb=>by subst hb;exact hgg)
theorem yAt_one (s:ByteArray) (i:Nat) (h:i<s.size):(s.extract i (i+1)).data.toList=[yAt s i]:=by
 have:=Lib.extract_toList s i (i+1)
 rw[ByteArray.toList_eq] at this
 rw[this,yAt_drop s i h,Nat.add_sub_cancel_left]
 rfl
theorem ycat (a b:ByteArray):(a++b).data.toList=a.data.toList++b.data.toList:=by rw[ByteArray.data_append,Array.toList_append]
theorem byt_is {b:UInt8} {k:Nat} (hk:k<256) (h:(b.toNat:Int)=(k:Nat)):b=UInt8.ofNat k:=by
 apply UInt8.toNat_inj.1
 rw[UInt8.toNat_ofNat_of_lt' hk]
 omega
def WdI (s:ByteArray) (ws:List (List UInt8)) (c:ByteArray) (i:Nat):Prop :=
 (i≤s.size∧wordsH [] s.data.toList=ws++wordsH c.data.toList (s.data.toList.drop i)∧ws.length≤i∧c.size≤i)∨(i=s.size+1∧wordsH [] s.data.toList=ws∧ws.length≤i∧c.size=0)
def flW (ws:List (List UInt8)) (c:ByteArray):List (List UInt8):=if c.data.toList=[] then ws else ws++[c.data.toList]
theorem fl_fire {ws:List (List UInt8)} {c:ByteArray}:flW ws c=ws++if c.data.toList=[] then [] else [c.data.toList]:=by
 unfold flW
 split
 ·rw[List.append_nil]
 ·rfl
theorem WdI.end_ {s c:ByteArray} {ws:List (List UInt8)} (h:WdI s ws c s.size):wordsH [] s.data.toList=flW ws c∧(flW ws c).length≤s.size+1:=by
 rcases h with ⟨_,h1,h2,_⟩|⟨h,_⟩
 ·rw[List.drop_eq_nil_of_le (by rw[←Lib.size_eq];exact Nat.le_refl _),wordsH] at h1
  refine⟨by rw[h1,fl_fire],?_⟩
  unfold flW
  split
  ·omega
  ·simp;omega
 ·omega
theorem WdI.rem {s c:ByteArray} {ws:List (List UInt8)} {i:Nat} (h:WdI s ws c i) (hi:i<s.size) (hb:yAt s i=35):wordsH [] s.data.toList=flW ws c:=by
 rcases h with ⟨_,h1,_⟩|⟨h,_⟩
 ·rw[yAt_drop s i hi,wordsH,if_pos hb] at h1
  rw[h1,fl_fire]
 ·omega
theorem WdI.blk {s c:ByteArray} {ws:List (List UInt8)} {i:Nat} (h:WdI s ws c i) (hi:i<s.size) (hb:yAt s i=32∨yAt s i=9):WdI s (flW ws c) ⟨#[]⟩ (i+1):=by
 rcases h with ⟨_,h1,h2,_⟩|⟨h,_⟩
 ·refine .inl ⟨by omega,?_,?_,Nat.zero_le _⟩
  ·rw[yAt_drop s i hi,wordsH,if_neg (by rcases hb with h|h <;> (rw[h];decide)),if_pos (by rcases hb with h|h <;> (rw[h];decide))] at h1
   rw[h1,fl_fire]
   split
   ·simp
   ·simp
  ·unfold flW
   split
   ·omega
   ·simp;omega
 ·omega
theorem WdI.byte {s c:ByteArray} {ws:List (List UInt8)} {i:Nat} (h:WdI s ws c i) (hi:i<s.size) (h35:yAt s i≠35) (h32:yAt s i≠32) (h9:yAt s i≠9):WdI s ws (c++s.extract i (i+1)) (i+1):=by
 rcases h with ⟨_,h1,h2,h3⟩|⟨h,_⟩
 ·have hz:(s.extract i (i+1)).size=1:=by rw[ByteArray.size_extract];omega
  refine .inl ⟨by omega,?_,by omega,by rw[ByteArray.size_append,hz];omega⟩
  have hbf:blkP (yAt s i).toNat=false:=blk_no ⟨fun e=>h32 (byt_is (k:=32) (by decide) (by rw[e])),fun e=>h9 (byt_is (k:=9) (by decide) (by rw[e]))⟩
  rw[yAt_drop s i hi,wordsH,if_neg h35,hbf] at h1
  rw[h1,ycat,yAt_one s i hi]
  rfl
 ·omega
theorem byt_nil {c:ByteArray} (h:c.data.toList=[]):c=⟨#[]⟩:=by
 obtain⟨⟨l⟩⟩:=c
 simp at h
 subst h
 rfl
set_option maxRecDepth 100000 in
set_option maxHeartbeats 4000000 in
theorem ywords (s:ByteArray) (w:World) (hs:s.size≤1048000) :
 Calls Tryz.prog 36 #[.string s] w fun e w'=>∃v,e = .returned v∧TxO w.heap.size v (wordsH [] s.data.toList) w'∧Below w.heap.size w w':=by
 go_enter Tryz.func36,Tryz.ntmps36
 go_wp2_with fail
 go_loopw [3,4,5] (fun u v x wr=>∃(i:Nat) (ws:List (List UInt8)) (c:ByteArray),v = .string c∧x = .int .i64 (i:Nat)∧i≤s.size+1∧Hid (WdI s ws c i∧TxO w.heap.size u ws wr∧Below w.heap.size w wr)) (fun _ _ x _=>s.size+1-(RowKit.intOf x).toNat)
 case atStart=>exact⟨0,[],⟨#[]⟩,rfl,rfl,Nat.zero_le _,Lib.hid ⟨.inl ⟨Nat.zero_le _,by rw[List.drop_zero];rfl,Nat.le_refl _,Nat.le_refl _⟩,txo_nil _ _,Below.refl _ _⟩⟩
 case round =>
  obtain⟨i,ws,c,rfl,rfl,hi,H⟩:=hrel
  by_cases hlt:i≤s.size
  ·have e1:(i:Int)≤s.size:=by omega
   have hk1:IntKind.i64.wrap ((i:Int)+1)=((i+1:Nat):Int):=by rw[IntWalk.i64_in _ (by omega)];omega
   have hwl:ws.length≤1048576:=by rcases H.out.1 with ⟨_,_,h,_⟩|⟨_,_,h,_⟩ <;> omega
   obtain⟨v',W',hrun,ht',hb'⟩:=H.out.2.1.app H.out.2.2.size hwl c
   have HRun:=Lib.hid hrun
   have HB':=Lib.hid (And.intro ht' (H.out.2.2.trans hb'))
   clear hrun ht' hb' hwl
   by_cases hend:i=s.size
   ·have q1:((i:Int)==(s.size:Int))=true:=by simp;omega
    have q2:¬(i:Int)<s.size:=by omega
    have HE:=Lib.hid (WdI.end_ (hend▸H.out.1))
    have HEN:=Lib.hid hend
    clear hend
    by_cases hc:c.data.toList=[]
    ·obtain rfl:=byt_nil hc
     have HF:Hid (flW ws ⟨#[]⟩=ws):=Lib.hid (by unfold flW;rw[if_pos hc])
     clear hc hlt
     go_wp2
     go_roundw
     case rel=>exact⟨i+1,ws,⟨#[]⟩,rfl,by go_num,by omega,Lib.hid ⟨.inr ⟨by have:=HEN.out;omega,by rw[HE.out.1,HF.out],by have:=HE.out.2;have:=HEN.out;rw[HF.out] at *;omega,rfl⟩,H.out.2.1,H.out.2.2⟩⟩
     case measure=>simp[RowKit.intOf];omega
    ·have HF:Hid (flW ws c=ws++[c.data.toList]):=Lib.hid (by unfold flW;rw[if_neg hc])
     have hcn:c.toList.isEmpty=false:=by
      rw[ByteArray.toList_eq]
      cases h9:c.data.toList with
      | nil=>exact absurd h9 hc
      | cons _ _=>rfl
     clear hc hlt
     go_wp2_with (first|(at_builtin;refine wpList_append_eq rfl rfl rfl rfl HRun.out ?_;clear HRun)|fail)
     go_roundw
     case rel=>exact⟨i+1,_,⟨#[]⟩,rfl,by go_num,by omega,Lib.hid ⟨.inr ⟨by have:=HEN.out;omega,by rw[HE.out.1,HF.out],by have:=HE.out.2;have:=HEN.out;rw[HF.out] at *;omega,rfl⟩,HB'.out.1,HB'.out.2⟩⟩
     case measure=>simp[RowKit.intOf];omega
   ·have hlt2:i<s.size:=by omega
    have q1:((i:Int)==(s.size:Int))=false:=by rw[beq_eq_false_iff_ne];omega
    have q2:(i:Int)<s.size:=by omega
    have HI:=fun W=>yAt_run s i hlt2 W
    obtain⟨b,hb⟩:∃b:Int,((yAt s i).toNat:Int)=b:=⟨_,rfl⟩
    rw[hb] at HI
    have HLT:=Lib.hid hlt2
    clear hend hlt hlt2
    by_cases h35:b=35
    ·subst h35
     have HE:=Lib.hid (H.out.1.rem HLT.out (byt_is (k:=35) (by decide) hb))
     by_cases hc:c.data.toList=[]
     ·obtain rfl:=byt_nil hc
      have HF:Hid (flW ws ⟨#[]⟩=ws):=Lib.hid (by unfold flW;rw[if_pos hc])
      clear hc hb
      go_wp2
      go_ret
      exact⟨_,rfl,by rw[HE.out,HF.out];exact H.out.2.1,H.out.2.2⟩
     ·have HF:Hid (flW ws c=ws++[c.data.toList]):=Lib.hid (by unfold flW;rw[if_neg hc])
      have hcn:c.toList.isEmpty=false:=by
       rw[ByteArray.toList_eq]
       cases h9:c.data.toList with
       | nil=>exact absurd h9 hc
       | cons _ _=>rfl
      clear hc hb
      go_wp2_with (first|(at_builtin;refine wpList_append_eq rfl rfl rfl rfl HRun.out ?_;clear HRun)|fail)
      go_ret
      exact⟨_,rfl,by rw[HE.out,HF.out];exact HB'.out.1,HB'.out.2⟩
    ·have r35:(b==35)=false:=beq_eq_false_iff_ne.2 h35
     by_cases hbl:b=32∨b=9
     ·have HE:=Lib.hid (H.out.1.blk HLT.out (by rcases hbl with h|h;exact .inl (byt_is (k:=32) (by decide) (hb.trans h));exact .inr (byt_is (k:=9) (by decide) (hb.trans h))))
      by_cases hc:c.data.toList=[]
      ·obtain rfl:=byt_nil hc
       have HF:Hid (flW ws ⟨#[]⟩=ws):=Lib.hid (by unfold flW;rw[if_pos hc])
       clear hc hb
       rcases hbl with rfl|rfl
       all_goals
        go_wp2
        go_roundw
        case rel=>exact⟨i+1,ws,⟨#[]⟩,rfl,by go_num,by have:=HLT.out;omega,Lib.hid ⟨by have:=HE.out;rwa[HF.out] at this,H.out.2.1,H.out.2.2⟩⟩
        case measure=>have:=HLT.out;simp[RowKit.intOf];omega
      ·have HF:Hid (flW ws c=ws++[c.data.toList]):=Lib.hid (by unfold flW;rw[if_neg hc])
       have hcn:c.toList.isEmpty=false:=by
        rw[ByteArray.toList_eq]
        cases h9:c.data.toList with
        | nil=>exact absurd h9 hc
        | cons _ _=>rfl
       clear hc hb
       rcases hbl with rfl|rfl
       all_goals
        go_wp2_with (first|(at_builtin;refine wpList_append_eq rfl rfl rfl rfl HRun.out ?_;clear HRun)|fail)
        go_roundw
        case rel=>exact⟨i+1,_,⟨#[]⟩,rfl,by go_num,by have:=HLT.out;omega,Lib.hid ⟨by have:=HE.out;rwa[HF.out] at this,HB'.out.1,HB'.out.2⟩⟩
        case measure=>have:=HLT.out;simp[RowKit.intOf];omega
     ·have r32:(b==32)=false:=beq_eq_false_iff_ne.2 (fun h=>hbl (.inl h))
      have r9:(b==9)=false:=beq_eq_false_iff_ne.2 (fun h=>hbl (.inr h))
      have HE:=Lib.hid (H.out.1.byte HLT.out (fun e=>h35 (by rw[←hb,e];rfl)) (fun e=>hbl (.inl (by rw[←hb,e];rfl))) (fun e=>hbl (.inr (by rw[←hb,e];rfl))))
      have s1:(0:Int)≤i:=by omega
      have s2:(i:Int)≤((i+1:Nat):Int):=by omega
      have s3:((i+1:Nat):Int)≤s.size:=by omega
      have hz:¬c.size+(s.extract i (i+1)).size>9223372036854775807:=by
       rw[ByteArray.size_extract]
       rcases H.out.1 with ⟨_,_,_,h⟩|⟨_,_,_,h⟩ <;> omega
      clear hb hbl
      go_wp2
      go_roundw
      case rel=>exact⟨i+1,ws,_,rfl,by go_num,by have:=HLT.out;omega,Lib.hid ⟨HE.out,H.out.2.1,H.out.2.2⟩⟩
      case measure=>have:=HLT.out;simp[RowKit.intOf];omega
  ·have e1:¬(i:Int)≤s.size:=by omega
   have HE:Hid (wordsH [] s.data.toList=ws):=Lib.hid (by rcases H.out.1 with ⟨h,_⟩|⟨_,h,_⟩;omega;exact h)
   clear hlt
   go_wp2
   go_ret
   exact⟨_,rfl,by rw[HE.out];exact H.out.2.1,H.out.2.2⟩
end Go.Proofs.YtgpbaeehajkebaaGreatDoor
namespace Go.Proofs.YtgpbaeehajkebaaGreatDoor
open Go Go.RowKit Go.Kt Go.Kt.Rg Go.Maps
def lnT (l:List UInt8):List UInt8:=Lib.trimSuffix (Lib.trimSuffix l [10]) [13]
theorem words_lnT (l:List UInt8):wordsH [] (lnT l)=wrdP l:=(wrdP_H l).symm
def lnsP (l:List UInt8):List (List UInt8):=(linesP l).map lnT
def LnI (s:ByteArray) (ws:List (List UInt8)) (f i:Nat):Prop :=
 (f≤i∧i≤s.size∧lnsP s.data.toList=ws++lnsP (s.data.toList.drop f)∧(∀j,f≤j→j<i→yAt s j≠10)∧ws.length≤f)∨(i=s.size+1∧f≤i∧lnsP s.data.toList=ws∧ws.length≤i)
def lnC' (s:ByteArray) (f i:Nat):List UInt8:=(s.data.toList.drop f).take (i-f)
theorem lnC_no {s:ByteArray} {f i:Nat} (h:∀j,f≤j→j<i→yAt s j≠10):∀x∈lnC' s f i,x≠10:=by
 intro x hx
 obtain⟨k,hk⟩:=List.getElem?_of_mem hx
 unfold lnC' at hk
 rw[List.getElem?_take] at hk
 split at hk
 ·rename_i hlt
  rw[List.getElem?_drop] at hk
  have:=h (f+k) (by omega) (by omega)
  unfold yAt at this
  rw[List.getD_eq_getElem?_getD,hk] at this
  exact this
 ·cases hk
theorem lnC_drop {s:ByteArray} {f i:Nat} (h:f≤i):s.data.toList.drop f=lnC' s f i++s.data.toList.drop i:=by
 unfold lnC'
 conv=>lhs;rw[←List.take_append_drop (i-f) (s.data.toList.drop f)]
 rw[List.drop_drop,show f+(i-f)=i by omega]
theorem LnI.skip {s:ByteArray} {ws:List (List UInt8)} {f i:Nat} (h:LnI s ws f i) (hi:i<s.size) (hb:yAt s i≠10):LnI s ws f (i+1):=by
 rcases h with ⟨h1,h2,h3,h4,h5⟩|⟨h,_⟩
 ·refine .inl ⟨by omega,by omega,h3,fun j hj hj2=>?_,h5⟩
  by_cases e:j=i
  ·subst e;exact hb
  ·exact h4 j hj (by omega)
 ·omega
theorem LnI.none {s:ByteArray} {ws:List (List UInt8)} (h:LnI s ws s.size s.size):LnI s ws s.size (s.size+1):=by
 rcases h with ⟨h1,h2,h3,h4,h5⟩|⟨h,_⟩
 ·rw[List.drop_eq_nil_of_le (by rw[←Lib.size_eq];exact Nat.le_refl _)] at h3
  exact .inr ⟨rfl,by omega,by rw[h3];simp[lnsP,linesP_nil],by omega⟩
 ·omega
theorem LnI.cut {s:ByteArray} {ws:List (List UInt8)} {f i:Nat} (h:LnI s ws f i) (hi:i<s.size) (hb:yAt s i=10):LnI s (ws++[Lib.trimSuffix (lnC' s f i) [13]]) (i+1) (i+1):=by
 rcases h with ⟨h1,h2,h3,h4,h5⟩|⟨h,_⟩
 ·refine .inl ⟨Nat.le_refl _,by omega,?_,fun j hj hj2=>by omega,by simp;omega⟩
  rw[h3,lnC_drop h1,yAt_drop s i hi,hb]
  unfold lnsP
  rw[lines_cons _ _ (lnC_no h4),List.map_cons,lnT,trims_end,List.append_assoc]
  rfl
 ·omega
theorem LnI.last {s:ByteArray} {ws:List (List UInt8)} {f:Nat} (h:LnI s ws f s.size) (hf:f<s.size):LnI s (ws++[Lib.trimSuffix (lnC' s f s.size) [13]]) (s.size+1) (s.size+1):=by
 rcases h with ⟨h1,h2,h3,h4,h5⟩|⟨h,_⟩
 ·refine .inr ⟨rfl,Nat.le_refl _,?_,by simp;omega⟩
  rw[h3,lnC_drop h1,List.drop_eq_nil_of_le (by rw[←Lib.size_eq];exact Nat.le_refl _),List.append_nil]
  have hne:lnC' s f s.size≠[]:=fun e=>by
   have:=congrArg List.length e
   have hln:s.data.toList.length=s.size:=(Lib.size_eq s).symm
   simp only[lnC',List.length_take,List.length_drop,List.length_nil] at this
   omega
  unfold lnsP
  rw[lines_one _ (lnC_no h4),if_neg hne,List.map_singleton,lnT,trims10 _ (lnC_no h4)]
 ·omega
theorem lnC_ext (s:ByteArray) (f i:Nat):(s.extract f i).data.toList=lnC' s f i:=by
 have:=Lib.extract_toList s f i
 rw[ByteArray.toList_eq] at this
 exact this
theorem trim_yes {t:ByteArray} {n:Nat} (hn:t.size=n+1) (hb:yAt t n=13):(t.extract 0 n).data.toList=Lib.trimSuffix t.data.toList [13]:=by
 have h1:t.data.toList=t.data.toList.take n++[13]:=by
  have h:=List.take_append_drop n t.data.toList
  rw[yAt_drop t n (by omega),hb,List.drop_eq_nil_of_le (by rw[←Lib.size_eq];omega)] at h
  exact h.symm
 have h2:=Lib.extract_toList t 0 n
 rw[ByteArray.toList_eq] at h2
 rw[h2,List.drop_zero,Nat.sub_zero]
 conv=>rhs;rw[h1]
 rw[trims_end]
theorem trim_no {t:ByteArray} {n:Nat} (hn:t.size=n+1) (hb:yAt t n≠13):t.data.toList=Lib.trimSuffix t.data.toList [13]:=by
 refine (trims_not 13 _ fun e=>hb ?_).symm
 rw[List.getLast?_eq_getElem?,←Lib.size_eq,hn,Nat.add_sub_cancel] at e
 unfold yAt
 rw[List.getD_eq_getElem?_getD,e];rfl
theorem slFT (s:ByteArray) (f i:Nat) (h1:f≤i) (h2:i≤s.size) (X:World):(Instr.sliceAt 9 (.string s) (some (.int .i64 (f:Nat))) (some (.int .i64 (i:Nat))) none).run Tryz.prog X = .ok (.string (s.extract f i)) X:=by
 have q0:(0:Int)≤f:=by omega
 have q1:(f:Int)≤i:=by omega
 have q2:(i:Int)≤s.size:=by omega
 go_simp
theorem slT0 (T:ByteArray) (i:Nat) (hT:i≤T.size) (X:World):(Instr.sliceAt 9 (.string T) none (some (.int .i64 (i:Nat))) none).run Tryz.prog X = .ok (.string (T.extract 0 i)) X:=by
 have q:(i:Int)≤T.size:=by omega
 go_simp
set_option maxRecDepth 100000 in
set_option maxHeartbeats 4000000 in
theorem ylines (s:ByteArray) (w:World) (hs:s.size≤1048000) :
 Calls Tryz.prog 35 #[.string s] w fun e w'=>∃v,e = .returned v∧TxO w.heap.size v (lnsP s.data.toList) w'∧Below w.heap.size w w':=by
 go_enter Tryz.func35,Tryz.ntmps35
 go_wp2_with fail
 go_loopw [3,4,5] (fun u v x wr=>∃(f i:Nat) (ws:List (List UInt8)),v = .int .i64 (f:Nat)∧x = .int .i64 (i:Nat)∧i≤s.size+1∧Hid (LnI s ws f i∧TxO w.heap.size u ws wr∧Below w.heap.size w wr)) (fun _ _ x _=>s.size+1-(RowKit.intOf x).toNat)
 case atStart=>exact⟨0,0,[],rfl,rfl,Nat.zero_le _,Lib.hid ⟨.inl ⟨Nat.le_refl _,Nat.zero_le _,by rw[List.drop_zero];rfl,fun j h1 h2=>by omega,Nat.le_refl _⟩,txo_nil _ _,Below.refl _ _⟩⟩
 case round =>
  obtain⟨f,i,ws,rfl,rfl,hi,H⟩:=hrel
  by_cases hlt:i≤s.size
  ·have e1:(i:Int)≤s.size:=by omega
   have hk1:IntKind.i64.wrap ((i:Int)+1)=((i+1:Nat):Int):=by rw[IntWalk.i64_in _ (by omega)];omega
   have hfi:f≤i:=by rcases H.out.1 with ⟨h,_⟩|⟨h,_⟩ <;> omega
   have hwl:ws.length≤1048576:=by rcases H.out.1 with ⟨_,_,_,_,h⟩|⟨_,_,_,h⟩ <;> omega
   have APP:=Lib.hid (fun c=>H.out.2.1.app H.out.2.2.size hwl c)
   clear hwl
   by_cases hend:i=s.size
   ·by_cases hf:f=i
    ·subst hf
     have q1:((f:Int)==(s.size:Int))=true:=by simp;omega
     have q2:¬(f:Int)<s.size:=by omega
     have HE:=Lib.hid (show LnI s ws f (f+1) by rw[hend] at H ⊢;exact H.out.1.none)
     clear hend hlt hfi
     go_wp2
     go_roundw
     case rel=>exact⟨f,f+1,ws,rfl,by go_num,by omega,Lib.hid ⟨HE.out,H.out.2.1,H.out.2.2⟩⟩
     case measure=>simp[RowKit.intOf];omega
    ·have q1:((i:Int)==(s.size:Int))=true:=by simp;omega
     have q2:¬(i:Int)<s.size:=by omega
     have q3:((f:Int)==(i:Int))=false:=by rw[beq_eq_false_iff_ne];omega
     have HE:=Lib.hid (show LnI s (ws++[Lib.trimSuffix (lnC' s f i) [13]]) (i+1) (i+1) by rw[hend] at H ⊢;exact H.out.1.last (by omega))
     have HS:=fun W=>slFT s f i hfi hlt W
     obtain⟨T,hT⟩:∃T,s.extract f i=T:=⟨_,rfl⟩
     have hTl:T.data.toList=lnC' s f i:=by rw[←hT];exact lnC_ext s f i
     have hTz:T.size≤s.size:=by rw[←hT,ByteArray.size_extract];omega
     rw[hT] at HS
     have HTL:=Lib.hid hTl
     clear hT hTl hlt hfi hend hf
     rcases Nat.eq_zero_or_pos T.size with hz|hz
     ·have hT0:T.data.toList=[]:=List.length_eq_zero_iff.1 (by rw[←Lib.size_eq];exact hz)
      obtain rfl:=byt_nil hT0
      obtain⟨v',W',hrun,ht',hb'⟩:=APP.out ⟨#[]⟩
      have HRun:=Lib.hid hrun
      have HN:Hid (Lib.trimSuffix (lnC' s f i) [13]=[]):=Lib.hid (by rw[←HTL.out];rfl)
      have HB':=Lib.hid (And.intro ht' (H.out.2.2.trans hb'))
      clear hrun ht' hb' hz hT0 hTz
      go_wp2_with (first|(at_builtin;refine wpList_append_eq rfl rfl rfl rfl HRun.out ?_;clear HRun)|fail)
      go_roundw
      case rel=>exact⟨i+1,i+1,_,by go_num,by go_num,by omega,Lib.hid ⟨by have:=HE.out;rwa[HN.out] at this,HB'.out.1,HB'.out.2⟩⟩
      case measure=>simp[RowKit.intOf];omega
     ·obtain⟨n,hn⟩:∃n,T.size=n+1:=⟨T.size-1,by omega⟩
      have hie:T.toList.isEmpty=false:=by
       rw[ByteArray.toList_eq]
       cases h9:T.data.toList with
       | nil=>exact absurd ((Lib.size_eq T).trans (congrArg List.length h9)) (by rw[hn];simp)
       | cons _ _=>rfl
      have hw2:IntKind.i64.wrap ((T.size:Int)-1)=(n:Nat):=by rw[IntWalk.i64_in _ (by omega)];omega
      have HI2:=fun W=>yAt_run T n (by omega) W
      obtain⟨c,hc⟩:∃c:Int,((yAt T n).toNat:Int)=c:=⟨_,rfl⟩
      rw[hc] at HI2
      by_cases h13:c=13
      ·subst h13
       have HS2:=fun W=>slT0 T n (by omega) W
       have hT2:=trim_yes hn (byt_is (k:=13) (by decide) hc)
       obtain⟨T2,hTT⟩:∃T2,T.extract 0 n=T2:=⟨_,rfl⟩
       rw[hTT] at HS2 hT2
       obtain⟨v',W',hrun,ht',hb'⟩:=APP.out T2
       have HRun:=Lib.hid hrun
       have HN:Hid (Lib.trimSuffix (lnC' s f i) [13]=T2.data.toList):=Lib.hid (by rw[←HTL.out,hT2])
       have HB':=Lib.hid (And.intro ht' (H.out.2.2.trans hb'))
       clear hrun ht' hb' hz hc hTT hT2 hn hTz
       go_wp2_with (first|(at_builtin;refine wpList_append_eq rfl rfl rfl rfl HRun.out ?_;clear HRun)|fail)
       go_roundw
       case rel=>exact⟨i+1,i+1,_,by go_num,by go_num,by omega,Lib.hid ⟨by have:=HE.out;rwa[HN.out] at this,HB'.out.1,HB'.out.2⟩⟩
       case measure=>simp[RowKit.intOf];omega
      ·have r13:(c==13)=false:=beq_eq_false_iff_ne.2 h13
       have hT2:=trim_no hn (fun e=>h13 (by rw[←hc,e];rfl))
       obtain⟨v',W',hrun,ht',hb'⟩:=APP.out T
       have HRun:=Lib.hid hrun
       have HN:Hid (Lib.trimSuffix (lnC' s f i) [13]=T.data.toList):=Lib.hid (by rw[←HTL.out];exact hT2.symm)
       have HB':=Lib.hid (And.intro ht' (H.out.2.2.trans hb'))
       clear hrun ht' hb' hz hc hT2 hn hTz
       go_wp2_with (first|(at_builtin;refine wpList_append_eq rfl rfl rfl rfl HRun.out ?_;clear HRun)|fail)
       go_roundw
       case rel=>exact⟨i+1,i+1,_,by go_num,by go_num,by omega,Lib.hid ⟨by have:=HE.out;rwa[HN.out] at this,HB'.out.1,HB'.out.2⟩⟩
       case measure=>simp[RowKit.intOf];omega
   ·have hlt2:i<s.size:=by omega
    have q1:((i:Int)==(s.size:Int))=false:=by rw[beq_eq_false_iff_ne];omega
    have q2:(i:Int)<s.size:=by omega
    have HI:=fun W=>yAt_run s i hlt2 W
    obtain⟨b,hb⟩:∃b:Int,((yAt s i).toNat:Int)=b:=⟨_,rfl⟩
    rw[hb] at HI
    by_cases h10:b=10
    ·subst h10
     have HE:=Lib.hid (H.out.1.cut hlt2 (byt_is (k:=10) (by decide) hb))
     clear hb
     have HS:=fun W=>slFT s f i hfi hlt W
     obtain⟨T,hT⟩:∃T,s.extract f i=T:=⟨_,rfl⟩
     have hTl:T.data.toList=lnC' s f i:=by rw[←hT];exact lnC_ext s f i
     have hTz:T.size≤s.size:=by rw[←hT,ByteArray.size_extract];omega
     rw[hT] at HS
     have HTL:=Lib.hid hTl
     clear hT hTl hlt hfi hend
     rcases Nat.eq_zero_or_pos T.size with hz|hz
     ·have hT0:T.data.toList=[]:=List.length_eq_zero_iff.1 (by rw[←Lib.size_eq];exact hz)
      obtain rfl:=byt_nil hT0
      obtain⟨v',W',hrun,ht',hb'⟩:=APP.out ⟨#[]⟩
      have HRun:=Lib.hid hrun
      have HN:Hid (Lib.trimSuffix (lnC' s f i) [13]=[]):=Lib.hid (by rw[←HTL.out];rfl)
      have HB':=Lib.hid (And.intro ht' (H.out.2.2.trans hb'))
      clear hrun ht' hb' hz hT0 hTz
      go_wp2_with (first|(at_builtin;refine wpList_append_eq rfl rfl rfl rfl HRun.out ?_;clear HRun)|fail)
      go_roundw
      case rel=>exact⟨i+1,i+1,_,by go_num,by go_num,by omega,Lib.hid ⟨by have:=HE.out;rwa[HN.out] at this,HB'.out.1,HB'.out.2⟩⟩
      case measure=>simp[RowKit.intOf];omega
     ·obtain⟨n,hn⟩:∃n,T.size=n+1:=⟨T.size-1,by omega⟩
      have hie:T.toList.isEmpty=false:=by
       rw[ByteArray.toList_eq]
       cases h9:T.data.toList with
       | nil=>exact absurd ((Lib.size_eq T).trans (congrArg List.length h9)) (by rw[hn];simp)
       | cons _ _=>rfl
      have hw2:IntKind.i64.wrap ((T.size:Int)-1)=(n:Nat):=by rw[IntWalk.i64_in _ (by omega)];omega
      have HI2:=fun W=>yAt_run T n (by omega) W
      obtain⟨c,hc⟩:∃c:Int,((yAt T n).toNat:Int)=c:=⟨_,rfl⟩
      rw[hc] at HI2
      by_cases h13:c=13
      ·subst h13
       have HS2:=fun W=>slT0 T n (by omega) W
       have hT2:=trim_yes hn (byt_is (k:=13) (by decide) hc)
       obtain⟨T2,hTT⟩:∃T2,T.extract 0 n=T2:=⟨_,rfl⟩
       rw[hTT] at HS2 hT2
       obtain⟨v',W',hrun,ht',hb'⟩:=APP.out T2
       have HRun:=Lib.hid hrun
       have HN:Hid (Lib.trimSuffix (lnC' s f i) [13]=T2.data.toList):=Lib.hid (by rw[←HTL.out,hT2])
       have HB':=Lib.hid (And.intro ht' (H.out.2.2.trans hb'))
       clear hrun ht' hb' hz hc hTT hT2 hn hTz
       go_wp2_with (first|(at_builtin;refine wpList_append_eq rfl rfl rfl rfl HRun.out ?_;clear HRun)|fail)
       go_roundw
       case rel=>exact⟨i+1,i+1,_,by go_num,by go_num,by omega,Lib.hid ⟨by have:=HE.out;rwa[HN.out] at this,HB'.out.1,HB'.out.2⟩⟩
       case measure=>simp[RowKit.intOf];omega
      ·have r13:(c==13)=false:=beq_eq_false_iff_ne.2 h13
       have hT2:=trim_no hn (fun e=>h13 (by rw[←hc,e];rfl))
       obtain⟨v',W',hrun,ht',hb'⟩:=APP.out T
       have HRun:=Lib.hid hrun
       have HN:Hid (Lib.trimSuffix (lnC' s f i) [13]=T.data.toList):=Lib.hid (by rw[←HTL.out];exact hT2.symm)
       have HB':=Lib.hid (And.intro ht' (H.out.2.2.trans hb'))
       clear hrun ht' hb' hz hc hT2 hn hTz
       go_wp2_with (first|(at_builtin;refine wpList_append_eq rfl rfl rfl rfl HRun.out ?_;clear HRun)|fail)
       go_roundw
       case rel=>exact⟨i+1,i+1,_,by go_num,by go_num,by omega,Lib.hid ⟨by have:=HE.out;rwa[HN.out] at this,HB'.out.1,HB'.out.2⟩⟩
       case measure=>simp[RowKit.intOf];omega
    ·have r10:(b==10)=false:=beq_eq_false_iff_ne.2 h10
     have HE:=Lib.hid (H.out.1.skip hlt2 (fun e=>h10 (by rw[←hb,e];rfl)))
     clear hb hend hlt hfi
     go_wp2
     go_roundw
     case rel=>exact⟨f,i+1,ws,rfl,by go_num,by omega,Lib.hid ⟨HE.out,H.out.2.1,H.out.2.2⟩⟩
     case measure=>simp[RowKit.intOf];omega
  ·have e1:¬(i:Int)≤s.size:=by omega
   have HE:Hid (lnsP s.data.toList=ws):=Lib.hid (by rcases H.out.1 with ⟨_,h,_⟩|⟨_,_,h,_⟩;omega;exact h)
   clear hlt
   go_wp2
   go_ret
   exact⟨_,rfl,by rw[HE.out];exact H.out.2.1,H.out.2.2⟩
end Go.Proofs.YtgpbaeehajkebaaGreatDoor
namespace Go.Proofs.YtgpbaeehajkebaaGreatDoor
open Go Go.RowKit Go.Kt Go.Extern.Stop Go.Stop Go.Extern
abbrev fv (k l a:Int):Value:=.agg #[.int .i64 k,.int .i64 l,.int .i64 a]
def xComparable:Array Value→Sem Value:=ReflectliteType.method fun t=>do Rtype.noPackHeld "Comparable" t;pure (.bool (←typeInfo t).comparable)
end Go.Proofs.YtgpbaeehajkebaaGreatDoor
namespace Go.Proofs.YtgpbaeehajkebaaGreatDoor
open Go Go.RowKit Go.Kt Go.Extern.Stop Go.Stop Go.Extern
def xValueOf (args:Array Value):Sem Value:=ReflectliteValue.unpack (args.getD 0 (.tuple #[]))
def xType:Array Value→Sem Value:=ReflectliteValue.methodAny (ReflectliteValue.valueError "reflectlite.Value.Type" 0) fun t _ _ _=>ReflectliteType.toType t
def xKind:Array Value→Sem Value:=ReflectliteType.abiMethod fun t=>do pure (.int .u8 (←Rtype.kind t))
def xIsNil:Array Value→Sem Value:=ReflectliteValue.method (ReflectliteValue.valueError "reflectlite.Value.IsNil" 0) ReflectliteValue.isNil
def xElemT:Array Value→Sem Value:=ReflectliteType.method ReflectliteType.elem
def xImplements:Array Value→Sem Value:=ReflectliteType.relation "Implements" ReflectliteType.implements_
def xAssignable:Array Value→Sem Value:=ReflectliteType.relation "AssignableTo" ReflectliteType.assignableTo
def xElemV:Array Value→Sem Value:=ReflectliteValue.method (ReflectliteValue.valueError "reflectlite.Value.Elem" 0) ReflectliteValue.elem
def xSet:Array Value→Sem Value:=ReflectliteValue.set
abbrev tyH (t:Nat):Value:=.pointer (some ⟨10,t,none⟩)
abbrev vagg (t:Nat) (a:Addr) (f:Int):Value:=.agg #[tyH t,.pointer (some a),.int .u64 f]
end Go.Proofs.YtgpbaeehajkebaaGreatDoor
namespace Go.Proofs.YtgpbaeehajkebaaGreatDoor
open Go Go.RowKit Go.Kt Go.Extern.Stop Go.Stop Go.Extern
def AsOut (g:Nat) (k l a:Int) (w:World) (e:Ending) (w':World):Prop :=
 e = .returned (.bool true)∧w'.heap[g]? = some (.cells #[.int .i64 k,.int .i64 l,.int .i64 a] 111 (0,0))∧Keep (fun b=>b=g) w w'
end Go.Proofs.YtgpbaeehajkebaaGreatDoor
namespace Go.Proofs.YtgpbaeehajkebaaGreatDoor
open Go Go.RowKit Go.Kt
end Go.Proofs.YtgpbaeehajkebaaGreatDoor
