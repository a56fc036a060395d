/- Parts of the proof of what the last text says. -/
import Derived.Test.YtgpbaeehajkebaaGreatDoorGv23
import Derived.Test.YtgpbaeehajkebaaGreatDoorGv17
import Derived.Test.YtgpbaeehajkebaaGreatDoorGv20
import Derived.Test.YtgpbaeehajkebaaGreatDoorZjx
import Derived.Test.YtgpbaeehajkebaaGreatDoorWpx
import Derived.Test.YtgpbaeehajkebaaGreatDoorGv19
import Derived.LaidHandle
namespace Go.Proofs.YtgpbaeehajkebaaGreatDoor
open Go Go.RowKit Go.Kt Go.Kt.Rg Go.Maps
def dgB (b:UInt8):Bool:=decide (48≤b.toNat∧b.toNat≤57)
def dgN (b:UInt8):Nat:=b.toNat-48
def dcV (n:Nat) (l:List UInt8):Nat:=l.foldl (fun a b=>10*a+dgN b) n
theorem dcV_nil (n:Nat):dcV n []=n:=rfl
theorem dcV_cons (n:Nat) (b:UInt8) (t:List UInt8):dcV n (b::t)=dcV (10*n+dgN b) t:=by unfold dcV;rw[List.foldl_cons]
theorem dig10_all:((List.range 256).all fun n=>decide (digB 10 (UInt8.ofNat n)=if 48≤n∧n≤57 then some (n-48) else none))=true:=by kernel_rfl
theorem digB10 (b:UInt8):digB 10 b=if dgB b=true then some (dgN b) else none:=by
 have:=List.all_eq_true.1 dig10_all b.toNat (List.mem_range.2 b.toNat_lt)
 have:=of_decide_eq_true this
 rw[UInt8.ofNat_toNat] at this
 rw[this]
 unfold dgB dgN
 by_cases h:48≤b.toNat∧b.toNat≤57
 ·rw[if_pos h,if_pos (by simpa using h)]
 ·rw[if_neg h,if_neg (by simpa using h)]
def dgA (l:List UInt8):Bool:=l.all dgB
theorem numF10:∀(l:List UInt8) (n:Nat),numF 10 n l=if dgA l=true then some (dcV n l) else none
 | [],n=>rfl
 | b::t,n=>by
   rw[numF,digB10]
   unfold dgA
   rw[List.all_cons]
   cases hb:dgB b with
   | false=>simp
   | true =>
     simp only[if_true,Bool.true_and]
     exact numF10 t _
theorem dcV_ge:∀(l:List UInt8) (n:Nat),n*10 ^ l.length≤dcV n l
 | [],n=>by simp[dcV_nil]
 | b::t,n=>by
   rw[dcV_cons,List.length_cons,Nat.pow_succ]
   have h:=dcV_ge t (10*n+dgN b)
   have h2:10*n*10 ^ t.length≤(10*n+dgN b)*10 ^ t.length:=Nat.mul_le_mul_right _ (by omega)
   have h3:n*(10 ^ t.length*10)=10*n*10 ^ t.length:=by rw[Nat.mul_comm (10 ^ t.length) 10,←Nat.mul_assoc,Nat.mul_comm n 10]
   omega
theorem dcV_le_of (l:List UInt8) (n:Nat):n≤dcV n l:=by
 have h:=dcV_ge l n
 have h2:n*1≤n*10 ^ l.length:=Nat.mul_le_mul_left _ (Nat.pow_pos (by decide))
 omega
theorem dgB_iff {b:UInt8}:dgB b=true↔48≤b.toNat∧b.toNat≤57:=by simp[dgB]
theorem digs_has:∀n:Fin 256,digs.contains (UInt8.ofNat n.1)=decide (48≤n.1∧n.1≤57):=of_decide_eq_true (by kernel_rfl)
theorem digs_dgB (b:UInt8):digs.contains b=dgB b:=by
 have:=digs_has ⟨b.toNat,b.toNat_lt⟩
 simp only[UInt8.ofNat_toNat] at this
 exact this
theorem dropw_all {p:UInt8→Bool}:∀ {l:List UInt8},(∀x∈l,p x=true)→l.dropWhile p=[]
 | [],_=>rfl
 | b::t,h=>by
   rw[List.dropWhile_cons,if_pos (h b List.mem_cons_self)]
   exact dropw_all (fun x hx=>h x (List.mem_cons_of_mem _ hx))
theorem trim_dg (l:List UInt8):Lib.trimS l digs=[]↔dgA l=true:=by
 unfold dgA
 rw[List.all_eq_true]
 constructor
 ·intro ht x hx
  unfold Lib.trimS Lib.trimLeftS at ht
  have h1:=dropw_nil ht
  have hR:Lib.trimRightS l digs=[]:=by
   unfold Lib.trimRightS at h1 ⊢
   cases e:l.reverse.dropWhile (digs.contains ·) with
   | nil=>rfl
   | cons x t =>
     have h2:=dropw_head e
     have h3:=h1 x (by rw[e];simp)
     rw[h2] at h3;cases h3
  unfold Lib.trimRightS at hR
  have h4:=dropw_nil (List.reverse_eq_nil_iff.1 hR) x (List.mem_reverse.2 hx)
  rw[←digs_dgB];exact h4
 ·intro h
  unfold Lib.trimS Lib.trimLeftS Lib.trimRightS
  have h2:l.reverse.dropWhile (digs.contains ·)=[]:=dropw_all (fun x hx=>(digs_dgB x).trans (h x (List.mem_reverse.1 hx)))
  rw[h2]
  rfl
theorem parse_dg:∀(l:List UInt8) (n:Nat),dgA l=true→(Lib.parseUint10 n l = .ok (dcV n l))∨(Lib.parseUint10 n l = .range∧254<dcV n l)
 | [],n,_=>.inl rfl
 | b::t,n,h=>by
   unfold dgA at h
   rw[List.all_cons,Bool.and_eq_true] at h
   have hb:=dgB_iff.1 h.1
   rw[Lib.parseUint10,if_pos hb,dcV_cons]
   by_cases h1:1844674407370955162≤n
   ·rw[if_pos h1]
    exact .inr ⟨rfl,by have:=dcV_le_of t (10*n+dgN b);unfold dgN at *;omega⟩
   ·rw[if_neg h1]
    by_cases h2:18446744073709551616≤n*10+(b.toNat-48)
    ·rw[if_pos h2]
     exact .inr ⟨rfl,by have:=dcV_le_of t (10*n+dgN b);unfold dgN at *;omega⟩
    ·rw[if_neg h2,Nat.mul_comm n 10]
     exact parse_dg t _ h.2
def docC (l:List UInt8):Nat × Int:=if dgA l=false∨(1<l.length∧l.head? = some 48) then (11,0) else if 254<dcV 0 l then (1,0) else (0,(dcV 0 l:Nat))
theorem docC_cls {l:List UInt8} (hl:l≠[]):clsP l=docC l:=by
 have h48:(l≠[48]∧l.head? = some 48)↔(1<l.length∧l.head? = some 48):=by
  cases l with
  | nil=>exact absurd rfl hl
  | cons b t =>
    cases t with
    | nil=>simp
    | cons c u=>simp
 unfold clsP docC
 cases hd:dgA l with
 | false =>
   have:Lib.trimS l digs≠[]:=fun e=>by rw[trim_dg,hd] at e;cases e
   rw[if_pos (.inl this),if_pos (.inl rfl)]
 | true =>
   have ht:=(trim_dg l).2 hd
   by_cases h1:1<l.length∧l.head? = some 48
   ·rw[if_pos (.inr (h48.2 h1)),if_pos (.inr h1)]
   ·rw[if_neg (fun h=>by rcases h with h|h;exact h ht;exact h1 (h48.1 h)),if_neg (fun h=>by rcases h with h|h;cases h;exact h1 h)]
    cases l with
    | nil=>exact absurd rfl hl
    | cons b t =>
      have hb:48≤b.toNat∧b.toNat≤57:=by
       unfold dgA at hd
       rw[List.all_cons,Bool.and_eq_true] at hd
       exact dgB_iff.1 hd.1
      unfold Lib.atoiAll
      simp only
      rw[if_neg (show ¬(b.toNat=43∨b.toNat=45) by omega)]
      unfold Lib.parseMag
      rw[if_neg (by simp)]
      have h45:¬b.toNat=45:=by omega
      rcases parse_dg (b::t) 0 hd with h|⟨h,hv⟩
      ·rw[h]
       simp only[h45,not_false_eq_true,true_and,false_and,if_false]
       by_cases hg:9223372036854775808≤dcV 0 (b::t)
       ·rw[if_pos hg,if_pos (by omega)]
       ·rw[if_neg hg]
        simp only
        by_cases hv:254<dcV 0 (b::t)
        ·rw[if_pos hv,if_pos (by omega)]
        ·rw[if_neg hv,if_neg (by omega)]
      ·rw[h,if_pos hv]
theorem docC_long {l:List UInt8} (hd:dgA l=true) (h18:18<l.length) (h0:l.head?≠some 48):254<dcV 0 l:=by
 cases l with
 | nil=>simp at h18
 | cons b t =>
   have hb:48≤b.toNat∧b.toNat≤57:=by
    unfold dgA at hd
    rw[List.all_cons,Bool.and_eq_true] at hd
    exact dgB_iff.1 hd.1
   have hb2:b.toNat≠48:=fun e=>h0 (by
    have:b=48:=UInt8.toNat_inj.1 (by rw[e];rfl)
    rw[this];rfl)
   rw[dcV_cons]
   have h1:=dcV_ge t (10*0+dgN b)
   have h2:10 ^ 18≤10 ^ t.length:=Nat.pow_le_pow_right (by decide) (by simp at h18;omega)
   have h3:1*10 ^ t.length≤(10*0+dgN b)*10 ^ t.length:=Nat.mul_le_mul_right _ (by unfold dgN;omega)
   have h4:(10:Nat) ^ 18=1000000000000000000:=by decide
   omega
theorem numG10 (l:List UInt8) (hl:l≠[]):numG 10 1 18 l=if l.length≤18∧dgA l=true then ((dcV 0 l:Nat):Int) else -1:=by
 have:=List.length_pos_iff.2 hl
 unfold numG
 by_cases h:18<l.length
 ·rw[if_pos (.inr h),if_neg (by omega)]
 ·rw[if_neg (by omega),numF10]
  cases dgA l with
  | false=>simp
  | true=>rw[if_pos rfl,if_pos ⟨by omega,rfl⟩]
end Go.Proofs.YtgpbaeehajkebaaGreatDoor
namespace Go.Proofs.YtgpbaeehajkebaaGreatDoor
open Go Go.RowKit Go.Kt Go.Kt.Rg Go.Maps
def TxR (w:World) (v:Value) (ws:List (List UInt8)):Prop :=
 ∃ao cap,v = .slice ao ws.length cap∧(ws=[]∨∃g,ao=some ⟨g,0,none⟩∧∀(i:Nat) (x:List UInt8),ws[i]? = some x→w.cell? ⟨g,i,none⟩=some (.string ⟨x.toArray⟩))
theorem TxO.tx {H:Nat} {v:Value} {ws:List (List UInt8)} {w:World} (h:TxO H v ws w):TxR w v ws:=by
 rcases OwnS.shape h with ⟨e,h0⟩|⟨g,cap,e,_⟩
 ·exact⟨none,0,by rw[e,h0],.inl (List.length_eq_zero_iff.1 h0)⟩
 ·subst e
  refine⟨_,cap,rfl,.inr ⟨g,rfl,fun i x hx=>OwnS.at0 h (i:=i) ?_⟩⟩
  simp[encS,List.getElem?_map,hx]
def KTabX (w:World):Prop:=∀k (hk:k<8),w.cell? ⟨0,k,none⟩=some (.string ⟨(kdN[k]'hk).toArray⟩)
theorem KTabX.below {A B:World} (h:KTabX A) (hb:Below A.heap.size A B):KTabX B:=fun k hk=>(hb.cell (lt_of_cell (h k hk))).trans (h k hk)
theorem tinfoRowX:(Tryz.prog.info? 135).map (fun i=>(i.zero,i.size,i.bytes))=some (some (.agg #[.int .i64 0,.int .i64 0,.int .i64 0]),3,24):=by kernel_rfl
abbrev wCls:List UInt8:=[99,108,97,115,115]
abbrev wKnd:List UInt8:=[107,105,110,100]
abbrev wFld:List UInt8:=[102,111,108,100]
abbrev wDcp:List UInt8:=[100,101,99,111,109,112]
section
variable {B0 g:Nat} {ρ:Nat→Nat} {X:XdS} {S:RdS} {cv kv fv dv:Value} {w w':World}
theorem PxW.no (h:PxW B0 ρ g X cv kv fv dv w) {N no:Nat} (hN:X.fl.length≤N∧X.dl.length≤N) (h0:no≠0) (E:RdS) (hb:Below w.heap.size w w'):PxOut B0 g N no E w (.returned (.int .i64 (no:Nat))) w' :=
 ⟨rfl,hb.mono h.hB,ρ,X,cv,kv,fv,dv,h.below hb,fun e=>absurd e h0,hN⟩
theorem PxW.appc (h:PxW B0 ρ g X cv kv fv dv w) (hX:XRel X S) (hm:X.cs.length≤65536) (r:Nat × Nat × Int):∃v' w3,(∀ty,(Builtin.append_ #[82,82] ty #[cv,.slice (some ⟨w.heap.size,0,none⟩) 1 1]).run Tryz.prog (w.alloc (.cells #[.int .i64 r.1,.int .i64 r.2.1,.int .i64 r.2.2] 135)) = .ok v' w3) ∧
 w3.cell? ⟨g,0,none⟩=some cv∧w3.frozen? ⟨g,0,none⟩=false∧(∃ao n cp,v' = .slice ao n cp)∧Below B0 w (w3.setCell ⟨g,0,none⟩ v')∧∃ρ' X' cv' kv' fv' dv',PxW B0 ρ' g X' cv' kv' fv' dv' (w3.setCell ⟨g,0,none⟩ v')∧XRel X' { S with cs:=S.cs++[r] }∧X'.fl=X.fl∧X'.dl=X.dl:=by
 obtain⟨gb,cap,w3,hrun,hown3,hk3,hg3,hz3⟩:=append_x (P:=Tryz.prog) w 82 135 Tryz.underlying82 tinfoRowX rfl (by omega) h.c [.int .i64 r.1,.int .i64 r.2.1,.int .i64 r.2.2] rfl
  (by intro u hu;simp at hu;rcases hu with rfl|rfl|rfl <;> rfl) (by unfold maxLen;omega) (by omega)
 have hgg:g≠gb:=fun e=>by
  subst e
  have hgl:=h.gl
  rcases hg3 with hx|hx
  ·have h9:ρ g=2:=h.c.2 _ hx
   have h8:=h.rg
   omega
  ·omega
 have hcg:∀b,cv.ownBlock=some b→g≠b:=fun b hb e=>by
  subst e
  have h9:ρ g=2:=h.c.2 _ hb
  have h8:=h.rg
  omega
 have hc3:=hk3.heap h.cell (fun e=>hcg _ e rfl)
 have q:w3.cell? ⟨g,0,none⟩=some cv:=by rw[Lib.cell_of_heap hc3];rfl
 have hk4:Keep (fun b=>b=g∨cv.ownBlock=some b) w (w3.setCell ⟨g,0,none⟩ (.slice (some ⟨gb,0,none⟩) (X.cs.length+1) cap)):=(hk3.weaken fun _ _ h=>.inr h).trans ((Keep.setCell (X:=fun b=>b=g) (Keep.refl _ w3) (p:=⟨g,0,none⟩) rfl _).weaken fun _ _ h=>.inl h)
 have hk5:Keep (fun b=>b=g) w3 (w3.setCell ⟨g,0,none⟩ (.slice (some ⟨gb,0,none⟩) (X.cs.length+1) cap)):=Keep.setCell (X:=fun b=>b=g) (Keep.refl _ w3) (p:=⟨g,0,none⟩) rfl _
 have hX':=hX.cls r
 have hP:=h.newc (l':=X.cs++[r]) hk4 (v':=.slice (some ⟨gb,0,none⟩) (X.cs.length+1) cap) (by
  have:=heap_setCell_same w3 g 0 _ _ (.slice (some ⟨gb,0,none⟩) (X.cs.length+1) cap) hc3
  simpa using this) (by
  rw[List.length_append,rfE_snoc]
  refine (hown3.keep hk5 (fun b hb e=>hgg (by rw[←hb,←e]))).weaken (fun b hb=>⟨?_,fun e=>hgg (by rw[←e,hb])⟩)
  subst hb
  rcases hg3 with hx|hx
  ·exact .inl hx
  ·exact .inr (by omega))
 refine⟨_,w3,hrun,q,Lib.frozen_of_heap hc3 _,⟨_,_,_,rfl⟩,hk4.below h.hB (fun b hb=>?_),_,_,_,_,_,_,hP,hX',rfl,rfl⟩
 rcases hb with rfl|hb
 ·exact h.hr _ (by rw[h.rg];decide)
 ·exact h.hr _ (by have h9:ρ b=2:=h.c.2 _ hb;omega)
theorem PxW.appk (h:PxW B0 ρ g X cv kv fv dv w) (hX:XRel X S) (hm:X.ks.length≤65536) (r:Nat × Nat × Int):∃v' w3,(∀ty,(Builtin.append_ #[82,82] ty #[kv,.slice (some ⟨w.heap.size,0,none⟩) 1 1]).run Tryz.prog (w.alloc (.cells #[.int .i64 r.1,.int .i64 r.2.1,.int .i64 r.2.2] 135)) = .ok v' w3) ∧
 w3.cell? ⟨g,1,none⟩=some kv∧w3.frozen? ⟨g,1,none⟩=false∧(∃ao n cp,v' = .slice ao n cp)∧Below B0 w (w3.setCell ⟨g,1,none⟩ v')∧∃ρ' X' cv' kv' fv' dv',PxW B0 ρ' g X' cv' kv' fv' dv' (w3.setCell ⟨g,1,none⟩ v')∧XRel X' { S with ks:=S.ks++[r] }∧X'.fl=X.fl∧X'.dl=X.dl:=by
 obtain⟨gb,cap,w3,hrun,hown3,hk3,hg3,hz3⟩:=append_x (P:=Tryz.prog) w 82 135 Tryz.underlying82 tinfoRowX rfl (by omega) h.k [.int .i64 r.1,.int .i64 r.2.1,.int .i64 r.2.2] rfl
  (by intro u hu;simp at hu;rcases hu with rfl|rfl|rfl <;> rfl) (by unfold maxLen;omega) (by omega)
 have hgg:g≠gb:=fun e=>by
  subst e
  have hgl:=h.gl
  rcases hg3 with hx|hx
  ·have h9:ρ g=3:=h.k.2 _ hx
   have h8:=h.rg
   omega
  ·omega
 have hcg:∀b,kv.ownBlock=some b→g≠b:=fun b hb e=>by
  subst e
  have h9:ρ g=3:=h.k.2 _ hb
  have h8:=h.rg
  omega
 have hc3:=hk3.heap h.cell (fun e=>hcg _ e rfl)
 have q:w3.cell? ⟨g,1,none⟩=some kv:=by rw[Lib.cell_of_heap hc3];rfl
 have hk4:Keep (fun b=>b=g∨kv.ownBlock=some b) w (w3.setCell ⟨g,1,none⟩ (.slice (some ⟨gb,0,none⟩) (X.ks.length+1) cap)):=(hk3.weaken fun _ _ h=>.inr h).trans ((Keep.setCell (X:=fun b=>b=g) (Keep.refl _ w3) (p:=⟨g,1,none⟩) rfl _).weaken fun _ _ h=>.inl h)
 have hk5:Keep (fun b=>b=g) w3 (w3.setCell ⟨g,1,none⟩ (.slice (some ⟨gb,0,none⟩) (X.ks.length+1) cap)):=Keep.setCell (X:=fun b=>b=g) (Keep.refl _ w3) (p:=⟨g,1,none⟩) rfl _
 have hX':=hX.knd r
 have hP:=h.newk (l':=X.ks++[r]) hk4 (v':=.slice (some ⟨gb,0,none⟩) (X.ks.length+1) cap) (by
  have:=heap_setCell_same w3 g 1 _ _ (.slice (some ⟨gb,0,none⟩) (X.ks.length+1) cap) hc3
  simpa using this) (by
  rw[List.length_append,rfE_snoc]
  refine (hown3.keep hk5 (fun b hb e=>hgg (by rw[←hb,←e]))).weaken (fun b hb=>⟨?_,fun e=>hgg (by rw[←e,hb])⟩)
  subst hb
  rcases hg3 with hx|hx
  ·exact .inl hx
  ·exact .inr (by omega))
 refine⟨_,w3,hrun,q,Lib.frozen_of_heap hc3 _,⟨_,_,_,rfl⟩,hk4.below h.hB (fun b hb=>?_),_,_,_,_,_,_,hP,hX',rfl,rfl⟩
 rcases hb with rfl|hb
 ·exact h.hr _ (by rw[h.rg];decide)
 ·exact h.hr _ (by have h9:ρ b=3:=h.k.2 _ hb;omega)
end
end Go.Proofs.YtgpbaeehajkebaaGreatDoor
namespace Go.Proofs.YtgpbaeehajkebaaGreatDoor
open Go Go.RowKit Go.Kt Go.Kt.Rg Go.Maps
theorem pnt_ok {u:List UInt8} (h:(pntP u).2=0):∃n:Nat,pntP u=((n:Int),0)∧numP u=some n∧Lib.validRune (n:Int)=true:=by
 unfold pntP at h ⊢
 cases hn:numP u with
 | none=>rw[hn] at h;cases h
 | some n =>
   rw[hn] at h
   simp only at h ⊢
   cases hv:Lib.validRune (n:Int) with
   | false=>rw[if_pos hv] at h;cases h
   | true=>exact⟨n,by rw[if_neg (by decide)],rfl,hv⟩
theorem pnt_bad {u:List UInt8} (h:(pntP u).2≠0) (acc:List Nat) (r:List (List UInt8)):ptsA acc (u::r)=((pntP u).2,[]):=by
 unfold pntP at h ⊢
 cases hn:numP u with
 | none=>rw[ptsA_no hn]
 | some n =>
   rw[hn] at h
   simp only at h ⊢
   cases hv:Lib.validRune (n:Int) with
   | false=>rw[ptsA_bad hn hv,if_pos rfl]
   | true=>rw[hv,if_neg (by decide)] at h;exact absurd rfl h
def PtI (t:List (List UInt8)) (j:Nat) (acc:List Nat):Prop:=ptsA [] t=ptsA acc (t.drop j)∧acc.length=j∧∀z∈acc,z≤1114111
theorem ptI0 (t:List (List UInt8)):PtI t 0 []:=⟨by rw[List.drop_zero],rfl,fun z h=>by cases h⟩
theorem PtI.step {t:List (List UInt8)} {j n:Nat} {acc:List Nat} {u:List UInt8} (h:PtI t j acc) (hu:t[j]? = some u) (hn:numP u=some n) (hv:Lib.validRune (n:Int)=true):PtI t (j+1) (acc++[n]):=by
 obtain⟨h1,h2,h3⟩:=h
 obtain⟨q1,q2⟩:=List.getElem?_eq_some_iff.1 hu
 refine⟨?_,by simp[h2],fun z hz=>?_⟩
 ·rw[h1,List.drop_eq_getElem_cons q1,q2,ptsA_go hn hv]
 ·rcases List.mem_append.1 hz with hz|hz
  ·exact h3 z hz
  ·rw[List.mem_singleton.1 hz];exact valid_le hv
theorem PtI.bad {t:List (List UInt8)} {j:Nat} {acc:List Nat} {u:List UInt8} (h:PtI t j acc) (hu:t[j]? = some u) (hb:(pntP u).2≠0) (h9:t.length≤9):ptsP t=((pntP u).2,[]):=by
 obtain⟨q1,q2⟩:=List.getElem?_eq_some_iff.1 hu
 unfold ptsP
 rw[if_neg (by omega),h.1,List.drop_eq_getElem_cons q1,q2,pnt_bad hb]
theorem PtI.done {t:List (List UInt8)} {acc:List Nat} (h:PtI t t.length acc) (h9:t.length≤9):ptsP t=(0,acc):=by
 unfold ptsP
 rw[if_neg (by omega),h.1,List.drop_eq_nil_of_le (Nat.le_refl _)]
 rfl
theorem fold_take (line:Nat) (S:RdS) {t:List (List UInt8)} (h2:2≤t.length):takeP line S (wFld::t)=foldP S t:=by
 rw[takeP,if_neg (by simp),if_neg (by omega),if_neg (by decide),if_neg (by decide),if_pos rfl]
theorem dec_take (line:Nat) (S:RdS) {t:List (List UInt8)} (h2:2≤t.length):takeP line S (wDcp::t)=dcmP line S t:=by
 rw[takeP,if_neg (by simp),if_neg (by omega),if_neg (by decide),if_neg (by decide),if_neg (by decide)]
theorem one_take (line:Nat) (S:RdS) {x:List UInt8} {t:List (List UInt8)} (hx:x=wFld∨x=wDcp) (h2:t.length<2):takeP line S (x::t)=(2,S):=by
 rw[takeP,if_neg (by rcases hx with rfl|rfl <;> simp),if_pos h2]
theorem bad_take (line:Nat) (S:RdS) {x:List UInt8} {t:List (List UInt8)} {no:Nat} {l:List Nat} (hx:x=wFld∨x=wDcp) (h2:2≤t.length) (hp:ptsP t=(no,l)) (h0:no≠0):takeP line S (x::t)=(no,S):=by
 rcases hx with rfl|rfl
 ·rw[fold_take line S h2,foldP_no hp h0]
 ·rw[dec_take line S h2,dcmP_no hp h0]
theorem foldP_yes {S:RdS} {t:List (List UInt8)} {h:Nat} {u:List Nat} (hp:ptsP t=(0,h::u)):foldP S t=if (S.fs h).isSome then (13,S) else (0,{ S with fs:=updN S.fs h u }):=by
 unfold foldP;rw[hp];rfl
theorem dcmP_yes {line:Nat} {S:RdS} {t:List (List UInt8)} {h:Nat} {u:List Nat} (hp:ptsP t=(0,h::u)):dcmP line S t=if (S.ds h).isSome then (13,S) else if hanP (h:Int) then (1,S) else (0,{ S with ds:=updN S.ds h u,ls:=updN S.ls h line }):=by
 unfold dcmP;rw[hp];rfl
def XlW (xb at_:Nat) (acc:List Nat) (W:World):Prop :=
 ∃ao n cp,W.heap[xb]? = some (.cells #[.int .i64 ((acc.headD 0:Nat):Int),.slice ao n cp,.int .i64 (at_:Nat)] 91 (0,0))∧ZnO (xb+1) (.slice ao n cp) (toZ acc.tail) W∧n=acc.tail.length∧xb+1≤W.heap.size
theorem xlW0 (w:World) (at_:Nat):XlW w.heap.size at_ [] (w.alloc (.cells #[.int .i64 0,.slice none 0 0,.int .i64 (at_:Nat)] 91)) :=
 ⟨none,0,0,heap_alloc_new _ _,zno_nil _ _,rfl,by rw[World.size_alloc];exact Nat.le_refl _⟩
theorem XlW.below {xb at_:Nat} {acc:List Nat} {A B:World} (h:XlW xb at_ acc A) (hb:Below A.heap.size A B):XlW xb at_ acc B:=by
 obtain⟨ao,n,cp,h1,h2,h3,h4⟩:=h
 exact⟨ao,n,cp,(hb.block xb (Array.getElem?_eq_some_iff.1 h1).1).trans h1,h2.below hb,h3,Nat.le_trans h4 hb.size⟩
theorem XlW.first {xb at_ n:Nat} {W:World} (h:XlW xb at_ [] W):(∃u,W.cell? ⟨xb,0,none⟩=some u)∧W.frozen? ⟨xb,0,none⟩=false∧XlW xb at_ [n] (W.setCell ⟨xb,0,none⟩ (.int .i64 (n:Nat)))∧Below xb W (W.setCell ⟨xb,0,none⟩ (.int .i64 (n:Nat))):=by
 obtain⟨ao,m,cp,h1,h2,h3,h4⟩:=h
 have hk:Keep (fun b=>b=xb) W (W.setCell ⟨xb,0,none⟩ (.int .i64 (n:Nat))):=Keep.setCell (X:=fun b=>b=xb) (Keep.refl _ W) (p:=⟨xb,0,none⟩) rfl _
 refine⟨⟨_,by rw[Lib.cell_of_heap h1];rfl⟩,Lib.frozen_of_heap h1 _,⟨ao,m,cp,?_,h2.keep hk (fun b hb e=>by have e:xb+1≤b:=e;omega),h3,Nat.le_trans h4 hk.size⟩,hk.below (by omega) (fun b hb=>by omega)⟩
 have:=heap_setCell_same W xb 0 _ _ (.int .i64 (n:Nat)) h1
 simpa using this
theorem XlW.more {xb at_ n:Nat} {acc:List Nat} {W:World} (h:XlW xb at_ acc W) (ha:acc≠[]) (hl:acc.length≤9):∃ao m cp v' W',W.cell? ⟨xb,1,none⟩=some (.slice ao m cp)∧(∀ty,(Builtin.append_ #[78,78] ty #[.slice ao m cp,.slice (some ⟨W.heap.size,0,none⟩) 1 1]).run Tryz.prog (W.alloc (.cells #[.int .i32 (n:Nat)] 21)) = .ok v' W') ∧
 W'.cell? ⟨xb,1,none⟩=some (.slice ao m cp)∧W'.frozen? ⟨xb,1,none⟩=false∧(∃a b c,v' = .slice a b c)∧XlW xb at_ (acc++[n]) (W'.setCell ⟨xb,1,none⟩ v')∧Below xb W (W'.setCell ⟨xb,1,none⟩ v'):=by
 obtain⟨ao,m,cp,h1,h2,h3,h4⟩:=h
 obtain⟨v',W',hrun,hz,hb⟩:=h2.app h4 (by rw[toZ_len,List.length_tail];omega) (n:Int)
 have hc:=(hb.block xb (Nat.lt_succ_self xb)).trans h1
 obtain⟨a,c,rfl⟩:=own_slc hz
 have hk:Keep (fun b=>b=xb) W' (W'.setCell ⟨xb,1,none⟩ (.slice a (toZ acc.tail++[(n:Int)]).length c)):=Keep.setCell (X:=fun b=>b=xb) (Keep.refl _ W') (p:=⟨xb,1,none⟩) rfl _
 have e1:toZ (acc++[n]).tail=toZ acc.tail++[(n:Int)]:=by
  cases acc with
  | nil=>exact absurd rfl ha
  | cons x t=>simp[toZ]
 have e2:(acc++[n]).headD 0=acc.headD 0:=by
  cases acc with
  | nil=>exact absurd rfl ha
  | cons x t=>rfl
 have hbx:Below xb W W':=hb.mono (Nat.le_succ xb)
 refine⟨ao,m,cp,_,W',by rw[Lib.cell_of_heap h1];rfl,hrun,by rw[Lib.cell_of_heap hc];rfl,Lib.frozen_of_heap hc _,⟨_,_,_,rfl⟩,⟨a,(toZ acc.tail++[(n:Int)]).length,c,?_,?_,?_,Nat.le_trans (Nat.le_trans h4 hb.size) hk.size⟩,hbx.trans (hk.below (by have:=hb.size;omega) (fun b hb=>by omega))⟩
 ·have:=heap_setCell_same W' xb 1 _ _ (.slice a (toZ acc.tail++[(n:Int)]).length c) hc
  rw[e2]
  simpa using this
 ·rw[e1]
  exact hz.keep hk (fun b hb e=>by have e:xb+1≤b:=e;omega)
 ·rw[←toZ_len (acc++[n]).tail,e1]
theorem XlW.to {xb at_:Nat} {h:Nat} {u:List Nat} {W:World} {ρ:Nat→Nat} (hX:XlW xb at_ (h::u) W) (hr:∀b,xb≤b→ρ b=0):∃ao n cp,W.heap[xb]? = some (.cells #[.int .i64 (h:Nat),.slice ao n cp,.int .i64 (at_:Nat)] 91 (0,0))∧n=u.length∧ToV ρ (.slice ao n cp) u W:=by
 obtain⟨ao,n,cp,h1,h2,h3,h4⟩:=hX
 refine⟨ao,n,cp,h1,h3,ao,cp,by rw[h3];rfl,?_⟩
 rcases OwnS.shape h2 with ⟨e,h0⟩|⟨g,cap,e,hg,hgl⟩
 ·exact .inl (List.length_eq_zero_iff.1 (by rw[toZ_len] at h0;exact h0))
 ·injection e with e1 e2 e3
  subst e1
  refine .inr ⟨g,rfl,hr g (by have hg:xb+1≤g:=hg;omega),hgl,fun i x hx=>?_⟩
  have h2':OwnS (fun b=>xb+1≤b) 21 1 (.slice (some ⟨g,0,none⟩) n cp) (toZ u).length (encZ (toZ u)) W:=h2
  have:(encZ (toZ u))[i]? = some (.int .i32 (x:Nat)):=by simp[encZ,toZ,hx]
  have h3':n=u.length:=h3
  rw[toZ_len,←h3'] at h2'
  exact OwnS.at0 h2' this
set_option maxRecDepth 100000 in
set_option maxHeartbeats 4000000 in
theorem yspokenQ (l:List Ln3) (sv:Value) (n:Int) (w:World) (hS:LfW w sv l) (hn:l.length≤1000000) :
 Calls Tryz.prog 74 #[sv,.int .i64 n] w fun e w'=>e = .returned (.bool (spkL l n))∧w'=w:=by
 obtain⟨ao,cp,rfl,hc⟩:=hS
 obtain⟨m,hln⟩:∃m,l.length=m:=⟨_,rfl⟩
 rw[hln] at hn ⊢
 have HC:=Lib.hid (And.intro hc hln)
 clear hc hln
 go_enter Tryz.func74,Tryz.ntmps74
 go_wp2_with fail
 go_loopw [5] (fun x wr=>∃k:Nat,x = .int .i64 (k:Nat)∧k≤m∧Hid (spkL l n=spkL (l.drop k) n)∧wr=w) (fun x _=>m-(RowKit.intOf x).toNat)
 case atStart=>exact⟨0,rfl,Nat.zero_le _,Lib.hid (by rw[List.drop_zero]),rfl⟩
 case round =>
  obtain⟨k,rfl,hk,H,rfl⟩:=hrel
  by_cases hlt:k<m
  ·have e1:(k:Int)<m:=by omega
   have hk0:(0:Int)≤(k:Int):=by omega
   have hk1:IntKind.i64.wrap ((k:Int)+1)=((k+1:Nat):Int):=by rw[IntWalk.i64_in _ (by omega)];omega
   obtain⟨⟨x1,x2,xv⟩,hx⟩:∃x,l[k]? = some x:=⟨_,List.getElem?_eq_getElem (by rw[HC.out.2];omega)⟩
   obtain⟨g,rfl,c0⟩:∃g,ao=some ⟨g,0,none⟩∧wr.cell? ⟨g,k*3,none⟩=some (.int .i64 (x1:Nat)):=by
    rcases HC.out.1 with h|⟨g,e,h⟩
    ·rw[h] at hx;cases hx
    ·exact⟨g,e,(h k _ hx).1⟩
   have d0:=c0
   have hst:=H.out
   have hdr:l.drop k=(x1,x2,xv)::l.drop (k+1):=by
    obtain⟨h1,h2⟩:=List.getElem?_eq_some_iff.1 hx
    rw[List.drop_eq_getElem_cons h1,h2]
   rw[hdr] at hst
   unfold spkL at hst
   rw[List.any_cons] at hst
   obtain⟨y,hy⟩:∃y:Int,(x1:Int)=y:=⟨_,rfl⟩
   rw[hy] at d0
   simp only[hy] at hst
   have HB:Hid True:=Lib.hid trivial
   clear hdr hx c0 hy H
   by_cases h1:y=n
   ·subst h1
    have hst2:spkL l y=true:=by
     unfold spkL
     rw[hst,beq_self_eq_true,Bool.true_or]
    have HST:=Lib.hid hst2
    clear hst2
    clear hst hlt
    go_wp2
    go_ret
    exact⟨by rw[HST.out];rfl,rfl⟩
   ·have q1:(y==n)=false:=beq_eq_false_iff_ne.2 h1
    rw[q1,Bool.false_or] at hst
    have HST:=Lib.hid hst
    clear hst hlt
    go_wp2
    go_roundw
    case rel=>exact⟨k+1,by go_num,by omega,HST,by trivial⟩
    case measure=>simp[RowKit.intOf];omega
  ·have e1:¬(k:Int)<m:=by omega
   have HST:Hid (spkL l n=false):=Lib.hid (by rw[H.out,List.drop_eq_nil_of_le (by rw[HC.out.2];omega)];rfl)
   clear hlt
   go_wp2
   go_ret
   exact⟨by rw[HST.out];rfl,rfl⟩
end Go.Proofs.YtgpbaeehajkebaaGreatDoor
namespace Go.Proofs.YtgpbaeehajkebaaGreatDoor
open Go.Lib Go.Shelf Go.RowKit Go.Kt
set_option maxRecDepth 100000
noncomputable def theLaidX:List (String × DataW Unit):=[("glossary/glossaryref06.kinds",Rows.laid_glossary_glossaryref06_kinds),("math/bits.deBruijn32tab",Rows.laid_math_bits_deBruijn32tab),("math/bits.deBruijn64tab",Rows.laid_math_bits_deBruijn64tab),("internal/strconv.uint64pow10",Rows.laid_internal_strconv_uint64pow10),("unicode/utf8.acceptRanges",Rows.laid_unicode_utf8_acceptRanges),("strconv.ErrRange",Rows.laid_strconv_ErrRange),("strconv.ErrSyntax",Rows.laid_strconv_ErrSyntax),("glossary/props.kinds",Rows.laid_glossary_props_kinds),("unicode/utf8.first",Rows.laid_unicode_utf8_first)]
theorem kindsX_eq:(Rows.laid_glossary_glossaryref06_kinds:DataW Unit) = .agg (kdN.map fun x=>.lit (.string x)):=rfl
theorem ktabX_of_reads {W:World} (h3:VarReads Tryz.prog W "glossary/glossaryref06.kinds" (.agg (kdN.map fun x=>.lit (.string x)))):KTabX W:=by
 have c1:Tryz.prog.cellsOf 9=1:=by kernel_rfl
 intro k hk
 obtain⟨g,t,cs,fuel,p,hg,hty,hvar,hd⟩:=h3
 obtain rfl:=Option.some.inj ((show Tryz.prog.globalNamed "glossary/glossaryref06.kinds" = some 0 by kernel_rfl).symm.trans hg)
 obtain rfl:=Option.some.inj ((show (Tryz.prog.globals[0]?).map (·.type)=some 133 by kernel_rfl).symm.trans hty)
 obtain⟨fuel',d,q,hdi,he⟩:=array_elem Tryz.underlying133 hd k hk
 have hkl:k<kdN.length:=hk
 rw[List.getElem?_map,List.getElem?_eq_getElem hkl] at hdi
 simp only[Option.map_some,Option.some.injEq] at hdi
 subst hdi
 rw[c1] at he
 have hcs:=trod_strP Tryz.underlying9 he
 have e0:=congrArg (·[0]?) hcs
 simp only[List.getElem?_take,List.getElem?_drop] at e0
 rw[World.var?_cell hg hvar k,←Array.getElem?_toList]
 simpa using e0
def XEnv (W:World):Prop:=PEnv W∧KTabX W
theorem XEnv.below {A B:World} (h:XEnv A) (hb:Below A.heap.size A B):XEnv B:=⟨h.1.below hb,h.2.below hb⟩
theorem xenv_of {W:World} (h':laidMet Tryz.prog theLaidX W) (hsh:W.ShapedOpen Tryz.prog):XEnv W:=by
 have e0:=laidMet.reads h' (.head _)
 have e1:=laidMet.reads h' (.tail _ (.tail _ (.tail _ (.tail _ (.tail _ (.head _))))))
 have e2:=laidMet.reads h' (.tail _ (.tail _ (.tail _ (.tail _ (.tail _ (.tail _ (.head _)))))))
 have e3:=laidMet.reads h' (.tail _ (.tail _ (.tail _ (.tail _ (.tail _ (.tail _ (.tail _ (.head _))))))))
 exact⟨⟨⟨iface_of_readsP (by kernel_rfl) (by kernel_rfl) e2,iface_of_readsP (by kernel_rfl) (by kernel_rfl) e1⟩,ktab_of_reads (kinds_eq▸e3),
  cell_of_shapedOpen_int (zero:=#[.int .i64 0]) (t:=3) hsh (of_decide_eq_true (by kernel_rfl)) (by kernel_rfl) rfl (by kernel_rfl) (by kernel_rfl) Tryz.underlying3⟩,ktabX_of_reads (kindsX_eq▸e0)⟩
theorem of_laidX {W:World} (h:laidMetH Tryz.prog theLaidX W) (hsh:W.ShapedOpen Tryz.prog):XEnv W :=
 xenv_of (by rw[MakeChecks.laidMetH_plain _ _ _ (by kernel_rfl)] at h;exact h) hsh
noncomputable def worldX (os:Os):World:=World.laidAll Tryz.prog os theLaidX
theorem worldX_os (os:Os):(worldX os).os=os:=World.laidAll_os _ _ _
theorem laid_metX (os:Os) (args:Array Value):laidMetH Tryz.prog theLaidX ((worldX os).forCall (fun _ _=>0) ⟨#[],args,[]⟩).memory:=by
 rw[MakeChecks.laidMetH_plain _ _ _ (by kernel_rfl)]
 exact laidMet_laidAll _ (by kernel_rfl) (by kernel_rfl)
end Go.Proofs.YtgpbaeehajkebaaGreatDoor
