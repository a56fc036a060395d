/- Parts of the proof of what the last text says. -/
import Derived.Test.YtgpbaeehajkebaaGreatDoorKx
import Derived.WalkKit
import Derived.Lib.FrozenHead
import Derived.OwnWalkIn
import Derived.Laws.OwnMore
import Derived.Test.YtgpbaeehajkebaaGreatDoorGv1
import Derived.WalkLawsBesides
import Derived.WalkSpells
import Derived.Lib.Hide
import Derived.Lib.AtoiErrMem
import Derived.Laws.Strings3
import Derived.Laws.Closers25
import Derived.Laws.Closers25b
import Derived.BigCall
import Derived.BigGuard
import Derived.Sort.LotA
import Derived.Sort.LotB
import Derived.Sort.LotC
import Derived.Sort.Row
import Derived.Deep.Draws
namespace Go.Kt
open Go Go.RowKit
variable {P:Program}
def OwnS (Y:Nat→Prop) (e:TypeId) (size:Nat) (v:Value) (n:Nat) (xs:List Value) (W:World):Prop :=
 W.ownsRow 0 e size v n xs∧∀g,v.ownBlock=some g→Y g
theorem heap_alloc_if (A:World) (o:Obj) (k:Nat):(A.alloc o).heap[k]? = if k=A.heap.size then some o else A.heap[k]?:=by
 show (A.heap.push o)[k]? = _
 exact Array.getElem?_push ..
theorem own_nil (e:TypeId) (size:Nat) (W:World) (Y:Nat→Prop):OwnS Y e size (.slice none 0 0) 0 [] W:=⟨World.ownsRow_nil W 0 e size,fun _ h=>by cases h⟩
theorem keep_grown {A B:World} {row:Option Nat} (hg:A.grownBy B row):Keep (fun b=>row=some b) A B :=
 ⟨hg.os,hg.tape,hg.output,hg.size,fun b hb hr=>hg.block b hb (fun e=>hr e.symm)⟩
theorem OwnS.keep {Y X:Nat→Prop} {e:TypeId} {size n:Nat} {v:Value} {xs:List Value} {A B:World} (h:OwnS Y e size v n xs A) (hk:Keep X A B) (hX:∀b,X b→¬Y b):OwnS Y e size v n xs B:=by
 obtain⟨⟨hl,h2⟩,hY⟩:=h
 refine⟨⟨hl,?_⟩,hY⟩
 rcases h2 with h2|⟨g,cap,cur,rfl,hb,hg,rest⟩
 ·exact .inl h2
 ·exact .inr ⟨g,cap,cur,rfl,hb,hk.heap hg (fun hx=>hX g hx (hY g rfl)),rest⟩
theorem OwnS.weaken {Y Z:Nat→Prop} {e:TypeId} {size n:Nat} {v:Value} {xs:List Value} {A:World} (h:OwnS Y e size v n xs A) (hY:∀b,Y b→Z b):OwnS Z e size v n xs A:=⟨h.1,fun g hg=>hY g (h.2 g hg)⟩
theorem append_x (W:World) (t e:TypeId) {z:Value} {size bytes:Nat} (ht:P.underlying t=some (.slice e)) (hinfo:(P.info? e).map (fun i=>(i.zero,i.size,i.bytes))=some (some z,size,bytes))
 (hzs:z.cells.size=size) (hsz:0<size) {Y:Nat→Prop} {v:Value} {n:Nat} {xs:List Value} (hown:OwnS Y e size v n xs W)
 (news:List Value) (hl:news.length=size) (h1:∀u∈news,u.oneCell'=true) (h63:n+1≤maxLen) (hbytes:(n+1)*bytes≤140737488355328) :
 ∃g cap w',(∀ty,(Builtin.append_ #[t,t] ty #[v,.slice (some ⟨W.heap.size,0,none⟩) 1 1]).run P (W.alloc (.cells news.toArray e)) = .ok (.slice (some ⟨g,0,none⟩) (n+1) cap) w') ∧
  OwnS (fun b=>b=g) e size (.slice (some ⟨g,0,none⟩) (n+1) cap) (n+1) (xs++news) w'∧Keep (fun b=>v.ownBlock=some b) W w'∧(v.ownBlock=some g∨W.heap.size<g)∧W.heap.size<w'.heap.size:=by
 obtain⟨i,hi,hz,hs1,hb1⟩:=info_parts hinfo
 have hc:∀j u,news[j]? = some u→(W.alloc (.cells news.toArray e)).cell? ((⟨W.heap.size,0,none⟩:Addr).add j)=some u:=fun j u hj=>by
  have hh:=World.alloc_heap_new W (.cells news.toArray e)
  rw[Addr.add_lit,Lib.cell_of_heap hh]
  simpa using hj
 have hown':(W.alloc (.cells news.toArray e)).ownsRow 0 e size v n xs:=hown.1.alloc _
 obtain⟨v',w',hrun,r1,r2,r3⟩:=run_append_own (P:=P) (W.alloc (.cells news.toArray e)) 0 t 0 e i z size bytes ht hi hz hs1 hb1 hzs hsz v n xs hown' ⟨W.heap.size,0,none⟩ 1 1 news (by omega) hc h1 h63 hbytes (Nat.zero_le _)
 have hrun':∀ty,(Builtin.append_ #[t,t] ty #[v,.slice (some ⟨W.heap.size,0,none⟩) 1 1]).run P (W.alloc (.cells news.toArray e)) = .ok v' w':=fun ty=>hrun
 have hK:Keep (fun b=>v.ownBlock=some b) W w':=((Keep.refl _ W).alloc _).trans (keep_grown r2)
 have hsz':W.heap.size<w'.heap.size:=by have:=r2.size;simp at this;omega
 rcases r1.2 with ⟨_,h⟩|⟨g,cap,cur,rfl,hb,hg,rest⟩
 ·omega
 refine⟨g,cap,w',hrun',⟨r1,fun g' h=>by cases h;rfl⟩,hK,?_,hsz'⟩
 rcases hown'.2 with ⟨hv,hn⟩|⟨g0,cap0,cur0,hv,hb0,hg0,hnc,hcm,hcs,_⟩
 ·-- no row yet: a new one
  right
  obtain⟨v2,w2,hrun2,q1,q2,q3⟩:=run_append_own (P:=P) (W.alloc (.cells news.toArray e)) (W.heap.size+1) t 0 e i z size bytes ht hi hz hs1 hb1 hzs hsz v n xs ⟨hown'.1,.inl ⟨hv,hn⟩⟩ ⟨W.heap.size,0,none⟩ 1 1 news (by omega) hc h1 h63 hbytes (by simp)
  rw[hrun] at hrun2
  injection hrun2 with e1 e2
  subst e1;subst e2
  exact (q1.lt g rfl).1
 ·subst hv
  by_cases hroom:n+1≤cap0
  ·left
   have hr:=run_append_room (P:=P) (W.alloc (.cells news.toArray e)) t 0 e i ht hi g0 n cap0 cur0 hg0 ⟨W.heap.size,0,none⟩ 1 1 news (by omega) hc h1 hroom (by rw[hs1,hcs,hl,←Nat.succ_mul];exact Nat.mul_le_mul_right _ hroom)
   rw[hrun] at hr
   injection hr with e1 e2
   injection e1 with e1 _ _
   injection e1 with e1
   injection e1 with e1
   subst e1
   rfl
  ·right
   have holds:∀j u,xs[j]? = some u→(W.alloc (.cells news.toArray e)).cell? ((⟨g0,0,none⟩:Addr).add j)=some u:=hown'.cells (g:=g0) rfl
   have hsmall:n+1≤9223372036854775807:=by simp only[maxLen] at h63;omega
   have hr:=run_append_grow (P:=P) (W.alloc (.cells news.toArray e)) t 0 e i z ht hi hz ⟨g0,0,none⟩ n cap0 xs (by rw[hs1];exact hown'.1) holds ⟨W.heap.size,0,none⟩ 1 1 news (by omega) hc (by omega) (by omega) (by rw[hb1];exact growslice_fits (by omega) hbytes)
   rw[hrun] at hr
   injection hr with e1 e2
   injection e1 with e1 _ _
   injection e1 with e1
   injection e1 with e1
   subst e1
   simp
theorem wpList_append_eq {ops:Array Oper} {rest:List Oper} {o:Oper} {a:Act} {Q:Exit→Act→World→Prop} {w w':World} {v' x y:Value} (hgd:o.guard=none) {sl ar:Operand} {t u:TypeId}
 (ho:o.op = .call { callee:=.builtin .append,args:=#[sl,ar],argTypes:=#[t,u] }) (hs:a.eval sl=x) (hx:a.eval ar=y)
 (hrun:∀ty,(Builtin.append_ #[t,u] ty #[x,y]).run P w = .ok v' w') (h:wpList P ops Q rest (a.put o.dst v') w'):wpList P ops Q (o::rest) a w:=by
 refine wpList_plain hgd fun K hK=>?_
 unfold Oper.wp execOp
 simp only[ho,resolve,invoke,builtin,Sem.run_bind,Sem.run_pure,Result.andThen_ok,List.map_toArray,List.map_cons,List.map_nil,hs,hx,hrun]
 exact hK _ _ h
theorem wpListIn_append_eq {F:Fence} {n:Nat} {ops:Array Oper} {rest:List Oper} {o:Oper} {a:Act} {Q:Exit→Act→World→Prop} {w w':World} {v' x y:Value} (hgd:o.guard=none) {sl ar:Operand} {t u:TypeId}
 (ho:o.op = .call { callee:=.builtin .append,args:=#[sl,ar],argTypes:=#[t,u] }) (hs:a.eval sl=x) (hx:a.eval ar=y)
 (hrun:∀ty,(Builtin.append_ #[t,u] ty #[x,y]).run P w = .ok v' w') (h:wpListIn F n P ops Q rest (a.put o.dst v') w'):wpListIn F n P ops Q (o::rest) a w:=by
 refine wpListIn_plain hgd fun K hK=>?_
 unfold Oper.wpIn
 refine⟨?_,?_⟩
 ·simp[Oper.about,ho,resolve,Target.leads,Sem.run_pure]
 ·rw[Oper.semAt_plain F _ _ (by rw[ho];intro c hc';cases hc')]
  simp[execOp,ho,resolve,invoke,builtin,hs,hx,hrun,Result.andThen]
  exact hK _ _ h
end Go.Kt
namespace Go.Kt
open Go Go.RowKit
theorem Keep.plus {X Z:Nat→Prop} {A B C:World} (h:Keep X A B) (k:Keep Z B C) (hz:∀b,b<A.heap.size→Z b→X b):Keep X A C :=
 ⟨k.os.trans h.os,k.tape.trans h.tape,k.output.trans h.output,Nat.le_trans h.size k.size,fun b hb hX=>(k.same b (Nat.lt_of_lt_of_le hb h.size) (fun e=>hX (hz b hb e))).trans (h.same b hb hX)⟩
theorem OwnS.shape {Y:Nat→Prop} {e:TypeId} {size n:Nat} {v:Value} {xs:List Value} {W:World} (h:OwnS Y e size v n xs W) :
 (v = .slice none 0 0∧n=0)∨∃g cap,v = .slice (some ⟨g,0,none⟩) n cap∧Y g∧g<W.heap.size:=by
 rcases h.1.2 with h1|⟨g,cap,cur,rfl,_,hg,_⟩
 ·exact .inl h1
 ·exact .inr ⟨g,cap,rfl,h.2 g rfl,(Array.getElem?_eq_some_iff.1 hg).1⟩
theorem OwnS.at0 {Y:Nat→Prop} {e:TypeId} {n g cap:Nat} {xs:List Value} {W:World} (h:OwnS Y e 1 (.slice (some ⟨g,0,none⟩) n cap) n xs W) {i:Nat} {u:Value} (hi:xs[i]? = some u):W.cell? ⟨g,i,none⟩=some u:=by
 have:=h.1.cells (g:=g) rfl i u hi
 rwa[Addr.add_lit,Nat.zero_add] at this
theorem OwnS.frozen {Y:Nat→Prop} {e:TypeId} {n g cap:Nat} {xs:List Value} {W:World} (h:OwnS Y e 1 (.slice (some ⟨g,0,none⟩) n cap) n xs W) (i:Nat):W.frozen? ⟨g,i,none⟩=false:=by
 rcases h.1.2 with ⟨h1,_⟩|⟨g',cap',cur,h1,_,hg,_⟩
 ·cases h1
 ·injection h1 with e1 _ _
  injection e1 with e1
  injection e1 with e1
  subst e1
  exact Lib.frozen_of_heap hg i
theorem OwnS.self {Y:Nat→Prop} {e:TypeId} {size n:Nat} {v:Value} {xs:List Value} {A:World} (h:OwnS Y e size v n xs A):OwnS (fun b=>v.ownBlock=some b) e size v n xs A:=⟨h.1,fun _ hg=>hg⟩
theorem OwnS.keepX {X Y:Nat→Prop} {e:TypeId} {size n:Nat} {v:Value} {xs:List Value} {A B:World} (h:OwnS Y e size v n xs A) (hk:Keep X A B) (hX:∀b,X b→v.ownBlock≠some b):OwnS Y e size v n xs B :=
 ⟨(h.self.keep hk (fun b hb hy=>hX b hb hy)).1,h.2⟩
end Go.Kt
namespace Go.Proofs.YtgpbaeehajkebaaGreatDoor
open Go Go.RowKit Go.Kt Go.Kt.Rg
theorem or_32:∀c,c<256→bits .or .u8 ((c:Nat):Int) 32=((c ||| 32:Nat):Int):=by decide +kernel
theorem or_ge:∀c,c<256→c≤c ||| 32:=by decide +kernel
theorem or_bd:∀c,c<256→c ||| 32<256:=by decide +kernel
theorem or_dig:∀c,c<256→97≤c ||| 32→c ||| 32≤122→57<c∧c≠95:=by decide +kernel
def PuOut (T:TypeId) (K:Value→Prop) (o:Option Nat) (e:Ending):Prop :=
 match o with
 | some n=>e = .returned (.tuple #[.int .u64 (n:Nat),.nilIface])
 | none=>∃(z:Int) (k:Value),e = .returned (.tuple #[.int .u64 z,.iface T k])∧K k
theorem PuOut.yes {T:TypeId} {K:Value→Prop} {o:Option Nat} {n:Nat} (h:o=some n):PuOut T K o (.returned (.tuple #[.int .u64 (n:Nat),.nilIface])):=by subst h;rfl
theorem PuOut.no {T:TypeId} {K:Value→Prop} {o:Option Nat} (z:Int) {k:Value} (h:o=none) (hk:K k):PuOut T K o (.returned (.tuple #[.int .u64 z,.iface T k])):=by subst h;exact⟨z,k,rfl,hk⟩
def PuErr (k:Value):Prop:=k = .int .i64 1∨k = .int .i64 2
theorem puF_some {mx n d:Nat} {c:UInt8} {t:List UInt8} (h:digV c.toNat=some d) (h1:d<16) (h2:n*16+d≤mx):puF mx n (c::t)=puF mx (n*16+d) t:=by
 rw[puF,h];simp only;rw[if_neg (by omega),if_neg (by omega)]
theorem puF_over {mx n d:Nat} {c:UInt8} {t:List UInt8} (h:digV c.toNat=some d) (h1:d<16) (h2:mx<n*16+d):puF mx n (c::t)=none:=by
 rw[puF,h];simp only;rw[if_neg (by omega),if_pos h2]
theorem puF_big {mx n d:Nat} {c:UInt8} {t:List UInt8} (h:digV c.toNat=some d) (h1:16≤d):puF mx n (c::t)=none:=by
 rw[puF,h];simp only;rw[if_pos h1]
theorem puF_bad {mx n:Nat} {c:UInt8} {t:List UInt8} (h:digV c.toNat=none):puF mx n (c::t)=none:=by
 rw[puF,h]
theorem digV_dig {c:Nat} (h1:48≤c) (h2:c≤57):digV c=some (c-48):=by unfold digV;rw[if_pos ⟨h1,h2⟩]
theorem digV_let {c:Nat} (h:57<c) (h1:97≤c ||| 32) (h2:c ||| 32≤122):digV c=some ((c ||| 32)-87):=by unfold digV;rw[if_neg (by omega),if_pos ⟨h1,h2⟩]
theorem digV_no {c:Nat} (h:¬(48≤c∧c≤57)) (h1:¬(97≤c ||| 32∧c ||| 32≤122)):digV c=none:=by unfold digV;rw[if_neg h,if_neg h1]
end Go.Proofs.YtgpbaeehajkebaaGreatDoor
namespace Go.Kt.Os
open Go Go.RowKit Go.Kt Go.Sort
abbrev E32:Int→Value:=Value.int .i32
theorem holds_keep {X:Nat→Prop} {blk off:Nat} {d:Array Int} {A B:World} (h:Holds E32 A blk off d) (k:Keep X A B) (hX:¬X blk):Holds E32 B blk off d:=fun j hj=>by
 obtain⟨h1,h2⟩:=h j hj
 exact⟨k.cell h1 hX,(k.frozen (lt_of_cell h1) hX).trans h2⟩
structure SW (w:World) (blk off:Nat) (d:Array Int) (wr:World):Prop where
 keep:Keep (fun b=>b=blk) w wr
 holds:Holds E32 wr blk off d
section
variable {w wr w1:World} {blk off:Nat} {d d':Array Int}
theorem SW.refl (h:Holds E32 w blk off d):SW w blk off d w:=⟨Keep.refl _ _,h⟩
theorem SW.trans (h:SW w blk off d wr) (k:SW wr blk off d' w1):SW w blk off d' w1:=⟨h.keep.trans k.keep,k.holds⟩
theorem SW.drewN (h:SW w blk off d wr) (q:Nat):SW w blk off d (wr.drewN q):=⟨h.keep.trans ⟨rfl,rfl,rfl,Nat.le_refl _,fun _ _ _=>rfl⟩,h.holds⟩
theorem SW.then (h:SW w blk off d wr) (k:Keep (fun b=>b≠blk∧w.heap.size≤b) wr w1):SW w blk off d w1 :=
 ⟨h.keep.plus k (fun b hb hz=>absurd hz.2 (by omega)),holds_keep h.holds k (fun e=>e.1 rfl)⟩
theorem SW.cells (h:SW w blk off d wr) {G:Nat→Int} (hG:∀t,G t=d[t]!) {n:Nat} (hn:d.size=n):∀t,t<n→wr.cell? ⟨blk,off+t,none⟩=some (.int .i32 (G t)):=fun t ht=>by
 rw[hG];exact (h.holds t (by omega)).1
theorem SW.thaw (h:SW w blk off d wr) {n:Nat} (hn:d.size=n):∀t,t<n→wr.frozen? ⟨blk,off+t,none⟩=false:=fun t ht=>(h.holds t (by omega)).2
theorem SW.swap (h:SW w blk off d wr) {G:Nat→Int} (hG:∀t,G t=d[t]!) {i j:Nat} (hi:i<d.size) (hj:j<d.size) :
 SW w blk off (swp d i j) ((wr.setCell ⟨blk,off+i,none⟩ (.int .i32 (G j))).setCell ⟨blk,off+j,none⟩ (.int .i32 (G i))):=by
 refine⟨(h.keep.setCell rfl _).setCell rfl _,?_⟩
 rw[hG,hG]
 have e:=putRow_swp E32 wr blk off d i j hi hj
 rw[putRow_self E32 wr blk off d h.holds] at e
 rw[show (wr.setCell ⟨blk,off+i,none⟩ (.int .i32 d[j]!)).setCell ⟨blk,off+j,none⟩ (.int .i32 d[i]!)=_ from e]
 exact holds_putRow E32 wr blk off d _ h.holds (size_swp _ _ _)
theorem SW.swapq (h:SW w blk off d wr) {G:Nat→Int} (hG:∀t,G t=d[t]!) {i j:Nat} (hi:i<d.size) (hj:j<d.size) (q r:Nat) :
 SW w blk off (swp d i j) ((((wr.drewN q).setCell ⟨blk,off+i,none⟩ (.int .i32 (G j))).setCell ⟨blk,off+j,none⟩ (.int .i32 (G i))).drewN r) :=
 ((h.drewN q).swap hG hi hj).drewN r
end
section
variable (lt:Int→Int→Bool)
theorem insInner_go (a j:Nat) (d:Array Int) (hj:a<j) (hl:lt d[j]! d[j-1]! = true):insInner lt a j d=insInner lt a (j-1) (swp d j (j-1)):=by
 obtain⟨k,rfl⟩:∃k,j=k+1:=⟨j-1,by omega⟩
 simp only[Nat.add_sub_cancel] at hl ⊢
 rw[insInner,if_pos (by simp[hl];omega)]
theorem insInner_stop (a j:Nat) (d:Array Int) (h:j≤a∨lt d[j]! d[j-1]! = false):insInner lt a j d=d:=by
 cases j with
 | zero=>rfl
 | succ k =>
   simp only[Nat.add_sub_cancel] at h
   rw[insInner,if_neg]
   rcases h with h|h
   ·simp;omega
   ·simp[h]
theorem insOuter_go (a b i:Nat) (d:Array Int) (h:i<b):insOuter lt a b i d=insOuter lt a b (i+1) (insInner lt a i d):=by rw[insOuter,if_pos h]
theorem insOuter_stop (a b i:Nat) (d:Array Int) (h:¬i<b):insOuter lt a b i d=d:=by rw[insOuter,if_neg h]
theorem sd_end {hi F root:Nat} (d:Array Int) (h:hi≤2*root+1):siftDown lt hi F root d=d:=by rw[siftDown,dif_pos h]
theorem sd_right {hi F root:Nat} (d:Array Int) (h1:2*root+2<hi) (h2:lt d[F+(2*root+1)]! d[F+(2*root+1)+1]! = true) :
 siftDown lt hi F root d=if lt d[F+root]! d[F+(2*root+2)]! then siftDown lt hi F (2*root+2) (swp d (F+root) (F+(2*root+2))) else d:=by
 rw[siftDown,dif_neg (by omega),if_pos (by simp[h2];omega)]
 cases lt d[F+root]! d[F+(2*root+2)]! with
 | true=>simp[h1]
 | false=>simp
theorem sd_left {hi F root:Nat} (d:Array Int) (h0:2*root+1<hi) (h1:¬(2*root+2<hi)∨lt d[F+(2*root+1)]! d[F+(2*root+1)+1]! = false) :
 siftDown lt hi F root d=if lt d[F+root]! d[F+(2*root+1)]! then siftDown lt hi F (2*root+1) (swp d (F+root) (F+(2*root+1))) else d:=by
 rw[siftDown,dif_neg (by omega),if_neg (by rcases h1 with h|h <;> simp[h] <;> omega)]
 cases lt d[F+root]! d[F+(2*root+1)]! with
 | true=>simp
 | false=>simp
theorem sd_r {hi F root:Nat} (d:Array Int) (h1:2*root+2<hi) (h2:lt d[F+2*root+1]! d[F+2*root+2]! = true) :
 siftDown lt hi F root d=if lt d[F+root]! d[F+2*root+2]! then siftDown lt hi F (2*root+2) (swp d (F+root) (F+2*root+2)) else d:=sd_right lt d h1 h2
theorem sd_l {hi F root:Nat} (d:Array Int) (h0:2*root+1<hi) (h1:¬(2*root+2<hi)∨lt d[F+2*root+1]! d[F+2*root+2]! = false) :
 siftDown lt hi F root d=if lt d[F+root]! d[F+2*root+1]! then siftDown lt hi F (2*root+1) (swp d (F+root) (F+2*root+1)) else d:=sd_left lt d h0 h1
theorem size_siftDown (hi F:Nat):∀(n root:Nat) (d:Array Int),hi-root≤n→(siftDown lt hi F root d).size=d.size:=by
 intro n
 induction n with
 | zero=>intro root d h;rw[sd_end lt d (by omega)]
 | succ n ih =>
   intro root d h
   by_cases h0:hi≤2*root+1
   ·rw[sd_end lt d h0]
   ·by_cases h1:2*root+2<hi∧lt d[F+(2*root+1)]! d[F+(2*root+1)+1]! = true
    ·rw[sd_right lt d h1.1 h1.2]
     split
     ·rw[ih _ _ (by omega),size_swp]
     ·rfl
    ·rw[sd_left lt d (by omega) (by
     by_cases h2:2*root+2<hi
     ·right;cases h3:lt d[F+(2*root+1)]! d[F+(2*root+1)+1]! with
      | true=>exact absurd ⟨h2,h3⟩ h1
      | false=>rfl
     ·exact .inl h2)]
     split
     ·rw[ih _ _ (by omega),size_swp]
     ·rfl
theorem scanUp_go (p:Int→Bool) (d:Array Int) (j i:Nat) (h:i≤j) (hp:p d[i]! = true):scanUp p d j i=scanUp p d j (i+1):=by
 rw[scanUp,if_pos (by simp[h,hp])]
theorem scanUp_end (p:Int→Bool) (d:Array Int) (j i:Nat) (h:¬i≤j∨p d[i]! = false):scanUp p d j i=i:=by
 rw[scanUp,if_neg (by rcases h with h|h <;> simp[h])]
theorem scanDown_go (p:Int→Bool) (d:Array Int) (i j:Nat) (h:i≤j) (h0:0<j) (hp:p d[j]! = true):scanDown p d i j=scanDown p d i (j-1):=by
 obtain⟨k,rfl⟩:∃k,j=k+1:=⟨j-1,by omega⟩
 rw[scanDown,if_pos (by simp[h,hp])]
 rfl
theorem scanDown_end (p:Int→Bool) (d:Array Int) (i j:Nat) (h:¬i≤j∨p d[j]! = false):scanDown p d i j=j:=by
 cases j with
 | zero=>rfl
 | succ k=>rw[scanDown,if_neg (by rcases h with h|h <;> simp[h])]
theorem ss_go (d:Array Int) (b i:Nat) (h:i<b) (hl:lt d[i]! d[i-1]! = false):scanSorted lt d b i=scanSorted lt d b (i+1):=by
 rw[scanSorted,if_pos (by simp[h,hl])]
theorem ss_stop (d:Array Int) (b i:Nat) (h:¬i<b∨lt d[i]! d[i-1]! = true):scanSorted lt d b i=i:=by
 rw[scanSorted,if_neg (by rcases h with h|h <;> simp[h])]
theorem sdn_go (j:Nat) (d:Array Int) (hj:1≤j) (hl:lt d[j]! d[j-1]! = true):shiftDown lt j d=shiftDown lt (j-1) (swp d j (j-1)):=by
 obtain⟨k,rfl⟩:∃k,j=k+1:=⟨j-1,by omega⟩
 simp only[Nat.add_sub_cancel] at hl ⊢
 rw[shiftDown,if_neg (by simp[hl])]
theorem sdn_stop (j:Nat) (d:Array Int) (h:¬1≤j∨lt d[j]! d[j-1]! = false):shiftDown lt j d=d:=by
 cases j with
 | zero=>rfl
 | succ k =>
   simp only[Nat.add_sub_cancel] at h
   rw[shiftDown,if_pos]
   rcases h with h|h
   ·omega
   ·simp[h]
theorem sup_go (b j:Nat) (d:Array Int) (hj:j<b) (hl:lt d[j]! d[j-1]! = true):shiftUp lt b j d=shiftUp lt b (j+1) (swp d j (j-1)):=by
 rw[shiftUp,if_pos hj,if_neg (by simp[hl])]
theorem sup_stop (b j:Nat) (d:Array Int) (h:¬j<b∨lt d[j]! d[j-1]! = false):shiftUp lt b j d=d:=by
 rw[shiftUp]
 rcases h with h|h
 ·rw[if_neg h]
 ·rw[if_pos (by simp[h]:(!lt d[j]! d[j-1]!)=true)]
  split <;> rfl
theorem pi_true (a b s i:Nat) (d:Array Int) (hs:s<5) (hK:scanSorted lt d b i=b):partialIns lt a b (5-s) i d=(d,true):=by
 rw[show 5-s=(4-s)+1 by omega,partialIns]
 simp[hK]
theorem pi_short (a b s i k:Nat) (d:Array Int) (hs:s<5) (hK:scanSorted lt d b i=k) (hkb:k≠b) (h50:b-a<50):partialIns lt a b (5-s) i d=(d,false):=by
 rw[show 5-s=(4-s)+1 by omega,partialIns]
 simp[hK,hkb,h50]
theorem pi_go (a b s i k:Nat) (d:Array Int) (hs:s<5) (hK:scanSorted lt d b i=k) (hkb:k≠b) (h50:¬b-a<50) {d1 d2 d3:Array Int} (h1:d1=swp d k (k-1))
 (h2:d2=if k-a≥2 then shiftDown lt (k-1) d1 else d1) (h3:d3=if b-k≥2 then shiftUp lt b (k+1) d2 else d2):partialIns lt a b (5-s) i d=partialIns lt a b (5-(s+1)) k d3:=by
 subst h1 h2 h3
 rw[show 5-s=(5-(s+1))+1 by omega,partialIns]
 simp only[hK]
 rw[if_neg hkb,if_neg h50]
end
end Go.Kt.Os
