/- Parts of the proof of what the last text says. -/
import Derived.Test.YtgpbaeehajkebaaGreatDoorFx
import Derived.Test.YtgpbaeehajkebaaGreatDoorKx
import Derived.RangeFuncBound
import Derived.Shelf.Abstract
import Derived.Shelf.RegionOpen
import Derived.OwnWalkIn
import Derived.TacticsInMore
import Derived.LoopNIn
import Derived.LoopIn
import Derived.Deep.Draws
import Derived.Test.YtgpbaeehajkebaaGreatDoorGv9
import Derived.Laws.IdiomStrings
import Derived.Test.YtgpbaeehajkebaaGreatDoorGv6
import Derived.Laws.Cover4
import Derived.Laws.MakeOwn
import Derived.Sort.QuietIn
import Derived.Sort.QuietTacIn
import Derived.Test.YtgpbaeehajkebaaGreatDoorGv15
import Derived.Test.YtgpbaeehajkebaaGreatDoorGv16
import Derived.Test.YtgpbaeehajkebaaGreatDoorGv13
import Derived.Lib.AppendZeros
import Derived.Test.YtgpbaeehajkebaaGreatDoorGv11
import Derived.Test.YtgpbaeehajkebaaGreatDoorGv12
namespace Go.Proofs.YtgpbaeehajkebaaGreatDoor
open Go Go.RowKit Go.Lib
theorem befP_in (s:ByteArray) (n:Nat) (h1:1≤n) (h:n≤s.size):befP s n=befK s n 5 1:=by
 unfold befP;rw[if_pos (by omega)];simp
theorem befP_out (s:ByteArray) (a:Int) (h:a<1∨s.size<a):befP s a=(65533,0):=by
 unfold befP;rw[if_neg (by omega)]
theorem utfBefore_any (s:ByteArray) (a:Int) (w:World) (hT:Utf8Tabs 3 4 w) (hs:s.size≤4611686018427387904) :
 Calls Tryz.prog 25 #[.string s,.int .i64 a] w fun e w'=>e = .returned (.tuple #[.int .i32 (befP s a).1,.int .i64 (befP s a).2])∧Below w.heap.size w w':=by
 have HT:=Lib.hid hT;clear hT
 by_cases hin:1≤a∧a≤s.size
 ·obtain⟨n,rfl⟩:=Int.eq_ofNat_of_zero_le (by omega:0≤a)
  obtain⟨hn1,hn2⟩:=hin
  have H:=Lib.hid (befP_in s n (by omega) (by omega))
  generalize befP s n=R at H ⊢
  have HD:Hid (∀w,Utf8Tabs 3 4 w→Calls Tryz.prog 50 #[.string (s.extract 0 n)] w fun e w'=>e = .returned (.tuple #[.int .i32 R.1,.int .i64 R.2])∧Below w.heap.size w w'):=Lib.hid fun w hT=>by
   have:=Tryz.utf8_DecodeLastRuneInString (s.extract 0 n) w (by rw[size_pre s n (by omega)];omega) hT
   have e:=last_bef s n (by omega) (by omega)
   rw[H.out,←e];exact this
  clear H
  have t1:decide ((n:Int)<1)=false:=by simp;omega
  have t2:decide (s.size<n)=false:=by simp;omega
  go_enter Tryz.func25,Tryz.ntmps25
  go_wp2_with (go_at_call 50;refine (HD.out _ HT.out).mono ?_;rintro e w' ⟨rfl,hb⟩)
  go_ret2
  exact⟨rfl,hb⟩
 ·have H:=Lib.hid (befP_out s a (by omega))
  generalize befP s a=R at H ⊢
  by_cases h0:a<1
  ·go_enter Tryz.func25,Tryz.ntmps25
   go_wp2
   go_ret2
   rw[H.out];exact⟨rfl,Below.refl _ _⟩
  ·go_enter Tryz.func25,Tryz.ntmps25
   go_wp2
   go_ret2
   rw[H.out];exact⟨rfl,Below.refl _ _⟩
end Go.Proofs.YtgpbaeehajkebaaGreatDoor
namespace Go.Proofs.YtgpbaeehajkebaaGreatDoor
open Go Go.RowKit Go.Kt Go.Shelf
attribute [local go_sem] Oper.semAt_some
theorem run_next_str {P:Program} (W:World) (k:Nat) (s:ByteArray) (pos:Nat) (ty:TypeId) (hb:W.heap[k]? = some (.stringIter s pos)) (h:pos<s.size) :
 (Instr.next (.pointer (some ⟨k,0,none⟩)) true ty).run P W =
  .ok (.tuple #[.bool true,.int .i64 pos,.int .i32 (Utf8.decode s pos).1]) (W.putObj k (.stringIter s (pos+(Utf8.decode s pos).2))):=by
 simp only[Instr.next,getObj,setObj,Sem.run_bind,Sem.run,hb,Result.andThen,h,if_true]
 simp[goInt,World.putObj]
theorem run_next_str_end {P:Program} (W:World) (k:Nat) (s:ByteArray) (pos:Nat) (ty:TypeId) (hb:W.heap[k]? = some (.stringIter s pos)) (h:¬pos<s.size) :
 (Instr.next (.pointer (some ⟨k,0,none⟩)) true ty).run P W = .ok (.tuple #[.bool false]) W:=by
 simp[Instr.next,getObj,Sem.run,hb,h]
def unitsF (s:ByteArray):Nat→Nat→List (Nat × Nat)
 | 0,_=>[]
 | f+1,pos=>if pos<s.size then (pos,(Utf8.decode s pos).1)::unitsF s f (pos+(Utf8.decode s pos).2) else []
def units (s:ByteArray):List (Nat × Nat):=unitsF s s.size 0
abbrev enc2 (p:Nat × Nat):Array Value:=#[.int .i64 p.1,.int .i32 p.2]
theorem dec_width (s:ByteArray) (pos:Nat) (h:pos<s.size):1≤(Utf8.decode s pos).2∧(Utf8.decode s pos).2≤4∧pos+(Utf8.decode s pos).2≤s.size:=by
 rcases decode_wide s pos h with ⟨_,e⟩|⟨w,h1,h4,hw,_,e⟩
 ·rw[e];simp;omega
 ·omega
def iterPos (W:World) (k:Nat):Nat:=match W.heap[k]? with|some (.stringIter _ p)=>p|_=>0
theorem iterPos_eq {W:World} {k:Nat} {s:ByteArray} {p:Nat} (h:W.heap[k]? = some (.stringIter s p)):iterPos W k=p:=by simp[iterPos,h]
theorem all_iter (s:ByteArray) (bs:Nat) (w0:World) (hc:w0.cell? ⟨bs,0,none⟩=some (.string s)) (_hs:s.size≤4611686018427387904) :
 Iter Tryz.prog 43 #[.pointer (some ⟨bs,0,none⟩)] enc2 (units s) (fun b=>b=bs) w0:=by
 intro l X J Jx W hNd hX hsame hsz hJ hJx hY h0
 have hcW:W.cell? ⟨bs,0,none⟩=some (.string s):=(World.cell?_of_block (w:=w0) (a:=⟨bs,0,none⟩) (hsame bs rfl)).trans hc
 have hbs:bs<W.heap.size:=lt_of_cell hcW
 have hX':¬X bs:=hNd bs rfl
 refine (callsIn_wide (n:=0)).1 ?_
 refine callsIn_of_wp Tryz.func43 rfl trivial ?_ rfl
 simp only[Tryz.ntmps43,List.size_toArray,List.length_cons,List.length_nil,Nat.reduceAdd,Nat.reduceSub,Array.replicate_succ,Array.replicate_zero,List.push_toArray,List.append_toArray,List.nil_append,List.cons_append]
 gi_wp2
 have HJ0:J [] (fun _=>False) (W.alloc (.stringIter s 0)):=hJ _ _ _ _ ((Keep.refl _ W).alloc _) h0
 gi_loopw [3] (fun _ wr=>∃(pre:List (Nat × Nat)) (Y:Nat→Prop) (pos f:Nat),(∀b,Y b→W.heap.size+1≤b)∧pre++unitsF s f pos=units s∧s.size≤pos+f∧J pre Y wr∧Keep X W wr∧W.heap.size<wr.heap.size∧wr.heap[W.heap.size]? = some (.stringIter s pos))
  (fun _ wr=>s.size-iterPos wr W.heap.size)
 case atStart =>
  exact⟨[],_,0,s.size,fun _ h=>h.elim,rfl,by omega,HJ0,(Keep.refl X W).alloc _,(Array.getElem?_eq_some_iff.1 (World.alloc_heap_new W (.stringIter s 0))).1,World.alloc_heap_new W _⟩
 case round =>
  obtain⟨pre,Y,pos,f,hYl,hp,hf,hJs,hk,hlt,hit⟩:=hrel
  by_cases hpos:pos<s.size
  ·obtain⟨d1,d2,d3⟩:=dec_width s pos hpos
   obtain⟨f',rfl⟩:∃f',f=f'+1:=⟨f-1,by omega⟩
   have hun:unitsF s (f'+1) pos=(pos,(Utf8.decode s pos).1)::unitsF s f' (pos+(Utf8.decode s pos).2):=by rw[unitsF,if_pos hpos]
   rw[hun] at hp
   have hpre:pre++[(pos,(Utf8.decode s pos).1)] <+: units s:=⟨unitsF s f' (pos+(Utf8.decode s pos).2),by rw[←hp];simp⟩
   obtain⟨W1,hW1⟩:∃W1,wr.putObj W.heap.size (.stringIter s (pos+(Utf8.decode s pos).2))=W1:=⟨_,rfl⟩
   have hb1:Below W.heap.size wr W1:=by rw[←hW1];exact below_putObj (Nat.le_refl _) _
   have hit1:W1.heap[W.heap.size]? = some (.stringIter s (pos+(Utf8.decode s pos).2)):=by rw[←hW1];exact World.putObj_heap_same hlt
   have hk1:Keep X W W1:=hk.then hb1
   have hst:Keep (fun b=>W.heap.size≤b∧¬Y b) wr W1:=by rw[←hW1];exact (Keep.refl _ wr).putObj (.inl ⟨Nat.le_refl _,fun hy=>by have:=hYl _ hy;omega⟩) _
   have hlt1:W.heap.size<W1.heap.size:=(Array.getElem?_eq_some_iff.1 hit1).1
   obtain⟨fn,tmps,assign,body,hy,hR⟩:=hY pre _ Y W1 hpre (hJ _ _ _ _ hst hJs) (by omega) (fun b hb=>by have:=hYl b hb;omega)
   have hnx:∀ty,(Instr.next (.pointer (some ⟨W.heap.size,0,none⟩)) true ty).run Tryz.prog wr = .ok (.tuple #[.bool true,.int .i64 pos,.int .i32 (Utf8.decode s pos).1]) W1:=fun ty=>by
    rw[←hW1];exact run_next_str wr W.heap.size s pos ty hit hpos
   generalize Utf8.decode s pos=dd at *
   obtain⟨r,wd⟩:=dd
   have Hdat:=Lib.hid (And.intro hp (And.intro hf (And.intro hit (And.intro hit1 hpre))))
   clear hp hf hun hpre hit hit1 hW1
   gi_wp2
   refine⟨rfl,hR.mono ?_⟩
   rintro e W2 ⟨Y',hk2,hY',(⟨rfl,hJ2⟩|⟨rfl,hJx2⟩)⟩
   ·obtain⟨hp,hf,hit,hit1,hpre⟩:=Hdat.out
    have hit2:=hk2.heap hit1 (fun h=>by rcases h with h|h;have:=hX _ h;omega;have:=hYl _ h;omega)
    have hkW:Keep X W W2:=⟨hk2.os.trans hk1.os,hk2.tape.trans hk1.tape,hk2.output.trans hk1.output,Nat.le_trans hk1.size hk2.size,fun b hb hx=>(hk2.same b (Nat.lt_of_lt_of_le hb hk1.size) (fun h=>by rcases h with h|h;exact hx h;have:=hYl b h;omega)).trans (hk1.same b hb hx)⟩
    gi_wp2
    go_roundw
    case rel=>exact⟨pre++[(pos,r)],Y',pos+wd,f',fun b hb=>by rcases hY' b hb with h|h;exact hYl b h;omega,by rw[List.append_assoc];exact hp,by omega,hJ2,hkW,(Array.getElem?_eq_some_iff.1 hit2).1,hit2⟩
    case measure=>rw[iterPos_eq hit2,iterPos_eq hit];omega
   ·obtain⟨hp,hf,hit,hit1,hpre⟩:=Hdat.out
    gi_wp2
    refine bodyPost_ret (results_none rfl _ _ _) rfl ?_
    have hkW:Keep X W W2:=⟨hk2.os.trans hk1.os,hk2.tape.trans hk1.tape,hk2.output.trans hk1.output,Nat.le_trans hk1.size hk2.size,fun b hb hx=>(hk2.same b (Nat.lt_of_lt_of_le hb hk1.size) (fun h=>by rcases h with h|h;exact hx h;have:=hYl b h;omega)).trans (hk1.same b hb hx)⟩
    exact⟨⟨_,rfl⟩,hkW,.inr ⟨_,Y',hpre,fun b hb=>by rcases hY' b hb with h|h;have:=hYl b h;omega;omega,hJx2⟩⟩
  ·have hnx:∀ty,(Instr.next (.pointer (some ⟨W.heap.size,0,none⟩)) true ty).run Tryz.prog wr = .ok (.tuple #[.bool false]) wr:=fun ty=>run_next_str_end wr W.heap.size s pos ty hit hpos
   have hun:unitsF s f pos=[]:=by
    cases f with
    | zero=>rfl
    | succ f=>rw[unitsF,if_neg hpos]
   rw[hun,List.append_nil] at hp
   have Hp:=Lib.hid hp
   clear hp hit hun
   gi_wp2
   go_end0
   exact⟨⟨_,rfl⟩,hk,.inl ⟨Y,fun b hb=>by have:=hYl b hb;omega,Hp.out▸hJs⟩⟩
end Go.Proofs.YtgpbaeehajkebaaGreatDoor
namespace Go.Proofs.YtgpbaeehajkebaaGreatDoor
open Go Go.RowKit Go.Lib
theorem below_drewN {B:Nat} {a w:World} (h:Below B a w) (n:Nat):Below B a (w.drewN n):=⟨h.os,h.tape,h.output,h.size,h.block⟩
def fullK (k lo hi:Nat) (n b1 b2:Nat):Bool :=
 if k≤n then true else if 1<n∧(b1<lo∨hi<b1) then true else if 2<n∧(b2<128∨191<b2) then true else false
end Go.Proofs.YtgpbaeehajkebaaGreatDoor
namespace Go.Proofs.YtgpbaeehajkebaaGreatDoor
open Go Go.RowKit Go.Lib
def fullB (s:ByteArray):Bool:=if s.size=0 then false else (((begunI s 0).1==(begunI s 0).2)||decide ((begunI s 0).1<s.size))
end Go.Proofs.YtgpbaeehajkebaaGreatDoor
namespace Go.Proofs.YtgpbaeehajkebaaGreatDoor
open Go Go.RowKit Go.Lib
def pieceK (s:ByteArray):Nat→Nat→Nat
 | 0,n=>n
 | f+1,n=>if n<s.size∧fullB (s.extract 0 (n+1))=false then pieceK s f (n+1) else n
def illB (s:ByteArray) (i:Nat):Bool:=wideI s i==0
end Go.Proofs.YtgpbaeehajkebaaGreatDoor
namespace Go.Proofs.YtgpbaeehajkebaaGreatDoor
open Go Go.RowKit Go.Lib
def badK (s:ByteArray) (i:Nat):Nat:=((begunI s i).1).toNat.max 1
def badsF (s:ByteArray):Nat→Nat→List (Nat × Nat)
 | 0,_=>[]
 | f+1,i=>if i<s.size then (if wideI s i=0 then (i,badK s i)::badsF s f (i+badK s i) else badsF s f (i+(wideI s i).toNat)) else []
def bads (s:ByteArray):List (Nat × Nat):=badsF s s.size 0
theorem wide0_iff (s:ByteArray) (i:Nat):wideI s i=0↔((leadI (B s i)).1=0∨bgT (leadI (B s i)) (s.size-i) (B s (i+1)) (B s (i+2)) (B s (i+3))≠(leadI (B s i)).1):=by
 unfold wideI
 rw[begunI_eq]
 by_cases hz:(leadI (B s i)).1=0
 ·rw[if_pos hz];simp[hz]
 ·rw[if_neg hz]
  by_cases hq:bgT (leadI (B s i)) (s.size-i) (B s (i+1)) (B s (i+2)) (B s (i+3))=(leadI (B s i)).1
  ·simp[hq,hz]
  ·simp[hq]
theorem wide_cont (s:ByteArray) (i:Nat) (h1:128≤B s i) (h2:B s i≤191):wideI s i=0:=by
 rw[wide0_iff];left;rw[lead_bad _ (by omega)]
def badU (s:ByteArray):Nat→Nat→Nat→List (Nat × Nat)
 | 0,_,_=>[]
 | f+1,p,e=>if p<s.size then (if p<e∨wideI s p≠0 then badU s f (p+(Utf8.decode s p).2) e else (p,badK s p)::badU s f (p+(Utf8.decode s p).2) (p+badK s p)) else []
end Go.Proofs.YtgpbaeehajkebaaGreatDoor
namespace Go.Proofs.YtgpbaeehajkebaaGreatDoor
open Go Go.RowKit Go.Kt Go.Shelf
attribute [local go_sem] Oper.semAt_some
abbrev encP (p:Nat × Nat):Array Value:=#[.int .i64 p.1,.int .i64 p.2]
end Go.Proofs.YtgpbaeehajkebaaGreatDoor
namespace Go.Proofs.YtgpbaeehajkebaaGreatDoor
open Go Go.RowKit Go.Kt Go.Shelf
attribute [local go_sem] Oper.semAt_some
theorem utfAll_call (s:ByteArray) (w:World) :
 Calls Tryz.prog 19 #[.string s] w fun e w'=>e = .returned (.func (.func 43) #[] #[.pointer (some ⟨w.heap.size,0,none⟩)])∧w.alloc (.cells #[.string s] 9)=w':=by
 go_enter Tryz.func19,Tryz.ntmps19
 go_wp2
 go_ret
 exact⟨rfl,rfl⟩
theorem utfBack_call (s:ByteArray) (w:World) :
 Calls Tryz.prog 23 #[.string s] w fun e w'=>e = .returned (.func (.func 49) #[] #[.pointer (some ⟨w.heap.size,0,none⟩)])∧w.alloc (.cells #[.string s] 9)=w':=by
 go_enter Tryz.func23,Tryz.ntmps23
 go_wp2
 go_ret
 exact⟨rfl,rfl⟩
/-! what Mend writes -/
def rep (l:List UInt8):Nat→List UInt8
 | 0=>[]
 | n+1=>rep l n++l
def mendStep (s by':ByteArray) (whole:Bool) (st:List UInt8 × Nat) (p:Nat × Nat):List UInt8 × Nat :=
 (st.1++(s.extract st.2 p.1).data.toList++rep by'.data.toList (if whole then 1 else p.2),p.1+p.2)
def mendF (s by':ByteArray) (whole:Bool) (l:List (Nat × Nat)):List UInt8 × Nat:=l.foldl (mendStep s by' whole) ([],0)
def mendL (s by':ByteArray) (whole:Bool):List UInt8 :=
 (mendF s by' whole (bads s)).1++(s.extract (mendF s by' whole (bads s)).2 s.size).data.toList
def Chain (n:Nat):Nat→List (Nat × Nat)→Prop
 | _,[]=>True
 | lo,(a,k)::r=>lo≤a∧1≤k∧a+k≤n∧Chain n (a+k) r
end Go.Proofs.YtgpbaeehajkebaaGreatDoor
namespace Go.Proofs.YtgpbaeehajkebaaGreatDoor
open Go Go.RowKit Go.Kt Go.Shelf
attribute [local go_sem] Oper.semAt_some
end Go.Proofs.YtgpbaeehajkebaaGreatDoor
namespace Go.Proofs.YtgpbaeehajkebaaGreatDoor
open Go Go.RowKit Go.Kt Go.Shelf
def pieceCells (l:List (Nat × Nat)):List Value:=l.flatMap fun p=>[.int .i64 p.1,.int .i64 p.2]
def OwnB (Y:Nat→Prop) (v:Value) (l:List UInt8) (W:World):Prop:=W.ownsRowF 0 5 1 v l.length (Lib.byteCells l)∧∀g,v.ownBlock=some g→Y g
end Go.Proofs.YtgpbaeehajkebaaGreatDoor
namespace Go.Proofs.YtgpbaeehajkebaaGreatDoor
open Go Go.RowKit Go.Kt Go.Shelf
def runeCells (s:ByteArray):List Value:=(units s).map fun p=>Value.int .i32 p.2
theorem unitsF_len (s:ByteArray):∀f i,(unitsF s f i).length≤f
 | 0,i=>by simp[unitsF]
 | f+1,i=>by
   unfold unitsF
   split
   ·have:=unitsF_len s f (i+(Utf8.decode s i).2)
    simp;omega
   ·simp
theorem units_len (s:ByteArray):(units s).length≤s.size:=unitsF_len s s.size 0
end Go.Proofs.YtgpbaeehajkebaaGreatDoor
namespace Go.Proofs.YtgpbaeehajkebaaGreatDoor
open Go Go.RowKit Go.Kt Go.Shelf
abbrev s1:ByteArray:=⟨#[97,195,169]⟩
abbrev s2:ByteArray:=⟨#[195]⟩
abbrev s3:ByteArray:=⟨#[255,98]⟩
theorem d1:decP s1 1=(233,2):=by kernel_rfl
theorem d2:decP s2 0=(65533,1):=by kernel_rfl
theorem d3:runeCells s3=[.int .i32 65533,.int .i32 98]:=by kernel_rfl
theorem d4:Utf8.encode 233=⟨#[195,169]⟩:=by kernel_rfl
theorem d5:mendL ⟨#[255]⟩ ⟨#[63]⟩ true=[63]:=by kernel_rfl
theorem d6:fullB ⟨#[97]⟩=true:=by kernel_rfl
end Go.Proofs.YtgpbaeehajkebaaGreatDoor
namespace Go.Proofs.YtgpbaeehajkebaaGreatDoor
open Go Go.RowKit Go.Kt Go.Shelf
def okF (s:ByteArray):Nat→Nat→Bool
 | 0,_=>true
 | f+1,i=>if i<s.size then (if illB s i then false else okF s f (i+(Utf8.decode s i).2)) else true
def okB (s:ByteArray):Bool:=okF s s.size 0
end Go.Proofs.YtgpbaeehajkebaaGreatDoor
namespace Go.Proofs.YtgpbaeehajkebaaGreatDoor
open Go
def numsF (s:ByteArray) (f i:Nat):List Nat:=(unitsF s f i).map (·.2)
def placesF (s:ByteArray) (f i:Nat):List Nat:=(unitsF s f i).map (·.1)
theorem placesF_in (s:ByteArray) (f i:Nat) (h:i<s.size):placesF s (f+1) i=i::placesF s f (i+(Utf8.decode s i).2):=by
 simp[placesF,unitsF,h]
theorem placesF_end (s:ByteArray) (f i:Nat) (h:s.size≤i):placesF s f i=[]:=by
 cases f with
 | zero=>rfl
 | succ f=>simp[placesF,unitsF,Nat.not_lt.2 h]
theorem placesF_ge (s:ByteArray):∀f i p,p∈placesF s f i→i≤p
 | 0,_,p,h=>by simp[placesF,unitsF] at h
 | f+1,i,p,h=>by
   rcases Nat.lt_or_ge i s.size with hi|hi
   ·rw[placesF_in s f i hi] at h
    rcases List.mem_cons.1 h with h|h
    ·omega
    ·have:=placesF_ge s f _ p h;omega
   ·rw[placesF_end s _ i hi] at h;simp at h
theorem in_char (s:ByteArray) (i j:Nat) (hi:i<s.size) (hj:1≤j) (hw:j<(Utf8.decode s i).2):128≤B s (i+j)∧B s (i+j)≤191:=by
 rcases unit_at s i hi with ⟨_,e⟩|⟨u,u1,u4,_,e1,e2,_⟩
 ·rw[e] at hw;simp only at hw;omega
 ·have hc:=((wide_iff s i u hi u1 u4).1 e1).2
  rw[e2] at hw
  rcases hc with ⟨rfl,_⟩|⟨rfl,h⟩|⟨rfl,h⟩|⟨rfl,h⟩
  ·omega
  ·obtain rfl:j=1:=by omega
   omega
  ·rcases (by omega:j=1∨j=2) with rfl|rfl <;> omega
  ·rcases (by omega:j=1∨j=2∨j=3) with rfl|rfl|rfl <;> omega
def nums (s:ByteArray):List Nat:=numsF s s.size 0
end Go.Proofs.YtgpbaeehajkebaaGreatDoor
namespace Go.Proofs.YtgpbaeehajkebaaGreatDoor
open Go Go.RowKit Go.Kt Go.Shelf
attribute [local go_sem] Oper.semAt_some
def Plc (m:Nat) (s:ByteArray) (p:Nat→Bool) (W:World):Prop :=
 ∃c:Array Value,W.heap[m]? = some (.cells c 4 (0,0))∧∀i,i≤s.size→c[i]? = some (.bool (p i))
def pcs (s:ByteArray) (pre:List (Nat × Nat)) (i:Nat):Bool:=(pre.map fun p=>p.1).contains i||(i==s.size||i==0)
def numsI (s:ByteArray):List Int:=(nums s).map fun x:Nat=>(x:Int)
end Go.Proofs.YtgpbaeehajkebaaGreatDoor
namespace Go.Proofs.YtgpbaeehajkebaaGreatDoor
open Go Go.RowKit Go.Kt Go.Shelf
def encC (c:Int):ByteArray :=
 if c<128 then ⟨#[UInt8.ofNat c.toNat]⟩
 else if c<2048 then ⟨#[UInt8.ofNat (192+c/64).toNat,UInt8.ofNat (128+c % 64).toNat]⟩
 else if c<65536 then ⟨#[UInt8.ofNat (224+c/4096).toNat,UInt8.ofNat (128+c/64 % 64).toNat,UInt8.ofNat (128+c % 64).toNat]⟩
 else ⟨#[UInt8.ofNat (240+c/262144).toNat,UInt8.ofNat (128+c/4096 % 64).toNat,UInt8.ofNat (128+c/64 % 64).toNat,UInt8.ofNat (128+c % 64).toNat]⟩
end Go.Proofs.YtgpbaeehajkebaaGreatDoor
namespace Go.Proofs.YtgpbaeehajkebaaGreatDoor
open Go Go.RowKit Go.Kt Go.Kt.Rg Go.Maps
def yAt (s:ByteArray) (i:Nat):UInt8:=s.data.toList.getD i 0
theorem yAt_run (s:ByteArray) (i:Nat) (h:i<s.size) (w:World):(Instr.index 9 (.string s) (.int .i64 (i:Int))).run Tryz.prog w = .ok (.int .u8 ((yAt s i).toNat:Int)) w:=by
 have h':i<s.data.toList.length:=by rw[←Lib.size_eq];exact h
 have e:((yAt s i).toNat:Int)=((s[i]'h).toNat:Int):=by
  unfold yAt
  rw[List.getD_eq_getElem?_getD,List.getElem?_eq_getElem h'];rfl
 rw[run_index_string (h:=Tryz.underlying9),dif_pos (by omega),e];rfl
theorem yAt_drop (s:ByteArray) (i:Nat) (h:i<s.size):s.data.toList.drop i=yAt s i::s.data.toList.drop (i+1):=by
 have h':i<s.data.toList.length:=by rw[←Lib.size_eq];exact h
 unfold yAt
 rw[List.drop_eq_getElem_cons h',List.getD_eq_getElem?_getD,List.getElem?_eq_getElem h'];rfl
/-! ### Digits -/
def lowD:ByteArray:=⟨#[48,49,50,51,52,53,54,55,56,57,97,98,99,100,101,102]⟩
def uppD:ByteArray:=⟨#[48,49,50,51,52,53,54,55,56,57,65,66,67,68,69,70]⟩
def digB (base:Nat) (b:UInt8):Option Nat:=match digV b.toNat with
 | some d=>if d<base then some d else none
 | none=>none
theorem dig_low:∀k:Fin 16,(digV (yAt lowD k).toNat=some k.1)∧(digV (yAt uppD k).toNat=some k.1):=by decide
theorem dig_only:∀b:Fin 256,∀k:Fin 16,digV b.1=some k.1→b.1=(yAt lowD k).toNat∨b.1=(yAt uppD k).toNat:=of_decide_eq_true (by kernel_rfl)
def dK (b:UInt8) (k:Nat):Int:=match digV b.toNat with
 | some d=>if d<k then (d:Int) else -1
 | none=>-1
theorem dK_zero (b:UInt8):dK b 0 = -1:=by
 unfold dK
 split
 ·rw[if_neg (by omega)]
 ·rfl
theorem dK_yes {b:UInt8} {k:Nat} (hk:k<16) (h:b.toNat=(yAt lowD k).toNat∨b.toNat=(yAt uppD k).toNat):dK b (k+1)=k:=by
 have h1:=dig_low ⟨k,hk⟩
 have:digV b.toNat=some k:=by
  rcases h with h|h
  ·rw[h];exact h1.1
  ·rw[h];exact h1.2
 unfold dK
 rw[this]
 simp
theorem dK_no {b:UInt8} {k:Nat} (hk:k<16) (h1:b.toNat≠(yAt lowD k).toNat) (h2:b.toNat≠(yAt uppD k).toNat):dK b (k+1)=dK b k:=by
 have hne:digV b.toNat≠some k:=fun e=>by
  rcases dig_only ⟨b.toNat,b.toNat_lt⟩ ⟨k,hk⟩ e with h|h
  ·exact h1 h
  ·exact h2 h
 unfold dK
 cases hd:digV b.toNat with
 | none=>rfl
 | some d =>
   simp only
   have:d≠k:=fun e=>hne (by rw[hd,e])
   by_cases h:d<k
   ·rw[if_pos h,if_pos (by omega)]
   ·rw[if_neg h,if_neg (by omega)]
theorem dK_dig (b:UInt8) (base:Nat):dK b base=match digB base b with
 | some d=>(d:Int)
 | none=>-1:=by
 unfold dK digB
 cases digV b.toNat with
 | none=>rfl
 | some d =>
   simp only
   by_cases h:d<base
   ·rw[if_pos h,if_pos h]
   ·rw[if_neg h,if_neg h]
theorem digB_lt {base d:Nat} {b:UInt8} (h:digB base b=some d):d<base:=by
 unfold digB at h
 split at h
 ·split at h
  ·cases h;assumption
  ·cases h
 ·cases h
def numF (base:Nat):Nat→List UInt8→Option Nat
 | n,[]=>some n
 | n,b::t=>match digB base b with
   | some d=>numF base (base*n+d) t
   | none=>none
def numG (base least most:Nat) (l:List UInt8):Int:=if l.length<least∨most<l.length then -1 else match numF base 0 l with
 | some n=>(n:Int)
 | none=>-1
set_option maxRecDepth 100000 in
set_option maxHeartbeats 4000000 in
theorem ynumber (s:ByteArray) (base least most:Nat) (w:World) (hs:s.size≤140737488351232) (hB:(base=16∧least=4∧most=6)∨(base=10∧least=1∧most=18)) :
 Calls Tryz.prog 72 #[.string s,.int .i64 (base:Nat),.int .i64 (least:Nat),.int .i64 (most:Nat)] w fun e w'=>e = .returned (.int .i64 (numG base least most s.data.toList))∧Below w.heap.size w w':=by
 have hln:s.data.toList.length=s.size:=(Lib.size_eq s).symm
 by_cases h1:s.size<least
 ·have g1:(s.size:Int)<(least:Nat):=by omega
  have HR:Hid (numG base least most s.data.toList = -1):=Lib.hid (by unfold numG;rw[if_pos (.inl (by omega))])
  clear h1 hln hB
  go_enter Tryz.func72,Tryz.ntmps72
  go_wp2
  go_ret
  exact⟨by rw[HR.out];rfl,Below.refl _ _⟩
 have g1:¬(s.size:Int)<(least:Nat):=by omega
 by_cases h2:most<s.size
 ·have g2:((most:Nat):Int)<s.size:=by omega
  have HR:Hid (numG base least most s.data.toList = -1):=Lib.hid (by unfold numG;rw[if_pos (.inr (by omega))])
  clear h1 h2 hln hB
  go_enter Tryz.func72,Tryz.ntmps72
  go_wp2
  go_ret
  exact⟨by rw[HR.out];rfl,Below.refl _ _⟩
 have g2:¬((most:Nat):Int)<s.size:=by omega
 obtain⟨R,hR⟩:∃R,numG base least most s.data.toList=R:=⟨_,rfl⟩
 have hR2:(match numF base 0 s.data.toList with
  | some n=>(n:Int)
  | none=>-1)=R:=by rw[←hR];unfold numG;rw[if_neg (by omega)]
 rw[hR]
 have hb16:base≤16:=by omega
 have hb10:10≤base:=by omega
 have hmx:base ^ s.size≤1000000000000000000:=by
  rcases hB with ⟨rfl,_,rfl⟩|⟨rfl,_,rfl⟩
  ·exact Nat.le_trans (Nat.pow_le_pow_right (by decide) (by omega:s.size≤6)) (by decide)
  ·exact Nat.le_trans (Nat.pow_le_pow_right (by decide) (by omega:s.size≤18)) (by decide)
 have HP:=Lib.hid (And.intro hb16 (And.intro hb10 (And.intro hmx hln)))
 have HR:=Lib.hid hR2
 clear hB hR hR2 h1 h2 hln hb10 hmx
 go_enter Tryz.func72,Tryz.ntmps72
 go_wp2_with fail
 clear g1 g2
 go_loopw [9,10] (fun u v wr=>∃(i n:Nat),u = .int .i64 (n:Nat)∧v = .int .i64 (i:Nat)∧i≤s.size∧Hid (n<base ^ i∧(match numF base n (s.data.toList.drop i) with
  | some n=>(n:Int)
  | none=>-1)=R)∧Below w.heap.size w wr) (fun _ v _=>s.size-(RowKit.intOf v).toNat)
 case atStart=>exact⟨0,0,rfl,rfl,Nat.zero_le _,Lib.hid ⟨by simp,by rw[List.drop_zero];exact HR.out⟩,Below.refl _ _⟩
 case round =>
  obtain⟨i,n,rfl,rfl,hi,hn,hbr⟩:=hrel
  by_cases hlt:i<s.size
  ·have e1:(i:Int)<s.size:=by omega
   have HI:=fun W=>yAt_run s i hlt W
   have HD:=yAt_drop s i hlt
   obtain⟨b,hb⟩:∃b,yAt s i=b:=⟨_,rfl⟩
   rw[hb] at HI HD
   have HX:=Lib.hid (And.intro HD hbr)
   clear HD hbr hb
   go_wp2_with fail
   go_loopw [11,12] (fun u v wr=>∃(k:Nat),u = .int .i64 (dK b k)∧v = .int .i64 (k:Nat)∧k≤base∧Below w.heap.size w wr) (fun _ v _=>base-(RowKit.intOf v).toNat)
   case atStart=>exact⟨0,by rw[dK_zero],rfl,Nat.zero_le _,HX.out.2⟩
   case round =>
    obtain⟨k,rfl,rfl,hk,hbr2⟩:=hrel
    by_cases hkb:k<base
    ·have e2:(k:Int)<(base:Nat):=by omega
     have hk16:k<16:=by omega
     have HLo:=fun W=>yAt_run lowD k hk16 W
     have HUp:=fun W=>yAt_run uppD k hk16 W
     unfold lowD at HLo
     unfold uppD at HUp
     have hk1:IntKind.i64.wrap ((k:Int)+1)=((k+1:Nat):Int):=by rw[IntWalk.i64_in _ (by omega)];omega
     obtain⟨c,hc⟩:∃c:Int,(b.toNat:Int)=c:=⟨_,rfl⟩
     obtain⟨lo,hlo⟩:∃c:Int,((yAt lowD k).toNat:Int)=c:=⟨_,rfl⟩
     obtain⟨up,hup⟩:∃c:Int,((yAt uppD k).toNat:Int)=c:=⟨_,rfl⟩
     rw[show (yAt ⟨#[48,49,50,51,52,53,54,55,56,57,97,98,99,100,101,102]⟩ k)=yAt lowD k from rfl,hlo] at HLo
     rw[show (yAt ⟨#[48,49,50,51,52,53,54,55,56,57,65,66,67,68,69,70]⟩ k)=yAt uppD k from rfl,hup] at HUp
     rw[hc] at HI
     obtain⟨dv,hdv⟩:∃dv:Int,dK b k=dv:=⟨_,rfl⟩
     by_cases hcl:c=lo
     ·have q1:(c==lo)=true:=by simp[hcl]
      have HN:=Lib.hid (dK_yes hk16 (.inl (show b.toNat=(yAt lowD k).toNat by omega)))
      rw[hdv]
      have HBR:=Lib.hid hbr2
      clear hc hlo hup hbr2 hdv hcl
      go_wp2_with fail
      go_quiet (fail)
      go_wp2
      go_roundw
      case rel=>exact⟨k+1,by rw[HN.out],by go_num,by omega,below_drewN HBR.out _⟩
      case measure=>simp[RowKit.intOf];omega
     ·have q1:(c==lo)=false:=beq_eq_false_iff_ne.2 hcl
      by_cases hcu:c=up
      ·have q2:(c==up)=true:=by simp[hcu]
       have HN:=Lib.hid (dK_yes hk16 (.inr (show b.toNat=(yAt uppD k).toNat by omega)))
       rw[hdv]
       have HBR:=Lib.hid hbr2
       clear hc hlo hup hbr2 hdv hcl hcu
       go_wp2_with fail
       go_quiet (fail)
       go_wp2
       go_roundw
       case rel=>exact⟨k+1,by rw[HN.out],by go_num,by omega,below_drewN HBR.out _⟩
       case measure=>simp[RowKit.intOf];omega
      ·have q2:(c==up)=false:=beq_eq_false_iff_ne.2 hcu
       have HN:=Lib.hid ((dK_no hk16 (show b.toNat≠(yAt lowD k).toNat by omega) (show b.toNat≠(yAt uppD k).toNat by omega)).trans hdv)
       rw[hdv]
       have HBR:=Lib.hid hbr2
       clear hc hlo hup hbr2 hdv hcl hcu
       go_wp2_with fail
       go_quiet (fail)
       go_wp2
       go_roundw
       case rel=>exact⟨k+1,by rw[HN.out],by go_num,by omega,below_drewN HBR.out _⟩
       case measure=>simp[RowKit.intOf];omega
    ·have e2:¬(k:Int)<(base:Nat):=by omega
     obtain rfl:k=base:=by omega
     have hk1:IntKind.i64.wrap ((i:Int)+1)=((i+1:Nat):Int):=by rw[IntWalk.i64_in _ (by omega)];omega
     have hdd:=dK_dig b k
     have hst:=hn.out.2
     rw[HX.out.1,numF] at hst
     cases hdg:digB k b with
     | none =>
       rw[hdg] at hdd hst
       have HS:=Lib.hid hst
       have HBR:=Lib.hid hbr2
       rw[hdd]
       clear hdd hst hbr2 hdg hkb
       go_wp2
       go_ret
       exact⟨by rw[←HS.out];rfl,HBR.out⟩
     | some d =>
       rw[hdg] at hdd hst
       have hd:=digB_lt hdg
       have hpw:k*n+d<k ^ (i+1):=by
        rw[Nat.pow_succ,Nat.mul_comm (k ^ i)]
        have h3:k*(n+1)≤k*k ^ i:=Nat.mul_le_mul_left _ hn.out.1
        rw[Nat.mul_add] at h3
        omega
       have hle:k ^ (i+1)≤k ^ s.size:=Nat.pow_le_pow_right (by have:=HP.out.2.1;omega) (by omega)
       have hmx:=HP.out.2.2.1
       have w1:IntKind.i64.wrap ((k:Int)*(n:Int))=((k*n:Nat):Int):=by rw[IntWalk.i64_in _ (by rw[←Int.natCast_mul];omega)];exact (Int.natCast_mul _ _).symm
       have w2:IntKind.i64.wrap (((k*n:Nat):Int)+(d:Int))=((k*n+d:Nat):Int):=by rw[IntWalk.i64_in _ (by omega)];omega
       have d0:¬(d:Int)<0:=by omega
       have HS:=Lib.hid (And.intro hpw hst)
       have HBR:=Lib.hid hbr2
       simp only at hdd
       rw[hdd]
       obtain⟨K,hK⟩:∃K:Nat,k*n=K:=⟨_,rfl⟩
       rw[hK] at w1 w2
       have HK:=Lib.hid hK
       clear hdd hst hbr2 hdg hkb hpw hle hmx hd hK
       go_wp2
       go_roundw
       case rel=>exact⟨i+1,K+d,by go_num,by go_num,by omega,Lib.hid ⟨by rw[←HK.out];exact HS.out.1,by rw[←HK.out];exact HS.out.2⟩,HBR.out⟩
       case measure=>simp[RowKit.intOf];omega
  ·have e1:¬(i:Int)<s.size:=by omega
   have hr:=hn.out.2
   rw[List.drop_eq_nil_of_le (by have:=HP.out.2.2.2;omega)] at hr
   have hr2:(n:Int)=R:=hr
   have HR2:=Lib.hid hr2
   clear hr hr2 hlt
   go_wp2
   go_ret
   exact⟨by rw[←HR2.out];rfl,hbr⟩
end Go.Proofs.YtgpbaeehajkebaaGreatDoor
namespace Go.Proofs.YtgpbaeehajkebaaGreatDoor
open Go Go.RowKit Go.Kt Go.Kt.Rg Go.Maps
def jamP (n:Int):Bool:=leadP n||vowP n||tailP n
theorem jam_iff (n:Int):jamP n=decide ((4352≤n∧n≤4370)∨(4449≤n∧n≤4469)∨(4520≤n∧n≤4546)):=by
 rw[Bool.eq_iff_iff]
 simp[jamP,leadP,vowP,tailP]
 omega
theorem syl_iff (n:Int):sylP n=decide (44032≤n∧n≤55203):=by
 rw[Bool.eq_iff_iff]
 simp[sylP]
 omega
theorem han_two (n:Int):hanP n=(sylP n||jamP n):=by
 unfold hanP jamP
 simp[Bool.or_assoc]
set_option maxRecDepth 100000 in
theorem ysyl (n:Int) (w:World):Calls Tryz.prog 75 #[.int .i64 n] w fun e w'=>e = .returned (.bool (sylP n))∧Below w.heap.size w w':=by
 by_cases h2:44032≤n
 ·by_cases h4:n≤55203
  ·have HR:Hid (sylP n=true):=Lib.hid (by rw[syl_iff];simp;omega)
   go_enter Tryz.func75,Tryz.ntmps75
   go_wp2
   go_ret
   exact⟨by rw[HR.out];rfl,Below.refl _ _⟩
  ·have HR:Hid (sylP n=false):=Lib.hid (by rw[syl_iff];simp;omega)
   go_enter Tryz.func75,Tryz.ntmps75
   go_wp2
   go_ret
   exact⟨by rw[HR.out];rfl,Below.refl _ _⟩
 ·have HR:Hid (sylP n=false):=Lib.hid (by rw[syl_iff];simp;omega)
  go_enter Tryz.func75,Tryz.ntmps75
  go_wp2
  go_ret
  exact⟨by rw[HR.out];rfl,Below.refl _ _⟩
set_option maxRecDepth 100000 in
theorem yjam (n:Int) (w:World):Calls Tryz.prog 76 #[.int .i64 n] w fun e w'=>e = .returned (.bool (jamP n))∧Below w.heap.size w w':=by
 by_cases h2:4352≤n
 ·by_cases h4:n≤4370
  ·have HR:Hid (jamP n=true):=Lib.hid (by rw[jam_iff];simp;omega)
   go_enter Tryz.func76,Tryz.ntmps76
   go_wp2
   go_ret
   exact⟨by rw[HR.out];rfl,Below.refl _ _⟩
  ·by_cases h6:4449≤n
   ·by_cases h8:n≤4469
    ·have HR:Hid (jamP n=true):=Lib.hid (by rw[jam_iff];simp;omega)
     go_enter Tryz.func76,Tryz.ntmps76
     go_wp2
     go_ret
     exact⟨by rw[HR.out];rfl,Below.refl _ _⟩
    ·by_cases h10:4520≤n
     ·by_cases h12:n≤4546
      ·have HR:Hid (jamP n=true):=Lib.hid (by rw[jam_iff];simp;omega)
       go_enter Tryz.func76,Tryz.ntmps76
       go_wp2
       go_ret
       exact⟨by rw[HR.out];rfl,Below.refl _ _⟩
      ·have HR:Hid (jamP n=false):=Lib.hid (by rw[jam_iff];simp;omega)
       go_enter Tryz.func76,Tryz.ntmps76
       go_wp2
       go_ret
       exact⟨by rw[HR.out];rfl,Below.refl _ _⟩
     ·have HR:Hid (jamP n=false):=Lib.hid (by rw[jam_iff];simp;omega)
      go_enter Tryz.func76,Tryz.ntmps76
      go_wp2
      go_ret
      exact⟨by rw[HR.out];rfl,Below.refl _ _⟩
   ·by_cases h8:4520≤n
    ·by_cases h10:n≤4546
     ·have HR:Hid (jamP n=true):=Lib.hid (by rw[jam_iff];simp;omega)
      go_enter Tryz.func76,Tryz.ntmps76
      go_wp2
      go_ret
      exact⟨by rw[HR.out];rfl,Below.refl _ _⟩
     ·have HR:Hid (jamP n=false):=Lib.hid (by rw[jam_iff];simp;omega)
      go_enter Tryz.func76,Tryz.ntmps76
      go_wp2
      go_ret
      exact⟨by rw[HR.out];rfl,Below.refl _ _⟩
    ·have HR:Hid (jamP n=false):=Lib.hid (by rw[jam_iff];simp;omega)
     go_enter Tryz.func76,Tryz.ntmps76
     go_wp2
     go_ret
     exact⟨by rw[HR.out];rfl,Below.refl _ _⟩
 ·by_cases h4:4449≤n
  ·by_cases h6:n≤4469
   ·have HR:Hid (jamP n=true):=Lib.hid (by rw[jam_iff];simp;omega)
    go_enter Tryz.func76,Tryz.ntmps76
    go_wp2
    go_ret
    exact⟨by rw[HR.out];rfl,Below.refl _ _⟩
   ·by_cases h8:4520≤n
    ·by_cases h10:n≤4546
     ·have HR:Hid (jamP n=true):=Lib.hid (by rw[jam_iff];simp;omega)
      go_enter Tryz.func76,Tryz.ntmps76
      go_wp2
      go_ret
      exact⟨by rw[HR.out];rfl,Below.refl _ _⟩
     ·have HR:Hid (jamP n=false):=Lib.hid (by rw[jam_iff];simp;omega)
      go_enter Tryz.func76,Tryz.ntmps76
      go_wp2
      go_ret
      exact⟨by rw[HR.out];rfl,Below.refl _ _⟩
    ·have HR:Hid (jamP n=false):=Lib.hid (by rw[jam_iff];simp;omega)
     go_enter Tryz.func76,Tryz.ntmps76
     go_wp2
     go_ret
     exact⟨by rw[HR.out];rfl,Below.refl _ _⟩
  ·by_cases h6:4520≤n
   ·by_cases h8:n≤4546
    ·have HR:Hid (jamP n=true):=Lib.hid (by rw[jam_iff];simp;omega)
     go_enter Tryz.func76,Tryz.ntmps76
     go_wp2
     go_ret
     exact⟨by rw[HR.out];rfl,Below.refl _ _⟩
    ·have HR:Hid (jamP n=false):=Lib.hid (by rw[jam_iff];simp;omega)
     go_enter Tryz.func76,Tryz.ntmps76
     go_wp2
     go_ret
     exact⟨by rw[HR.out];rfl,Below.refl _ _⟩
   ·have HR:Hid (jamP n=false):=Lib.hid (by rw[jam_iff];simp;omega)
    go_enter Tryz.func76,Tryz.ntmps76
    go_wp2
    go_ret
    exact⟨by rw[HR.out];rfl,Below.refl _ _⟩
end Go.Proofs.YtgpbaeehajkebaaGreatDoor
namespace Go.Proofs.YtgpbaeehajkebaaGreatDoor
open Go Go.RowKit Go.Kt Go.Kt.Rg Go.Maps
def RfW (w:World) (v:Value) (l:List (Nat × Nat × Int)):Prop :=
 ∃ao cp,v = .slice ao l.length cp∧(l=[]∨∃g,ao=some ⟨g,0,none⟩∧∀(i:Nat) (r:Nat × Nat × Int),l[i]? = some r→w.cell? ⟨g,i*3,none⟩=some (.int .i64 r.1)∧w.cell? ⟨g,i*3+1,none⟩=some (.int .i64 r.2.1)∧w.cell? ⟨g,i*3+2,none⟩=some (.int .i64 r.2.2))
theorem RfW.below {v:Value} {l:List (Nat × Nat × Int)} {A B:World} (h:RfW A v l) (hb:Below A.heap.size A B):RfW B v l:=by
 obtain⟨ao,cp,rfl,h⟩:=h
 refine⟨ao,cp,rfl,?_⟩
 rcases h with h|⟨g,e,h⟩
 ·exact .inl h
 ·exact .inr ⟨g,e,fun i r hr=>⟨(hb.cell (lt_of_cell (h i r hr).1)).trans (h i r hr).1,(hb.cell (lt_of_cell (h i r hr).2.1)).trans (h i r hr).2.1,(hb.cell (lt_of_cell (h i r hr).2.2)).trans (h i r hr).2.2⟩⟩
def lastZ:List (Nat × Nat × Int)→Int→Option Int
 | [],_=>none
 | x::t,e=>match lastZ t e with
   | some v=>some v
   | none=>if (x.1:Int)≤e∧e≤(x.2.1:Int) then some x.2.2 else none
theorem lastZ_nat (l:List (Nat × Nat × Int)) (n:Nat):lastZ l (n:Int)=lastV l n:=by
 induction l with
 | nil=>rfl
 | cons x t ih =>
   rw[lastZ,lastV,ih]
   cases lastV t n with
   | some v=>rfl
   | none =>
     simp only
     by_cases h:holdsR x n
     ·rw[if_pos h,if_pos ⟨by have:=h.1;omega,by have:=h.2;omega⟩]
     ·rw[if_neg h,if_neg (fun q=>h ⟨by have:=q.1;omega,by have:=q.2;omega⟩)]
theorem lastZ_snoc (l:List (Nat × Nat × Int)) (x:Nat × Nat × Int) (e:Int):lastZ (l++[x]) e=if (x.1:Int)≤e∧e≤(x.2.1:Int) then some x.2.2 else lastZ l e:=by
 induction l with
 | nil=>rfl
 | cons y t ih =>
   rw[List.cons_append,lastZ,ih,lastZ]
   by_cases h:(x.1:Int)≤e∧e≤(x.2.1:Int)
   ·rw[if_pos h,if_pos h]
   ·rw[if_neg h,if_neg h]
theorem take_snoc {l:List (Nat × Nat × Int)} {k:Nat} {x:Nat × Nat × Int} (h:l[k]? = some x):l.take (k+1)=l.take k++[x]:=by
 rw[List.take_add_one,h];rfl
set_option maxRecDepth 100000 in
set_option maxHeartbeats 4000000 in
theorem ysaid (l:List (Nat × Nat × Int)) (sv:Value) (r d:Int) (w:World) (hS:RfW w sv l) (hr:I32 r) (hn:l.length≤1000000) :
 Calls Tryz.prog 114 #[sv,.int .i32 r,.int .i64 d] w fun e w'=>e = .returned (.int .i64 ((lastZ l r).getD d))∧Below w.heap.size w w':=by
 obtain⟨ao,cp,rfl,hc⟩:=hS
 obtain⟨n,hln⟩:∃n,l.length=n:=⟨_,rfl⟩
 rw[hln] at hn ⊢
 have hcv:IntKind.i64.wrap r=r:=IntWalk.i64_in _ (by have:=hr.1;have:=hr.2;omega)
 have HC:=Lib.hid (And.intro hc hln)
 clear hc hr hln
 have hk0:IntKind.i64.wrap ((n:Int)-1)=(n:Int)-1:=IntWalk.i64_in _ (by omega)
 go_enter Tryz.func114,Tryz.ntmps114
 go_wp2_with fail
 clear hk0
 go_loopw [7] (fun x wr=>∃k:Nat,x = .int .i64 ((k:Int)-1)∧k≤n∧Hid (lastZ l r=lastZ (l.take k) r∧Below w.heap.size w wr)) (fun x _=>(RowKit.intOf x+1).toNat)
 case atStart=>exact⟨n,rfl,Nat.le_refl _,Lib.hid ⟨by rw[List.take_of_length_le (by rw[HC.out.2];exact Nat.le_refl _)],Below.refl _ _⟩⟩
 case round =>
  obtain⟨k,rfl,hk,H⟩:=hrel
  by_cases hk0:k=0
  ·subst hk0
   have e1:¬(0:Int)≤((0:Nat):Int)-1:=by omega
   have HZ:Hid (lastZ l r=none):=Lib.hid (by rw[H.out.1];rfl)
   go_wp2
   go_ret
   exact⟨by rw[HZ.out];rfl,H.out.2⟩
  ·obtain⟨j,rfl⟩:∃j,k=j+1:=⟨k-1,by omega⟩
   have e0:((j+1:Nat):Int)-1=(j:Int):=by omega
   rw[e0]
   obtain⟨⟨x1,x2,xv⟩,hx⟩:∃x,l[j]? = some x:=⟨_,List.getElem?_eq_getElem (by rw[HC.out.2];omega)⟩
   obtain⟨g,rfl,hcell⟩:∃g,ao=some ⟨g,0,none⟩∧∀(i:Nat) (r:Nat × Nat × Int),l[i]? = some r→w.cell? ⟨g,i*3,none⟩=some (.int .i64 r.1)∧w.cell? ⟨g,i*3+1,none⟩=some (.int .i64 r.2.1)∧w.cell? ⟨g,i*3+2,none⟩=some (.int .i64 r.2.2):=by
    rcases HC.out.1 with h|h
    ·rw[h] at hx;cases hx
    ·exact h
   obtain⟨c0,c1,c2⟩:=hcell j _ hx
   have d0:=(H.out.2.cell (lt_of_cell c0)).trans c0
   have d1:=(H.out.2.cell (lt_of_cell c1)).trans c1
   have d2:=(H.out.2.cell (lt_of_cell c2)).trans c2
   have hst:=H.out.1
   rw[take_snoc hx,lastZ_snoc] at hst
   simp only at hst d0 d1 d2
   have hjn:(j:Int)<n:=by omega
   have hj0:(0:Int)≤(j:Int):=by omega
   have hw1:IntKind.i64.wrap ((j:Int)-1)=(j:Int)-1:=IntWalk.i64_in _ (by omega)
   have HB:=Lib.hid H.out.2
   clear hcell c0 c1 c2 hx H
   by_cases h1:(x1:Int)≤r
   ·by_cases h2:r≤(x2:Int)
    ·rw[if_pos ⟨h1,h2⟩] at hst
     have HST:=Lib.hid hst
     clear hst
     go_wp2
     go_ret
     exact⟨by rw[HST.out];rfl,HB.out⟩
    ·rw[if_neg (fun h=>h2 h.2)] at hst
     have HST:=Lib.hid hst
     clear hst
     go_wp2
     go_roundw
     case rel=>exact⟨j,rfl,by omega,Lib.hid ⟨HST.out,HB.out⟩⟩
     case measure=>simp[RowKit.intOf]
   ·rw[if_neg (fun h=>h1 h.1)] at hst
    have HST:=Lib.hid hst
    clear hst
    go_wp2
    go_roundw
    case rel=>exact⟨j,rfl,by omega,Lib.hid ⟨HST.out,HB.out⟩⟩
    case measure=>simp[RowKit.intOf]
end Go.Proofs.YtgpbaeehajkebaaGreatDoor
namespace Go.Proofs.YtgpbaeehajkebaaGreatDoor
open Go Go.RowKit Go.Kt Go.Kt.Rg Go.Maps
theorem dig16 (b:UInt8):digB 16 b=match digV b.toNat with
 | some d=>if 16≤d then none else some d
 | none=>none:=by
 unfold digB
 cases digV b.toNat with
 | none=>rfl
 | some d =>
   simp only
   by_cases h:d<16
   ·rw[if_pos h,if_neg (by omega)]
   ·rw[if_neg h,if_pos (by omega)]
theorem numF_pu:∀(l:List UInt8) (k n:Nat),k+l.length≤6→n<16 ^ k→numF 16 n l=puF 16777215 n l:=by
 intro l
 induction l with
 | nil=>intro k n _ _;rw[numF,puF]
 | cons b t ih =>
   intro k n hk hn
   rw[numF,puF,dig16]
   cases digV b.toNat with
   | none=>rfl
   | some d =>
     simp only
     by_cases h:16≤d
     ·rw[if_pos h,if_pos h]
     ·rw[if_neg h,if_neg h]
      simp only[List.length_cons] at hk
      have h1:16*n+d<16 ^ (k+1):=by rw[Nat.pow_succ];omega
      have h2:16 ^ (k+1)≤16 ^ 6:=Nat.pow_le_pow_right (by decide) (by omega)
      have h3:(16:Nat) ^ 6=16777216:=by decide
      rw[if_neg (by omega),Nat.mul_comm n 16]
      exact ih (k+1) _ (by omega) h1
theorem numG_P (l:List UInt8):numG 16 4 6 l=match numP l with
 | some n=>(n:Int)
 | none=>-1:=by
 unfold numG numP
 by_cases h:l.length<4∨6<l.length
 ·rw[if_pos h,if_neg (by omega)]
 ·rw[if_neg h,if_pos (by omega)]
  unfold puV
  rw[if_neg (fun e=>by subst e;simp at h),numF_pu l 0 0 (by omega) (by decide)]
  first|done|rfl
set_option maxRecDepth 100000 in
theorem ychar (n:Int) (w:World):Calls Tryz.prog 110 #[.int .i64 n] w fun e w'=>e = .returned (.bool (Lib.validRune n))∧Below w.heap.size w w':=by
 by_cases h0:0≤n
 ·by_cases h1:n≤1114111
  ·by_cases h2:n<55296
   ·have HR:Hid (Lib.validRune n=true):=Lib.hid (by simp[Lib.validRune];omega)
    go_enter Tryz.func110,Tryz.ntmps110
    go_wp2
    go_ret
    exact⟨by rw[HR.out];rfl,Below.refl _ _⟩
   ·by_cases h3:57343<n
    ·have HR:Hid (Lib.validRune n=true):=Lib.hid (by simp[Lib.validRune];omega)
     go_enter Tryz.func110,Tryz.ntmps110
     go_wp2
     go_ret
     exact⟨by rw[HR.out];rfl,Below.refl _ _⟩
    ·have HR:Hid (Lib.validRune n=false):=Lib.hid (by simp[Lib.validRune];omega)
     go_enter Tryz.func110,Tryz.ntmps110
     go_wp2
     go_ret
     exact⟨by rw[HR.out];rfl,Below.refl _ _⟩
  ·have HR:Hid (Lib.validRune n=false):=Lib.hid (by simp[Lib.validRune];omega)
   go_enter Tryz.func110,Tryz.ntmps110
   go_wp2
   go_ret
   exact⟨by rw[HR.out];rfl,Below.refl _ _⟩
 ·have HR:Hid (Lib.validRune n=false):=Lib.hid (by simp[Lib.validRune];omega)
  go_enter Tryz.func110,Tryz.ntmps110
  go_wp2
  go_ret
  exact⟨by rw[HR.out];rfl,Below.refl _ _⟩
def pntP (l:List UInt8):Int × Nat:=match numP l with
 | some n=>if Lib.validRune (n:Int)=false then (0,8) else (n,0)
 | none=>(0,11)
set_option maxRecDepth 100000 in
theorem ypoint (s:ByteArray) (w:World) (hs:s.size≤140737488351232):Calls Tryz.prog 73 #[.string s] w fun e w'=>e = .returned (.tuple #[.int .i64 (pntP s.data.toList).1,.int .i64 ((pntP s.data.toList).2:Nat)])∧Below w.heap.size w w':=by
 have CN:=Lib.hid (ynumber s 16 4 6 w hs (.inl ⟨rfl,rfl,rfl⟩))
 rw[numG_P] at CN
 have CC:=Lib.hid (fun n W=>ychar n W)
 obtain⟨l,hl⟩:∃l,s.data.toList=l:=⟨_,rfl⟩
 rw[hl] at CN ⊢
 cases hn:numP l with
 | none =>
   have HR:Hid (pntP l=(0,11)):=Lib.hid (by unfold pntP;rw[hn])
   rw[hn] at CN
   simp only at CN
   clear hn hs hl
   go_enter Tryz.func73,Tryz.ntmps73
   go_wp2_with fail
   refine CN.out.mono ?_
   rintro e w1 ⟨rfl,hb1⟩
   go_wp2
   go_ret2
   exact⟨by rw[HR.out];rfl,hb1⟩
 | some n =>
   rw[hn] at CN
   simp only at CN
   have hneg:¬(n:Int)<0:=by omega
   cases hv:Lib.validRune (n:Int) with
   | false =>
     have HR:Hid (pntP l=(0,8)):=Lib.hid (by unfold pntP;rw[hn];simp only;rw[if_pos hv])
     have CC:=Lib.hid (fun W=>hv▸CC.out (n:Int) W)
     clear hn hs hl hv
     go_enter Tryz.func73,Tryz.ntmps73
     go_wp2_with fail
     refine CN.out.mono ?_
     rintro e w1 ⟨rfl,hb1⟩
     have HB:=Lib.hid hb1
     clear hb1
     go_wp2_with fail
     refine (CC.out _).mono ?_
     rintro e w2 ⟨rfl,hb2⟩
     have HB2:=Lib.hid (HB.out.trans (hb2.mono HB.out.size))
     clear hb2
     go_wp2
     go_ret2
     exact⟨by rw[HR.out];rfl,HB2.out⟩
   | true =>
     have HR:Hid (pntP l=((n:Int),0)):=Lib.hid (by unfold pntP;rw[hn];simp only;rw[if_neg (by rw[hv];decide)])
     have CC:=Lib.hid (fun W=>hv▸CC.out (n:Int) W)
     clear hn hs hl hv
     go_enter Tryz.func73,Tryz.ntmps73
     go_wp2_with fail
     refine CN.out.mono ?_
     rintro e w1 ⟨rfl,hb1⟩
     have HB:=Lib.hid hb1
     clear hb1
     go_wp2_with fail
     refine (CC.out _).mono ?_
     rintro e w2 ⟨rfl,hb2⟩
     have HB2:=Lib.hid (HB.out.trans (hb2.mono HB.out.size))
     clear hb2
     go_wp2
     go_ret2
     exact⟨by rw[HR.out];rfl,HB2.out⟩
end Go.Proofs.YtgpbaeehajkebaaGreatDoor
namespace Go.Proofs.YtgpbaeehajkebaaGreatDoor
open Go Go.RowKit Go.Kt Go.Kt.Rg Go.Maps
def RpW (g:Nat) (cs ks:List (Nat × Nat × Int)) (fv dv:Value) (w:World):Prop :=
 ∃cv kv,w.heap[g]? = some (.cells #[cv,kv,fv,dv] 85 (0,0))∧RfW w cv cs∧RfW w kv ks
theorem RpW.below {g:Nat} {cs ks:List (Nat × Nat × Int)} {fv dv:Value} {A B:World} (h:RpW g cs ks fv dv A) (hb:Below A.heap.size A B):RpW g cs ks fv dv B:=by
 obtain⟨cv,kv,h1,h2,h3⟩:=h
 exact⟨cv,kv,(hb.block g (Array.getElem?_eq_some_iff.1 h1).1).trans h1,h2.below hb,h3.below hb⟩
def xclsV (cs:List (Nat × Nat × Int)) (r:Int):Int:=if Lib.validRune r=false∨sylP r=true∨jamP r=true then 0 else (lastZ cs r).getD 0
def xkndV (ks:List (Nat × Nat × Int)) (r:Int):Int:=if Lib.validRune r=false then 0 else if sylP r=true then (lastZ ks r).getD 1 else (lastZ ks r).getD 0
set_option maxRecDepth 100000 in
set_option maxHeartbeats 2000000 in
theorem yclass {g:Nat} {cs ks:List (Nat × Nat × Int)} {fv dv:Value} (r:Int) (w:World) (hR:RpW g cs ks fv dv w) (hr:I32 r) (hn:cs.length≤1000000∧ks.length≤1000000) :
 Calls Tryz.prog 81 #[.pointer (some ⟨g,0,none⟩),.int .i32 r] w fun e w'=>e = .returned (.int .i64 (xclsV cs r))∧Below w.heap.size w w':=by
 obtain⟨cv,kv,hg,h1,h2⟩:=hR
 have hcv:IntKind.i64.wrap r=r:=IntWalk.i64_in _ (by have:=hr.1;have:=hr.2;omega)
 have CC:=Lib.hid (fun W=>ychar r W)
 have CS:=Lib.hid (fun W=>ysyl r W)
 have CJ:=Lib.hid (fun W=>yjam r W)
 have HG:=Lib.hid (fun W (h:Below w.heap.size w W)=>(h.block g (Array.getElem?_eq_some_iff.1 hg).1).trans hg)
 have HR:=Lib.hid (And.intro h1 (And.intro h2 (And.intro hr hn)))
 clear hg h1 h2 hr hn
 go_enter Tryz.func81,Tryz.ntmps81
 go_wp2_with fail
 refine (CC.out w).mono ?_
 rintro e w1 ⟨rfl,hb⟩
 have HB1:=Lib.hid hb
 clear hb
 cases v1:Lib.validRune r with
 | false =>
   have HX:Hid (xclsV cs r=0):=Lib.hid (by unfold xclsV;rw[if_pos (.inl v1)])
   clear v1
   go_wp2
   go_ret
   exact⟨by rw[HX.out];rfl,HB1.out⟩
 | true =>
   go_wp2_with fail
   refine (CS.out w1).mono ?_
   rintro e w2 ⟨rfl,hb⟩
   have HB2:=Lib.hid (HB1.out.trans (hb.mono HB1.out.size))
   clear hb
   cases v2:sylP r with
   | true =>
     have HX:Hid (xclsV cs r=0):=Lib.hid (by unfold xclsV;rw[if_pos (.inr (.inl v2))])
     clear v1 v2
     go_wp2
     go_ret
     exact⟨by rw[HX.out];rfl,HB2.out⟩
   | false =>
     go_wp2_with fail
     refine (CJ.out w2).mono ?_
     rintro e w3 ⟨rfl,hb⟩
     have HB3:=Lib.hid (HB2.out.trans (hb.mono HB2.out.size))
     clear hb
     cases v3:jamP r with
     | true =>
       have HX:Hid (xclsV cs r=0):=Lib.hid (by unfold xclsV;rw[if_pos (.inr (.inr v3))])
       clear v1 v2 v3
       go_wp2
       go_ret
       exact⟨by rw[HX.out];rfl,HB3.out⟩
     | false =>
       have HX:Hid (xclsV cs r=(lastZ cs r).getD 0):=Lib.hid (by unfold xclsV;rw[if_neg (by rw[v1,v2,v3];simp)])
       clear v1 v2 v3
       have c0:w3.cell? ⟨g,0,none⟩=some cv:=by rw[Lib.cell_of_heap (HG.out w3 HB3.out)];rfl
       have CA:=Lib.hid (ysaid cs cv r 0 w3 (HR.out.1.below HB3.out) HR.out.2.2.1 HR.out.2.2.2.1)
       go_wp2_with fail
       refine CA.out.mono ?_
       rintro e w9 ⟨rfl,hb9⟩
       have HB9:=Lib.hid (HB3.out.trans (hb9.mono HB3.out.size))
       clear hb9
       go_wp2
       go_ret
       exact⟨by rw[HX.out];rfl,HB9.out⟩
set_option maxRecDepth 100000 in
set_option maxHeartbeats 2000000 in
theorem ykindX {g:Nat} {cs ks:List (Nat × Nat × Int)} {fv dv:Value} (r:Int) (w:World) (hR:RpW g cs ks fv dv w) (hr:I32 r) (hn:cs.length≤1000000∧ks.length≤1000000) :
 Calls Tryz.prog 80 #[.pointer (some ⟨g,0,none⟩),.int .i32 r] w fun e w'=>e = .returned (.int .i64 (xkndV ks r))∧Below w.heap.size w w':=by
 obtain⟨cv,kv,hg,h1,h2⟩:=hR
 have hcv:IntKind.i64.wrap r=r:=IntWalk.i64_in _ (by have:=hr.1;have:=hr.2;omega)
 have CC:=Lib.hid (fun W=>ychar r W)
 have CS:=Lib.hid (fun W=>ysyl r W)
 have CJ:=Lib.hid (fun W=>yjam r W)
 have HG:=Lib.hid (fun W (h:Below w.heap.size w W)=>(h.block g (Array.getElem?_eq_some_iff.1 hg).1).trans hg)
 have HR:=Lib.hid (And.intro h1 (And.intro h2 (And.intro hr hn)))
 clear hg h1 h2 hr hn
 go_enter Tryz.func80,Tryz.ntmps80
 go_wp2_with fail
 refine (CC.out w).mono ?_
 rintro e w1 ⟨rfl,hb⟩
 have HB1:=Lib.hid hb
 clear hb
 cases v1:Lib.validRune r with
 | false =>
   have HX:Hid (xkndV ks r=0):=Lib.hid (by unfold xkndV;rw[if_pos v1])
   clear v1
   go_wp2
   go_ret
   exact⟨by rw[HX.out];rfl,HB1.out⟩
 | true =>
   go_wp2_with fail
   refine (CS.out w1).mono ?_
   rintro e w2 ⟨rfl,hb⟩
   have HB2:=Lib.hid (HB1.out.trans (hb.mono HB1.out.size))
   clear hb
   cases v2:sylP r with
   | true =>
     have HX:Hid (xkndV ks r=(lastZ ks r).getD 1):=Lib.hid (by unfold xkndV;rw[if_neg (by rw[v1];decide),if_pos v2])
     clear v1 v2
     have c0:w2.cell? ⟨g,1,none⟩=some kv:=by rw[Lib.cell_of_heap (HG.out w2 HB2.out)];rfl
     have CA:=Lib.hid (ysaid ks kv r 1 w2 (HR.out.2.1.below HB2.out) HR.out.2.2.1 HR.out.2.2.2.2)
     go_wp2_with fail
     refine CA.out.mono ?_
     rintro e w9 ⟨rfl,hb9⟩
     have HB9:=Lib.hid (HB2.out.trans (hb9.mono HB2.out.size))
     clear hb9
     go_wp2
     go_ret
     exact⟨by rw[HX.out];rfl,HB9.out⟩
   | false =>
     have HX:Hid (xkndV ks r=(lastZ ks r).getD 0):=Lib.hid (by unfold xkndV;rw[if_neg (by rw[v1];decide),if_neg (by rw[v2];decide)])
     clear v1 v2
     have c0:w2.cell? ⟨g,1,none⟩=some kv:=by rw[Lib.cell_of_heap (HG.out w2 HB2.out)];rfl
     have CA:=Lib.hid (ysaid ks kv r 0 w2 (HR.out.2.1.below HB2.out) HR.out.2.2.1 HR.out.2.2.2.2)
     go_wp2_with fail
     refine CA.out.mono ?_
     rintro e w9 ⟨rfl,hb9⟩
     have HB9:=Lib.hid (HB2.out.trans (hb9.mono HB2.out.size))
     clear hb9
     go_wp2
     go_ret
     exact⟨by rw[HX.out];rfl,HB9.out⟩
end Go.Proofs.YtgpbaeehajkebaaGreatDoor
namespace Go.Proofs.YtgpbaeehajkebaaGreatDoor
open Go Go.RowKit Go.Kt Go.Kt.Rg Go.Maps
def toZ (l:List Nat):List Int:=l.map fun x:Nat=>(x:Int)
theorem toZ_len (l:List Nat):(toZ l).length=l.length:=by simp[toZ]
def encZ (l:List Int):List Value:=l.map fun x=>.int .i32 x
def NewZ (H:Nat) (l:List Int) (e:Ending) (w':World):Prop :=
 ∃ao cp,e = .returned (.slice ao l.length cp)∧OwnS (fun b=>H≤b) 21 1 (.slice ao l.length cp) l.length (encZ l) w'
def dcpV (S:RdS) (r:Int):List Nat:=if sylP r then partsP (r-44032).toNat else (atZ S.ds r).getD []
def fldV (S:RdS) (r:Int):List Int:=match atZ S.fs r with
 | some l=>toZ l
 | none=>[r]
set_option maxRecDepth 100000 in
theorem DecM.look1 {ρ:Nat→Nat} {k B n:Nat} {d:Nat→Option (List Nat)} {w:World} (h:DecM ρ k B n d w) {r:Int} (hr:I32 r) :
 ∃v,(Instr.lookup 70 (.map (some B)) (.int .i32 r) false).run Tryz.prog w = .ok v w∧(Instr.lookup 70 (.map (some B)) (.int .i32 r) true).run Tryz.prog w = .ok (.tuple #[v,.bool (atZ d r).isSome]) w ∧
  ((atZ d r=none∧v = .slice none 0 0)∨∃l,atZ d r=some l∧PtV ρ v l w):=by
 obtain⟨_,vs,h1,h2,h3⟩:=h
 have hkey:keyOf Tryz.prog 21 (.int .i32 r)=some (.int .i32 r):=keyOf_int_mk Tryz.underlying21 hr.wf
 have hl1:=h1.look1 (int_keyed Tryz.underlying21) Tryz.underlying70 (z:=.slice none 0 0) rfl hkey
 have hl2:=h1.look (int_keyed Tryz.underlying21) Tryz.underlying70 (z:=.slice none 0 0) rfl hkey
 rw[ptF_atZ] at hl1 hl2
 have hs:(atZ vs r).isSome=(atZ d r).isSome:=by
  unfold atZ
  split
  ·exact h2 _
  ·rfl
 rw[hs] at hl2
 refine⟨_,hl1,hl2,?_⟩
 cases hv:atZ vs r with
 | none =>
   rw[hv] at hs
   refine .inl ⟨?_,rfl⟩
   cases hd:atZ d r with
   | none=>rfl
   | some l=>rw[hd] at hs;cases hs
 | some v =>
   rw[hv] at hs
   cases hd:atZ d r with
   | none=>rw[hd] at hs;cases hs
   | some l =>
     refine .inr ⟨l,rfl,?_⟩
     unfold atZ at hv hd
     by_cases h0:0≤r
     ·rw[if_pos h0] at hv hd
      exact h3 _ _ _ hv hd
     ·rw[if_neg h0] at hv;cases hv
end Go.Proofs.YtgpbaeehajkebaaGreatDoor
namespace Go.Proofs.YtgpbaeehajkebaaGreatDoor
open Go Go.RowKit Go.Kt Go.Kt.Rg
def SlW (w:World) (v:Value) (l:List (Nat × Nat × Int)):Prop :=
 ∃ao cp,v = .slice ao l.length cp∧(l=[]∨∃g,ao=some ⟨g,0,none⟩∧∀(i:Nat) (r:Nat × Nat × Int),l[i]? = some r→w.cell? ⟨g,i*3,none⟩=some (.int .i32 r.1)∧w.cell? ⟨g,i*3+1,none⟩=some (.int .i32 r.2.1)∧w.cell? ⟨g,i*3+2,none⟩=some (.int .i64 r.2.2))
theorem SlW.below {v:Value} {l:List (Nat × Nat × Int)} {A B:World} (h:SlW A v l) (hb:Below A.heap.size A B):SlW B v l:=by
 obtain⟨ao,cp,rfl,h⟩:=h
 refine⟨ao,cp,rfl,?_⟩
 rcases h with h|⟨g,e,h⟩
 ·exact .inl h
 ·exact .inr ⟨g,e,fun i r hr=>⟨(hb.cell (lt_of_cell (h i r hr).1)).trans (h i r hr).1,(hb.cell (lt_of_cell (h i r hr).2.1)).trans (h i r hr).2.1,(hb.cell (lt_of_cell (h i r hr).2.2)).trans (h i r hr).2.2⟩⟩
theorem rwE_len (l:List (Nat × Nat × Int)):(rwE l).length=l.length*3:=by
 induction l with
 | nil=>rfl
 | cons x t ih=>simp[rwE] at ih ⊢;omega
theorem rwE_append (l m:List (Nat × Nat × Int)):rwE (l++m)=rwE l++rwE m:=by simp[rwE]
theorem rwE_get (l:List (Nat × Nat × Int)) (i:Nat) (x:Nat × Nat × Int) (h:l[i]? = some x):(rwE l)[i*3]? = some (.int .i32 x.1)∧(rwE l)[i*3+1]? = some (.int .i32 x.2.1)∧(rwE l)[i*3+2]? = some (.int .i64 x.2.2):=by
 induction l generalizing i with
 | nil=>cases h
 | cons y t ih =>
   have e:rwE (y::t)=[.int .i32 y.1,.int .i32 y.2.1,.int .i64 y.2.2]++rwE t:=by simp[rwE]
   cases i with
   | zero =>
     simp at h
     subst h
     rw[e]
     simp
   | succ i =>
     simp at h
     have h9:=ih i h
     rw[e,show (i+1)*3=i*3+3 by omega]
     refine⟨?_,?_,?_⟩
     ·rw[List.getElem?_append_right (by simp)]
      simpa using h9.1
     ·rw[List.getElem?_append_right (by simp)]
      rw[show i*3+3+1-[Value.int .i32 y.1,.int .i32 y.2.1,.int .i64 y.2.2].length=i*3+1 by simp]
      exact h9.2.1
     ·rw[List.getElem?_append_right (by simp)]
      rw[show i*3+3+2-[Value.int .i32 y.1,.int .i32 y.2.1,.int .i64 y.2.2].length=i*3+2 by simp]
      exact h9.2.2
theorem own_slw {Y:Nat→Prop} {v:Value} {l:List (Nat × Nat × Int)} {w:World} (h:OwnS Y 126 3 v l.length (rwE l) w):SlW w v l:=by
 rcases h.shape with ⟨hv,h0⟩|⟨gb,cap,hv,hg,hgl⟩
 ·exact⟨none,0,by rw[hv,h0],.inl (List.length_eq_zero_iff.1 h0)⟩
 ·refine⟨_,cap,hv,.inr ⟨gb,rfl,fun i r hr=>?_⟩⟩
  subst hv
  obtain⟨e1,e2,e3⟩:=rwE_get l i r hr
  exact⟨h.atN e1,h.atN e2,h.atN e3⟩
theorem SlW.rows {w:World} {v:Value} {l:List (Nat × Nat × Int)} (h:OwnS (fun _=>True) 126 3 v l.length (rwE l) w) (hne:l≠[]):RowsV v l w:=by
 rcases h.shape with ⟨_,h0⟩|⟨gb,cap,hv,hg,hgl⟩
 ·exact absurd (List.length_eq_zero_iff.1 h0) hne
 ·subst hv
  have hc:l.length≤cap:=by
   rcases h.1.2 with ⟨hv,_⟩|⟨g',cap',cur,hv,_,hgg,hnc,hcm,_⟩
   ·cases hv
   ·cases hv;exact hnc
  refine⟨gb,cap,rfl,hc,fun i r hr=>?_⟩
  obtain⟨e1,e2,e3⟩:=rwE_get l i r hr
  exact⟨h.atN e1,h.atN e2,h.atN e3⟩
theorem append_slw {B:Nat} {v x:Value} {l m:List (Nat × Nat × Int)} {W:World} (hown:OwnS (fun b=>B≤b) 126 3 v l.length (rwE l) W) (hBW:B≤W.heap.size) (hS:SlW W x m) (hn:l.length+m.length≤2199023255552) :
 ∃v' w',(∀ty,(Builtin.append_ #[69,69] ty #[v,x]).run Tryz.prog W = .ok v' w')∧OwnS (fun b=>B≤b) 126 3 v' (l++m).length (rwE (l++m)) w'∧Keep (fun b=>v.ownBlock=some b) W w':=by
 obtain⟨i,hi,hz,hs1,hb1⟩:=info_parts tinfoRow
 obtain⟨ao,cap,rfl,h⟩:=hS
 cases ao with
 | none =>
   have hm:m=[]:=by
    rcases h with h|⟨g,e,_⟩
    ·exact h
    ·cases e
   subst hm
   refine⟨v,W,fun ty=>append_no_more _ ty _ i 3 Tryz.underlying69 hi v _ _ hown.1 cap,?_,Keep.refl _ _⟩
   rw[List.append_nil];exact hown
 | some a =>
   have hcell:∀j u,(rwE m)[j]? = some u→W.cell? (a.add j)=some u:=by
    intro j u hj
    rcases h with h|⟨g,e,h⟩
    ·subst h;simp[rwE] at hj
    ·obtain rfl:=Option.some.inj e
     have hjl:j<m.length*3:=by rw[←rwE_len];exact (List.getElem?_eq_some_iff.1 hj).1
     obtain⟨y,hy⟩:∃y,m[j/3]? = some y:=⟨_,List.getElem?_eq_getElem (by omega)⟩
     have e:=rwE_get m _ y hy
     have c:=h _ y hy
     rw[Addr.add_lit,Nat.zero_add]
     rcases (by omega:j % 3=0∨j % 3=1∨j % 3=2) with k|k|k
     ·rw[show j/3*3=j by omega] at e c
      rw[e.1] at hj
      rw[c.1];exact hj
     ·rw[show j/3*3+1=j by omega] at e c
      rw[e.2.1] at hj
      rw[c.2.1];exact hj
     ·rw[show j/3*3+2=j by omega] at e c
      rw[e.2.2] at hj
      rw[c.2.2];exact hj
   have h1:∀u∈rwE m,u.oneCell'=true:=by
    intro u hu
    simp only[rwE,List.mem_flatMap] at hu
    obtain⟨y,_,hy⟩:=hu
    simp at hy
    rcases hy with rfl|rfl|rfl <;> rfl
   obtain⟨v',w',hrun,r1,r2,_⟩:=run_append_own (P:=Tryz.prog) W B 69 0 126 i _ 3 16 Tryz.underlying69 hi hz hs1 hb1 rfl (by omega) v l.length (rwE l) (own_to_base hown (fun _ h=>h)) a m.length cap (rwE m) (rwE_len m) hcell h1
    (by unfold maxLen;omega) (by omega) hBW
   refine⟨v',w',fun ty=>hrun,?_,keep_grown r2⟩
   rw[List.length_append,rwE_append]
   exact own_from_base r1
set_option maxRecDepth 100000 in
theorem pgrow_any (n:Nat) (w:World) (hn:n≤2199023255552) :
 Calls Tryz.prog 109 #[.slice none 0 0,.int .i64 n] w fun e w'=>∃v,e = .returned v∧OwnS (fun b=>w.heap.size≤b) 126 3 v 0 (rwE []) w'∧Below w.heap.size w w':=by
 obtain⟨i,hi,hz,hs1,hb1⟩:=info_parts tinfoRow
 by_cases h0:n=0
 ·subst h0
  go_enter Tryz.func109,Tryz.ntmps109
  go_wp2
  go_ret
  exact⟨_,rfl,own_nil _ _ _ _,Below.refl _ _⟩
 ·have hn0:0<(n:Int):=by omega
  have happ:=Lib.run_append_nil_zeros (P:=Tryz.prog) w 69 3 0 126 i _ .i64 .i64 Tryz.underlying69 Tryz.underlying3 hi hz n (by omega) (by rw[hs1];omega) (by omega) (by rw[hb1];omega)
  have hge:=grownCap_ge w n 0 126
  have hcm:grownCap w n 0 126≤maxLen:=grownCap_le_maxLen w n 0 126 (by unfold maxLen;omega)
  have hml:maxLen≤9223372036854775807:=by unfold maxLen;omega
  generalize grownCap w n 0 126=C at *
  have HR:Hid (∀ty,(Builtin.append_ #[69,3] ty #[.slice none 0 0,.int .i64 n]).run Tryz.prog w=_):=Lib.hid fun ty=>happ
  obtain⟨V,hV⟩:∃V,w.drew.alloc (.cells (Builtin.zeroCells (Value.agg #[.int .i32 0,.int .i32 0,.int .i64 0]).cells n++Builtin.zeroCells (Value.agg #[.int .i32 0,.int .i32 0,.int .i64 0]).cells (C-n)) 126)=V:=⟨_,rfl⟩
  rw[hV] at HR
  have ho:OwnS (fun b=>w.heap.size≤b) 126 3 (.slice (some ⟨w.heap.size,0,none⟩) 0 C) 0 (rwE []) V:=by
   refine⟨⟨rfl,.inr ⟨w.heap.size,C,_,rfl,Nat.zero_le _,by rw[←hV];exact heap_alloc_new w.drew _,Nat.zero_le _,hcm,?_,rfl⟩⟩,fun g hg=>by cases hg;exact Nat.le_refl _⟩
   rw[Array.size_append,size_zeroCells,size_zeroCells]
   show n*3+(C-n)*3=C*3
   omega
  have hb:Below w.heap.size w V:=by rw[←hV];exact (show Below w.heap.size w w.drew from below_drewN (Below.refl _ w) 1).alloc (Nat.le_refl _) _
  have HO:=Lib.hid (And.intro ho hb)
  have hC:(C:Int)≤9223372036854775807:=by omega
  clear happ hV ho hb hcm hml
  go_enter Tryz.func109,Tryz.ntmps109
  go_wp2_with (at_builtin;refine wpList_append_eq rfl rfl rfl rfl HR.out ?_)
  go_ret
  exact⟨_,rfl,HO.out.1,HO.out.2⟩
def catW (l1 l2 l3:List (Nat × Nat × Int)):Nat→List (Nat × Nat × Int)
 | 0=>[]
 | 1=>l1
 | 2=>l1++l2
 | _=>l1++l2++l3
set_option maxRecDepth 100000 in
set_option maxHeartbeats 2000000 in
theorem pconcat_any (l1 l2 l3:List (Nat × Nat × Int)) (v1 v2 v3:Value) (h:Nat) (w:World) (c1:w.cell? ⟨h,0,none⟩=some v1) (c2:w.cell? ⟨h,1,none⟩=some v2) (c3:w.cell? ⟨h,2,none⟩=some v3) (h1:SlW w v1 l1) (h2:SlW w v2 l2) (h3:SlW w v3 l3) (m1:l1.length≤1112192) (m2:l2.length≤1112192) (m3:l3.length≤1112192) :
 Calls Tryz.prog 67 #[.slice (some ⟨h,0,none⟩) 3 3] w fun e w'=>∃v,e = .returned v∧OwnS (fun b=>w.heap.size≤b) 126 3 v (l1++l2++l3).length (rwE (l1++l2++l3)) w'∧Below w.heap.size w w':=by
 have H1:=Lib.hid h1
 have H2:=Lib.hid h2
 have H3:=Lib.hid h3
 obtain⟨a1,cp1,rfl,_⟩:=h1
 obtain⟨a2,cp2,rfl,_⟩:=h2
 obtain⟨a3,cp3,rfl,_⟩:=h3
 obtain⟨n1,hn1⟩:∃n,l1.length=n:=⟨_,rfl⟩
 obtain⟨n2,hn2⟩:∃n,l2.length=n:=⟨_,rfl⟩
 obtain⟨n3,hn3⟩:∃n,l3.length=n:=⟨_,rfl⟩
 rw[hn1] at c1 m1 H1
 rw[hn2] at c2 m2 H2
 rw[hn3] at c3 m3 H3
 have HN:=Lib.hid (And.intro hn1 (And.intro hn2 hn3))
 have CG0:=pgrow_any (n1+n2+n3) w (by omega)
 rw[Int.natCast_add,Int.natCast_add] at CG0
 have CG:=Lib.hid CG0
 clear CG0
 have lh:=lt_of_cell c1
 clear hn1 hn2 hn3
 go_enter Tryz.func67,Tryz.ntmps67
 go_wp2
 go_loop [3,11] (fun a x=>∃k:Nat,x = .int .i64 k∧((k=0∧a = .int .i64 0)∨(k=1∧a = .int .i64 n1)∨(k=2∧a = .int .i64 ((n1:Int)+n2))∨(k=3∧a = .int .i64 ((n1:Int)+n2+n3)))) (fun _ x=>3-(RowKit.intOf x).toNat)
 case atStart=>exact⟨0,rfl,.inl ⟨rfl,rfl⟩⟩
 case round =>
  obtain⟨k,rfl,hk⟩:=hrel
  rcases hk with ⟨rfl,rfl⟩|⟨rfl,rfl⟩|⟨rfl,rfl⟩|⟨rfl,rfl⟩
  ·go_wp2
   go_round
   case rel=>exact⟨1,by go_num,.inr (.inl ⟨rfl,by go_num⟩)⟩
   case measure=>simp[RowKit.intOf]
  ·go_wp2
   go_round
   case rel=>exact⟨2,by go_num,.inr (.inr (.inl ⟨rfl,by go_num⟩))⟩
   case measure=>simp[RowKit.intOf]
  ·go_wp2
   go_round
   case rel=>exact⟨3,by go_num,.inr (.inr (.inr ⟨rfl,by go_num⟩))⟩
   case measure=>simp[RowKit.intOf]
  ·go_wp2_with fail
   refine CG.out.mono ?_
   rintro e w1 ⟨v0,rfl,ho,hb⟩
   have q1:=(hb.cell lh).trans c1
   have q2:=(hb.cell lh).trans c2
   have q3:=(hb.cell lh).trans c3
   have HO:=Lib.hid (And.intro ho hb)
   clear ho hb
   go_wp2_with fail
   go_loopw [6,27] (fun s x wr=>∃k:Nat,x = .int .i64 k∧k≤3∧OwnS (fun b=>w.heap.size≤b) 126 3 s (catW l1 l2 l3 k).length (rwE (catW l1 l2 l3 k)) wr∧Below w.heap.size w wr) (fun _ x _=>3-(RowKit.intOf x).toNat)
   case atStart=>exact⟨0,rfl,by omega,HO.out.1,HO.out.2⟩
   case round =>
    obtain⟨k,rfl,hk,ho2,hb2⟩:=hrel
    have HI:=Lib.hid (And.intro ho2 hb2)
    have z1:=(hb2.cell lh).trans c1
    have z2:=(hb2.cell lh).trans c2
    have z3:=(hb2.cell lh).trans c3
    clear ho2 hb2 q1 q2 q3
    rcases (by omega:k=0∨k=1∨k=2∨k=3) with rfl|rfl|rfl|rfl
    ·obtain⟨v',w',hrun,hown,hkp⟩:=append_slw HI.out.1 HI.out.2.size (H1.out.below HI.out.2) (by show 0+l1.length≤_;rw[HN.out.1];omega)
     have hbb:=HI.out.2.trans (hkp.below HI.out.2.size fun b h=>HI.out.1.2 b h)
     have HRun:=Lib.hid hrun
     have HG:=Lib.hid (And.intro hown hbb)
     clear hrun hown hkp hbb
     go_wp2_with (at_builtin;refine wpList_append_eq rfl rfl rfl rfl HRun.out ?_)
     go_roundw
     case rel=>exact⟨1,by go_num,by omega,HG.out.1,HG.out.2⟩
     case measure=>simp[RowKit.intOf]
    ·obtain⟨v',w',hrun,hown,hkp⟩:=append_slw HI.out.1 HI.out.2.size (H2.out.below HI.out.2) (by show l1.length+l2.length≤_;rw[HN.out.1,HN.out.2.1];omega)
     have hbb:=HI.out.2.trans (hkp.below HI.out.2.size fun b h=>HI.out.1.2 b h)
     have HRun:=Lib.hid hrun
     have HG:=Lib.hid (And.intro hown hbb)
     clear hrun hown hkp hbb
     go_wp2_with (at_builtin;refine wpList_append_eq rfl rfl rfl rfl HRun.out ?_)
     go_roundw
     case rel=>exact⟨2,by go_num,by omega,HG.out.1,HG.out.2⟩
     case measure=>simp[RowKit.intOf]
    ·obtain⟨v',w',hrun,hown,hkp⟩:=append_slw HI.out.1 HI.out.2.size (H3.out.below HI.out.2) (by show (l1++l2).length+l3.length≤_;rw[List.length_append,HN.out.1,HN.out.2.1,HN.out.2.2];omega)
     have hbb:=HI.out.2.trans (hkp.below HI.out.2.size fun b h=>HI.out.1.2 b h)
     have HRun:=Lib.hid hrun
     have HG:=Lib.hid (And.intro hown hbb)
     clear hrun hown hkp hbb
     go_wp2_with (at_builtin;refine wpList_append_eq rfl rfl rfl rfl HRun.out ?_)
     go_roundw
     case rel=>exact⟨3,by go_num,by omega,HG.out.1,HG.out.2⟩
     case measure=>simp[RowKit.intOf]
    ·go_wp2
     go_ret
     exact⟨_,rfl,HI.out.1,HI.out.2⟩
end Go.Proofs.YtgpbaeehajkebaaGreatDoor
namespace Go.Proofs.YtgpbaeehajkebaaGreatDoor
open Go Go.RowKit Go.Kt Go.Kt.Rg Go.Maps

theorem blk_no {n : Nat} (h : n ≠ 32 ∧ n ≠ 9) : blkP n = false := by
  unfold blkP
  rw [beq_eq_false_iff_ne.2 h.1, beq_eq_false_iff_ne.2 h.2]; rfl
theorem dec_blk (s : ByteArray) (p : Nat) (h : p < s.size) :
    (blkP (Utf8.decode s p).1 = true ∧ (Utf8.decode s p).2 = 1 ∧ blkP (s.get! p).toNat = true) ∨
    (blkP (Utf8.decode s p).1 = false ∧ 1 ≤ (Utf8.decode s p).2 ∧ p + (Utf8.decode s p).2 ≤ s.size ∧ ∀ j, j < (Utf8.decode s p).2 → blkP (s.get! (p + j)).toNat = false) := by
  rw [Lib.decode_at]
  obtain ⟨b0, h0⟩ : ∃ b, (s.get! p).toNat = b := ⟨_, rfl⟩
  obtain ⟨b1, h1⟩ : ∃ b, (s.get! (p + 1)).toNat = b := ⟨_, rfl⟩
  obtain ⟨b2, h2⟩ : ∃ b, (s.get! (p + 2)).toNat = b := ⟨_, rfl⟩
  obtain ⟨b3, h3⟩ : ∃ b, (s.get! (p + 3)).toNat = b := ⟨_, rfl⟩
  rw [h0, h1, h2, h3]
  unfold Lib.decodeN
  by_cases ha : b0 < 128
  · rw [if_pos ha]
    by_cases hb : blkP b0 = true
    · exact .inl ⟨hb, rfl, hb⟩
    · have hb2 : blkP b0 = false := by simpa using hb
      exact .inr ⟨hb2, Nat.le_refl _, by simp only; omega, fun j hj => by
        obtain rfl : j = 0 := by simp only at hj; omega
        rw [Nat.add_zero, h0]; exact hb2⟩
  · rw [if_neg ha]
    right
    repeat' split
    all_goals refine ⟨blk_no (by simp only; omega), by simp only; omega, by simp only; omega, fun j hj => ?_⟩
    all_goals simp only at hj
    all_goals (obtain rfl | rfl | rfl | rfl : j = 0 ∨ j = 1 ∨ j = 2 ∨ j = 3 := by omega)
    all_goals first
      | (exfalso; omega)
      | (rw [Nat.add_zero, h0]; exact blk_no (by omega))
      | (rw [h1]; exact blk_no (by omega))
      | (rw [h2]; exact blk_no (by omega))
      | (rw [h3]; exact blk_no (by omega))

def wordsB : List UInt8 → List UInt8 → List (List UInt8)
  | cur, [] => if cur = [] then [] else [cur]
  | cur, b :: t => if blkP b.toNat then (if cur = [] then wordsB [] t else cur :: wordsB [] t) else wordsB (cur ++ [b]) t
theorem wordsB_take : ∀ (k : Nat) (cur l : List UInt8), k ≤ l.length → (∀ j b, j < k → l[j]? = some b → blkP b.toNat = false) → wordsB cur l = wordsB (cur ++ l.take k) (l.drop k) := by
  intro k
  induction k with
  | zero => intro cur l _ _; simp
  | succ k ih =>
    intro cur l hk h
    cases l with
    | nil => simp at hk
    | cons b t =>
      have hb := h 0 b (by omega) rfl
      rw [wordsB, hb]
      simp only [Bool.false_eq_true, if_false]
      rw [ih (cur ++ [b]) t (by simpa using hk) (fun j c hj hc => h (j + 1) c (by omega) (by simpa using hc))]
      simp
theorem get_at (s : ByteArray) (i : Nat) (h : i < s.size) : s.data.toList[i]? = some (s.get! i) := by
  have hl : i < s.data.toList.length := by rw [← Lib.size_eq]; exact h
  rw [List.getElem?_eq_getElem hl]
  congr 1
  have e : s.get! i = s[i]'h := by
    simp [ByteArray.get!, getElem!_pos, h]
    rfl
  rw [e]
  simp
  rfl
theorem drop_at (s : ByteArray) (i : Nat) (h : i < s.size) : s.data.toList.drop i = s.get! i :: s.data.toList.drop (i + 1) := by
  have hl : i < s.data.toList.length := by rw [← Lib.size_eq]; exact h
  rw [List.drop_eq_getElem_cons hl]
  congr 1
  have := get_at s i h
  rw [List.getElem?_eq_getElem hl] at this
  exact Option.some.inj this
def curB (l : List UInt8) (p : Nat) : Option Nat → List UInt8
  | some a => (l.take p).drop a
  | none => []
theorem curB_ne (l : List UInt8) (p a : Nat) (h : a < p) (hp : p ≤ l.length) : curB l p (some a) ≠ [] := fun e => by
  have := congrArg List.length e
  simp [curB] at this
  omega
theorem curB_more (l : List UInt8) (p k : Nat) (o : Option Nat) (ha : ∀ a, o = some a → a ≤ p) (hp : p + k ≤ l.length) : curB l (p + k) (some (o.getD p)) = curB l p o ++ (l.drop p).take k := by
  cases o with
  | none =>
    show (l.take (p + k)).drop p = [] ++ _
    rw [List.nil_append, List.drop_take, Nat.add_sub_cancel_left]
  | some a =>
    have := ha a rfl
    show (l.take (p + k)).drop a = (l.take p).drop a ++ _
    rw [List.take_add, List.drop_append_of_le_length (by rw [List.length_take]; omega)]
theorem spans_words (s : ByteArray) : ∀ (f p : Nat) (st : Option Nat) (acc : List (Nat × Nat)), s.size ≤ p + f → p ≤ s.size → (∀ a, st = some a → a < p) →
    (Lib.closeSpans s (Lib.spansFromP blkP s f p st acc)).map (fun x => (s.data.toList.take x.2).drop x.1) = acc.map (fun x => (s.data.toList.take x.2).drop x.1) ++ wordsB (curB s.data.toList p st) (s.data.toList.drop p) := by
  have hln : s.data.toList.length = s.size := (Lib.size_eq s).symm
  have fin : ∀ (p : Nat) (st : Option Nat) (acc : List (Nat × Nat)), ¬ p < s.size → p ≤ s.size → (∀ a, st = some a → a < p) →
      (Lib.closeSpans s (acc, st)).map (fun x => (s.data.toList.take x.2).drop x.1) = acc.map (fun x => (s.data.toList.take x.2).drop x.1) ++ wordsB (curB s.data.toList p st) (s.data.toList.drop p) := by
    intro p st acc hp hps hst
    obtain rfl : p = s.size := by omega
    rw [List.drop_eq_nil_of_le (by omega), wordsB]
    cases st with
    | none => simp [Lib.closeSpans, curB]
    | some a =>
      rw [if_neg (curB_ne _ _ _ (hst a rfl) (by omega))]
      simp [Lib.closeSpans, curB]
  intro f
  induction f with
  | zero => intro p st acc h1 h2 h3; exact fin p st acc (by omega) h2 h3
  | succ f ih =>
    intro p st acc h1 h2 h3
    by_cases hp : p < s.size
    rotate_left
    · rw [Lib.spansFromP_end _ _ _ _ _ _ hp]
      exact fin p st acc hp h2 h3
    unfold Lib.spansFromP
    rw [if_pos hp]
    rcases dec_blk s p hp with ⟨d1, d2, d3⟩ | ⟨d1, d2, d3, d4⟩
    · rw [d1, d2, if_pos rfl, drop_at s p hp, wordsB, if_pos d3]
      cases st with
      | none => simp only; rw [ih _ _ _ (by omega) (by omega) (fun a h => by cases h)]; rfl
      | some a =>
        simp only
        rw [ih _ _ _ (by omega) (by omega) (fun a h => by cases h), if_neg (curB_ne _ _ _ (h3 a rfl) (by omega))]
        simp [curB]
    · rw [d1, if_neg (by decide)]
      have hw := wordsB_take (Utf8.decode s p).2 (curB s.data.toList p st) (s.data.toList.drop p) (by rw [List.length_drop]; omega) (fun j b hj hb => by
        rw [List.getElem?_drop, get_at s (p + j) (by omega)] at hb
        injection hb with hb
        rw [← hb]; exact d4 j hj)
      rw [hw, List.drop_drop, ← curB_more _ _ _ _ (fun a h => Nat.le_of_lt (h3 a h)) (by omega)]
      cases st with
      | none => exact ih _ _ _ (by omega) d3 (fun a h => by cases h; omega)
      | some a => exact ih _ _ _ (by omega) d3 (fun b h => by cases h; have := h3 a rfl; omega)
theorem wrdP_eq (l : List UInt8) : wrdP l = wordsB [] (lineP l) := by
  have h := spans_words ⟨(lineP l).toArray⟩ (⟨(lineP l).toArray⟩ : ByteArray).size 0 none [] (by omega) (by omega) (fun a h => by cases h)
  simp only [List.map_nil, List.nil_append, List.drop_zero] at h
  have e : curB (lineP l) 0 none = [] := rfl
  rw [e] at h
  rw [← h]
  unfold wrdP Lib.goFieldsP Lib.spansOfP
  rw [List.map_map]
  apply List.map_congr_left
  intro x _
  show (ByteArray.extract ⟨(lineP l).toArray⟩ x.1 x.2).data.toList = _
  have := Lib.extract_toList ⟨(lineP l).toArray⟩ x.1 x.2
  rw [ByteArray.toList_eq] at this
  rw [this, List.drop_take]

def wordsH : List UInt8 → List UInt8 → List (List UInt8)
  | cur, [] => if cur = [] then [] else [cur]
  | cur, b :: t => if b = 35 then (if cur = [] then [] else [cur]) else if blkP b.toNat then (if cur = [] then wordsH [] t else cur :: wordsH [] t) else wordsH (cur ++ [b]) t
theorem cut_one (l : List UInt8) (x : UInt8) : (Lib.cut l [x]).1 = l.takeWhile (· != x) := by
  induction l with
  | nil => simp [Lib.cut, Lib.index]
  | cons b t ih =>
    unfold Lib.cut at ih ⊢
    rw [Lib.index]
    by_cases hb : b = x
    · subst hb
      simp
    · have e1 : ([x] : List UInt8).isPrefixOf (b :: t) = false := by simp [List.isPrefixOf]; exact fun h => hb h.symm
      have e2 : (b != x) = true := by simpa using hb
      rw [e1, List.takeWhile_cons_of_pos (by simpa using hb)]
      have hge := Lib.index_ge t [x]
      by_cases hi : Lib.index t [x] = -1
      · rw [hi] at ih ⊢
        simp at ih ⊢
        exact ih
      · obtain ⟨n, hn⟩ : ∃ n : Nat, Lib.index t [x] = (n : Int) := ⟨(Lib.index t [x]).toNat, by omega⟩
        rw [hn] at ih ⊢
        have e3 : ((n : Int) == -1) = false := by simp
        simp only [e3, Bool.false_eq_true, if_false]
        rw [if_pos (by omega)] at ih ⊢
        rw [show ((n : Int) + 1).toNat = n + 1 by omega]
        simp at ih ⊢
        exact ih
theorem wordsH_cut (l : List UInt8) : ∀ cur, wordsB cur (l.takeWhile (· != 35)) = wordsH cur l := by
  induction l with
  | nil => intro cur; rfl
  | cons b t ih =>
    intro cur
    by_cases hb : b = 35
    · subst hb
      simp [wordsH, wordsB]
    · rw [List.takeWhile_cons_of_pos (by simpa using hb), wordsB, wordsH, if_neg hb, ih, ih]
theorem wrdP_H (l : List UInt8) : wrdP l = wordsH [] (Lib.trimSuffix (Lib.trimSuffix l [10]) [13]) := by
  rw [wrdP_eq, lineP, cut_one, wordsH_cut]
theorem trims_cons (b c : UInt8) (t : List UInt8) : Lib.trimSuffix (b :: t) [c] = if t = [] then (if b = c then [] else [b]) else b :: Lib.trimSuffix t [c] := by
  unfold Lib.trimSuffix Lib.hasSuffix
  cases t with
  | nil =>
    by_cases h : b = c
    · subst h; simp
    · have : ([c] : List UInt8).isSuffixOf [b] = false := by
        cases e : ([c] : List UInt8).isSuffixOf [b] with
        | false => rfl
        | true =>
          have := List.isSuffixOf_iff_suffix.1 e
          have := this.eq_of_length rfl
          injection this with this
          exact absurd this.symm h
      rw [this]; simp [h]
  | cons d u =>
    have : ([c] : List UInt8).isSuffixOf (b :: d :: u) = ([c] : List UInt8).isSuffixOf (d :: u) := by
      rw [Bool.eq_iff_iff, List.isSuffixOf_iff_suffix, List.isSuffixOf_iff_suffix, List.suffix_cons_iff]
      constructor
      · rintro (h | h)
        · simp at h
        · exact h
      · exact .inr
    rw [this, if_neg (List.cons_ne_nil d u)]
    by_cases h : ([c] : List UInt8).isSuffixOf (d :: u) = true
    · rw [if_pos h, if_pos h]; rfl
    · rw [if_neg h, if_neg h]
theorem trims_end (c : UInt8) (l : List UInt8) : Lib.trimSuffix (l ++ [c]) [c] = l := by
  induction l with
  | nil => rw [List.nil_append, trims_cons, if_pos rfl, if_pos rfl]
  | cons b t ih => rw [List.cons_append, trims_cons, if_neg (by simp), ih]
theorem trims_not (c : UInt8) (l : List UInt8) (h : l.getLast? ≠ some c) : Lib.trimSuffix l [c] = l := by
  induction l with
  | nil => rfl
  | cons b t ih =>
    rw [trims_cons]
    cases t with
    | nil => rw [if_pos rfl, if_neg (fun e => h (by rw [e]; rfl))]
    | cons d u => rw [if_neg (by simp), ih (by simpa using h)]
end Go.Proofs.YtgpbaeehajkebaaGreatDoor
namespace Go.Proofs.YtgpbaeehajkebaaGreatDoor
open Go Go.RowKit Go.Kt Go.Kt.Rg Go.Maps
/-! ### Lines of bytes -/
theorem ixb_some (c rest:List UInt8) (h:∀x∈c,x≠10):Lib.indexByte (c++10::rest) 10=(c.length:Int):=by
 induction c with
 | nil=>simp[Lib.indexByte]
 | cons b t ih =>
   have hb:=h b List.mem_cons_self
   have:=ih (fun x hx=>h x (List.mem_cons_of_mem _ hx))
   rw[List.cons_append,Lib.indexByte,if_neg (by simpa using hb),this,if_neg (by simp)]
   simp
theorem ixb_none (c:List UInt8) (h:∀x∈c,x≠10):Lib.indexByte c 10 = -1:=by
 induction c with
 | nil=>rfl
 | cons b t ih =>
   have hb:=h b List.mem_cons_self
   rw[Lib.indexByte,if_neg (by simpa using hb),ih (fun x hx=>h x (List.mem_cons_of_mem _ hx))]
   rfl
theorem lines_cons (c rest:List UInt8) (h:∀x∈c,x≠10):linesP (c++10::rest)=(c++[10])::linesP rest:=by
 rw[linesP_some (by simp) (ixb_some c rest h)]
 congr 1
 ·rw[List.take_append,List.take_of_length_le (by omega),Nat.add_sub_cancel_left];rfl
 ·rw[List.drop_append,List.drop_eq_nil_of_le (by omega),Nat.add_sub_cancel_left];rfl
theorem lines_one (c:List UInt8) (h:∀x∈c,x≠10):linesP c=if c=[] then [] else [c]:=by
 by_cases hc:c=[]
 ·subst hc;rfl
 ·rw[if_neg hc,linesP_none hc (ixb_none c h)]
theorem line_cut (l:List UInt8):(∀x∈l,x≠10)∨∃c rest,l=c++10::rest∧(∀x∈c,x≠10)∧rest.length<l.length:=by
 induction l with
 | nil=>exact .inl (fun x h=>by cases h)
 | cons b t ih =>
   by_cases hb:b=10
   ·subst hb
    exact .inr ⟨[],t,rfl,(fun x h=>by cases h),by simp⟩
   ·rcases ih with h|⟨c,rest,h1,h2,h3⟩
    ·exact .inl (fun x hx=>by
     rcases List.mem_cons.1 hx with rfl|hx
     ·exact hb
     ·exact h x hx)
    ·refine .inr ⟨b::c,rest,by rw[h1];rfl,fun x hx=>?_,by simp;omega⟩
     rcases List.mem_cons.1 hx with rfl|hx
     ·exact hb
     ·exact h2 x hx
def FW (l:List UInt8):List (List (List UInt8)):=((linesP l).map wrdP).filter (fun w=>!w.isEmpty)
def oneW (w:List (List UInt8)):List (List (List UInt8)):=if w=[] then [] else [w]
theorem trims10 (c:List UInt8) (h:∀x∈c,x≠10):Lib.trimSuffix c [10]=c:=trims_not 10 c (fun e=>h 10 (List.mem_of_getLast? e) rfl)
/-! ### What PropsPlain writes -/
def trB:Bool→List UInt8→List UInt8
 | _,[]=>[]
 | r,b::t=>if b=32∧r=false then 9::32::32::trB r t else b::trB (r||b==35) t
def endB:List UInt8:=[32,35,32,120,13,10,32,10]
def trG:Bool→List UInt8→List UInt8
 | _,[]=>[]
 | r,b::t=>if b=13∧(t=[]∨t.head? = some 10) then trG r t
  else if b=32∧r=false then 9::32::32::trG r t
  else if b=10 then endB++trG false t
  else b::trG (r||b==35) t
def oneF (cur:List UInt8):List (List UInt8):=if cur=[] then [] else [cur]
end Go.Proofs.YtgpbaeehajkebaaGreatDoor
