/- Parts of the proof of what the last text says. -/
import Derived.Test.YtgpbaeehajkebaaGreatDoorUcx
import Derived.Test.YtgpbaeehajkebaaGreatDoorGv13
import Derived.Test.YtgpbaeehajkebaaGreatDoorGv15
import Derived.DeepKeys4
import Derived.Test.YtgpbaeehajkebaaGreatDoorGv9
import Derived.Test.YtgpbaeehajkebaaGreatDoorIbx
import Derived.Laws.Rows
namespace Go.Proofs.YtgpbaeehajkebaaGreatDoor
open Go Go.RowKit Go.Kt Go.Kt.Rg Go.Maps
def clsV (S:RdS) (r:Int):Int:=if r<0 then 0 else (lastV (S.cs++hanR++noR) r.toNat).getD 0
def kndV (S:RdS) (r:Int):Int:=if r<0 then 0 else (lastV (sylR++S.ks++noR) r.toNat).getD 0
def atZ {A:Type} (f:Nat→Option A) (r:Int):Option A:=if 0≤r then f r.toNat else none
theorem atZ_nat {A:Type} (f:Nat→Option A) (r:Nat):atZ f (r:Int)=f r:=by unfold atZ;rw[if_pos (by omega),Int.toNat_natCast]
theorem ptF_atZ (vs:Nat→Option Value) (x:Int):ptF vs (.int .i32 x)=atZ vs x:=rfl
abbrev MdT:=Int→Int→Option Nat
def updP (md:MdT) (a b:Int) (x:Nat):MdT:=fun c d=>if c=a∧d=b then some x else md c d
def mdStep (S:RdS) (md:MdT) (x:Nat):MdT:=match S.ds x with
 | some [a,b]=>if clsV S a≠0 then md else if (md a b).isSome then md else updP md a b x
 | _=>md
def mdOf (S:RdS) (L:List Nat):MdT:=L.foldl (mdStep S) (fun _ _=>none)
def pkV (a b:Int):Value:=.agg #[.int .i32 a,.int .i32 b]
def pkL (a b:Int):Lit:=.string (keyBytes [.int .i32 a,.int .i32 b])
def I32 (a:Int):Prop:=-2147483648≤a∧a≤2147483647
theorem I32.wf {a:Int} (h:I32 a):(Lit.int .i32 a).wf=true:=WalkArith.wf_i32 (n:=a) ⟨h.1,by have:=h.2;omega⟩
set_option maxRecDepth 100000 in
theorem laidOutP:laidOutB Tryz.prog=true:=by kernel_rfl
theorem rowPk:(130:TypeId)<Tryz.prog.types.size:=of_decide_eq_true (by kernel_rfl)
set_option maxRecDepth 100000 in
theorem widePk:(match Tryz.prog.underlying 130 with|some (.array _ _)|some (.struct _)=>true|_=>false)=true:=by kernel_rfl
set_option maxRecDepth 100000 in
theorem pkK:Keyed Tryz.prog 130:=Keyed.of_law (deep_law_laid laidOutP (m:=2) (by omega) rowPk (by kernel_rfl) widePk)
theorem pk_key {a b:Int} (ha:I32 a) (hb:I32 b):keyOf Tryz.prog 130 (pkV a b)=some (pkL a b):=by
 have h1:Tryz.prog.keyType 130=true:=by kernel_rfl
 have hc:Tryz.prog.cellsOf 130=2:=by kernel_rfl
 have hc1:Tryz.prog.cellsOf 21=1:=by kernel_rfl
 have h2:(pkV a b).formed Tryz.prog 130=true:=by simp[pkV,Value.formed,Tryz.underlying130,hc]
 obtain⟨n,hn⟩:∃n,Tryz.prog.types.size=n+1:=⟨Tryz.prog.types.size-1,by have h9:0<Tryz.prog.types.size:=of_decide_eq_true (by kernel_rfl);omega⟩
 have h3:∀x:Int,I32 x→Tryz.prog.keyLits (n+1) 21 [.int .i32 x]=some [.int .i32 x]:=fun x hx=>by
  unfold Program.keyLits
  rw[Tryz.underlying21]
  simp[hx.wf]
 unfold keyOf
 rw[Tryz.underlying130]
 simp only[h1,h2,Bool.and_self,if_true]
 rw[hn]
 unfold Program.keyLits
 rw[Tryz.underlying130]
 simp[pkV,Value.cells,hc,hc1,h3 a ha,h3 b hb,pkL]
theorem pk_inj {a b c d:Int} (ha:I32 a) (hb:I32 b) (hc:I32 c) (hd:I32 d) (h:pkL a b=pkL c d):a=c∧b=d:=by
 have e:=pkK.inj (pk_key ha hb) (by rw[h];exact pk_key hc hd)
 simp[pkV] at e
 exact e
def MdM (b n:Nat) (md:MdT) (w:World):Prop:=∃f,MapG Tryz.prog 130 b n f w∧∀x y:Int,I32 x→I32 y→f (pkL x y)=(md x y).map fun z=>.int .i32 (z:Nat)
theorem MdM.keep {b n:Nat} {md:MdT} {X:Nat→Prop} {w w':World} (h:MdM b n md w) (hk:Keep X w w') (hX:¬X b):MdM b n md w':=by
 obtain⟨f,h1,h2⟩:=h
 exact⟨f,h1.keep hk hX,h2⟩
theorem MdM.mono {b n m:Nat} {md:MdT} {w:World} (h:MdM b n md w) (hn:n≤m):MdM b m md w:=by
 obtain⟨f,h1,h2⟩:=h
 exact⟨f,h1.mono hn,h2⟩
theorem MdM.lt {b n:Nat} {md:MdT} {w:World} (h:MdM b n md w):b<w.heap.size:=by
 obtain⟨f,h1,_⟩:=h
 exact h1.lt
set_option maxRecDepth 100000 in
theorem MdM.look {b n:Nat} {md:MdT} {w:World} (h:MdM b n md w) {x y:Int} (hx:I32 x) (hy:I32 y) :
 (Instr.lookup 116 (.map (some b)) (pkV x y) true).run Tryz.prog w = .ok (.tuple #[.int .i32 (((md x y).getD 0:Nat):Int),.bool (md x y).isSome]) w:=by
 obtain⟨f,h1,h2⟩:=h
 have hl:=h1.look pkK Tryz.underlying116 (z:=.int .i32 0) rfl (pk_key hx hy)
 rw[h2 x y hx hy] at hl
 rw[hl]
 cases md x y <;> rfl
theorem MdM.put {b n:Nat} {md:MdT} {w:World} (h:MdM b n md w) (hn:n<maxLen) {x y:Int} (hx:I32 x) (hy:I32 y) (z:Nat) :
 ∃w',(Instr.mapUpdate 116 (.map (some b)) (pkV x y) (.int .i32 (z:Nat))).run Tryz.prog w = .ok () w'∧MdM b (n+1) (updP md x y z) w'∧Keep (fun c=>c=b) w w':=by
 obtain⟨f,h1,h2⟩:=h
 obtain⟨w',r1,r2,r3⟩:=h1.put pkK Tryz.underlying116 hn (val:=.int .i32 (z:Nat)) (pk_key hx hy)
 refine⟨w',r1,⟨_,r2,fun c d hc hd=>?_⟩,r3⟩
 unfold updP
 by_cases e:c=x∧d=y
 ·obtain⟨rfl,rfl⟩:=e
  rw[putF_same _ _ (pkK.key (pk_key hc hd)),if_pos ⟨rfl,rfl⟩]
  rfl
 ·rw[if_neg e,putF_other _ (fun h9=>e (pk_inj hc hd hx hy h9))]
  exact h2 c d hc hd
structure PrB where
 cv:Value
 kv:Value
 cL:List (Nat × Int)
 kL:List (Nat × Int)
 bd:Nat
 bf:Nat
 bm:Nat
 n:Nat
 ro:Nat→Nat
def RunOk (L:List (Nat × Int)) (V:Int→Int):Prop:=L.Pairwise (fun a b=>a.1<b.1)∧L.length≤1114113∧∀r:Int,runVal L r=V r
def prC (B:PrB):Array Value:=#[B.cv,B.kv,.map (some B.bd),.map (some B.bf),.map (some B.bm)]
structure PrI (B:PrB) (g:Nat) (S:RdS) (md:MdT) (w:World):Prop where
 cell:w.heap[g]? = some (.cells (prC B) 120 (0,0))
 c:RunV w B.cv B.cL
 k:RunV w B.kv B.kL
 cp:RunOk B.cL (clsV S)
 kp:RunOk B.kL (kndV S)
 d:DecM B.ro 4 B.bd B.n S.ds w
 f:DecM B.ro 5 B.bf B.n S.fs w
 m:MdM B.bm B.n md w
def PrW (g:Nat) (S:RdS) (md:MdT) (w:World):Prop:=∃B,PrI B g S md w
theorem PrI.below {B:PrB} {g:Nat} {S:RdS} {md:MdT} {w w':World} (h:PrI B g S md w) (hb:Below w.heap.size w w'):PrI B g S md w' where
 cell:=(hb.block g (Array.getElem?_eq_some_iff.1 h.cell).1).trans h.cell
 c:=h.c.below hb
 k:=h.k.below hb
 cp:=h.cp
 kp:=h.kp
 d:=h.d.keep (X:=fun _=>False) (Keep.of_all hb) (fun _ h=>h.elim)
 f:=h.f.keep (X:=fun _=>False) (Keep.of_all hb) (fun _ h=>h.elim)
 m:=h.m.keep (X:=fun _=>False) (Keep.of_all hb) (fun h=>h)
theorem PrW.below {g:Nat} {S:RdS} {md:MdT} {w w':World} (h:PrW g S md w) (hb:Below w.heap.size w w'):PrW g S md w':=by
 obtain⟨B,h⟩:=h
 exact⟨B,h.below hb⟩
end Go.Proofs.YtgpbaeehajkebaaGreatDoor
namespace Go.Proofs.YtgpbaeehajkebaaGreatDoor
open Go Go.RowKit Go.Kt Go.Kt.Rg Go.Maps
set_option maxRecDepth 100000 in
theorem pclsP {g:Nat} {S:RdS} {md:MdT} (w:World) (h:PrW g S md w) (r:Int) :
 Calls Tryz.prog 46 #[.pointer (some ⟨g,0,none⟩),.int .i32 r] w fun e w'=>e = .returned (.int .i64 (clsV S r))∧Below w.heap.size w w':=by
 obtain⟨B,h⟩:=h
 have C:=Lib.hid (pat B.cL B.cv r w h.c h.cp.1 h.cp.2.1)
 rw[h.cp.2.2 r] at C
 have c0:w.cell? ⟨g,0,none⟩=some B.cv:=by rw[Lib.cell_of_heap h.cell];rfl
 clear h
 go_enter Tryz.func46,Tryz.ntmps46
 go_wp2_with fail
 refine C.out.mono ?_
 rintro e w' ⟨rfl,hb⟩
 go_wp2
 go_ret
 exact⟨rfl,hb⟩
set_option maxRecDepth 100000 in
theorem pkndP {g:Nat} {S:RdS} {md:MdT} (w:World) (h:PrW g S md w) (r:Int) :
 Calls Tryz.prog 45 #[.pointer (some ⟨g,0,none⟩),.int .i32 r] w fun e w'=>e = .returned (.int .i64 (kndV S r))∧Below w.heap.size w w':=by
 obtain⟨B,h⟩:=h
 have C:=Lib.hid (pat B.kL B.kv r w h.k h.kp.1 h.kp.2.1)
 rw[h.kp.2.2 r] at C
 have c0:w.cell? ⟨g,1,none⟩=some B.kv:=by rw[Lib.cell_of_heap h.cell];rfl
 clear h
 go_enter Tryz.func45,Tryz.ntmps45
 go_wp2_with fail
 refine C.out.mono ?_
 rintro e w' ⟨rfl,hb⟩
 go_wp2
 go_ret
 exact⟨rfl,hb⟩
def cmpV (md:MdT) (a b:Int):Option Int:=match synP a b with
 | some x=>some x
 | none=>(md a b).map fun x=>(x:Int)
end Go.Proofs.YtgpbaeehajkebaaGreatDoor
namespace Go.Proofs.YtgpbaeehajkebaaGreatDoor
open Go Go.RowKit Go.Kt
def untP (S:RdS) (s:ByteArray) (a:Int):CU :=
 if (decP s a).1=65533∧(decP s a).2=1 then ⟨65533,true,false,false,0⟩
 else ⟨(decP s a).1,decide ((decP s a).1=10)||decide ((decP s a).1=13)||decide (kndV S (decP s a).1=5),decide (kndV S (decP s a).1=3)||decide (kndV S (decP s a).1=6)||decide (0<clsV S (decP s a).1),decide (kndV S (decP s a).1=6),hanK (decP s a).1⟩
abbrev cuZ:Obj:=.cells #[.int .i32 0,.bool false,.bool false,.bool false,.int .i64 0] 52
theorem cu_cells {V:World} {n:Nat} (h:V.heap[n]? = some (.cells #[.int .i32 0,.bool false,.bool false,.bool false,.int .i64 0] 52 (0,0))) :
 (V.cell? ⟨n,0,none⟩=some (.int .i32 0)∧V.cell? ⟨n,1,none⟩=some (.bool false)∧V.cell? ⟨n,2,none⟩=some (.bool false)∧V.cell? ⟨n,3,none⟩=some (.bool false)∧V.cell? ⟨n,4,none⟩=some (.int .i64 0))∧∀i,V.frozen? ⟨n,i,none⟩=false :=
 ⟨⟨by rw[Lib.cell_of_heap h];rfl,by rw[Lib.cell_of_heap h];rfl,by rw[Lib.cell_of_heap h];rfl,by rw[Lib.cell_of_heap h];rfl,by rw[Lib.cell_of_heap h];rfl⟩,fun i=>Lib.frozen_of_heap h _⟩
theorem cu_setc {W:World} {n i:Nat} {cs:Array Value} {T:TypeId} {u:Value} (h:W.heap[n]? = some (.cells cs T (0,0))) :
 (W.setCell ⟨n,i,none⟩ u).heap[n]? = some (.cells (cs.setIfInBounds i u) T (0,0)):=by
 have hlt:=(Array.getElem?_eq_some_iff.1 h).1
 have h':W.heap[n] = .cells cs T (0,0):=by rw[Array.getElem?_eq_getElem hlt] at h;exact Option.some.inj h
 simp[World.setCell,hlt,Array.getElem_modify,h']
def cuSet (V:World) (n:Nat) (u:CU):World :=
 ((((V.setCell ⟨n,0,none⟩ (.int .i32 u.num)).setCell ⟨n,1,none⟩ (.bool u.apart)).setCell ⟨n,2,none⟩ (.bool u.hangs)).setCell ⟨n,3,none⟩ (.bool u.holds)).setCell ⟨n,4,none⟩ (.int .i64 u.han)
theorem cuSet_at {V:World} {n:Nat} (u:CU) (h:V.heap[n]? = some (.cells #[.int .i32 0,.bool false,.bool false,.bool false,.int .i64 0] 52 (0,0))):(cuSet V n u).heap[n]? = some (.cells #[.int .i32 u.num,.bool u.apart,.bool u.hangs,.bool u.holds,.int .i64 u.han] 52 (0,0)) :=
 cu_setc (cu_setc (cu_setc (cu_setc (cu_setc h))))
theorem cuSet_below {D:Nat} {V:World} {n:Nat} (hn:D≤n) (u:CU):Below D V (cuSet V n u) :=
 (((((Below.refl D V).setCell (p:=⟨n,0,none⟩) hn _).setCell (p:=⟨n,1,none⟩) hn _).setCell (p:=⟨n,2,none⟩) hn _).setCell (p:=⟨n,3,none⟩) hn _).setCell (p:=⟨n,4,none⟩) hn _
theorem cu_keep {N:Nat} {A B:World} {cs:Array Value} {w:World} (h:Below N w A∧A.heap[N]? = some (.cells cs 52 (0,0))) (hb:Below A.heap.size A B) (hN:N≤w.heap.size:=by exact Nat.le_refl _):Below N w B∧B.heap[N]? = some (.cells cs 52 (0,0)) :=
 ⟨h.1.trans (hb.mono (Nat.le_trans hN h.1.size)),(hb.block _ (Array.getElem?_eq_some_iff.1 h.2).1).trans h.2⟩
set_option maxRecDepth 100000 in
theorem cu_store (u:CU) {V:World} {n:Nat} (h:V.heap[n]? = some (.cells #[.int .i32 0,.bool false,.bool false,.bool false,.int .i64 0] 52 (0,0))) :
 (Instr.storeAt 52 (.pointer (some ⟨n,0,none⟩)) (cuV u)).run Tryz.prog V = .ok () (cuSet V n u):=by
 have h1:=cu_setc (i:=0) (u:=.int .i32 u.num) h
 have h2:=cu_setc (i:=1) (u:=.bool u.apart) h1
 have h3:=cu_setc (i:=2) (u:=.bool u.hangs) h2
 have h4:=cu_setc (i:=3) (u:=.bool u.holds) h3
 have q0:V.cell? ⟨n,0,none⟩=some (.int .i32 0):=by rw[Lib.cell_of_heap h];rfl
 have q1:(V.setCell ⟨n,0,none⟩ (.int .i32 u.num)).cell? ⟨n,1,none⟩=some (.bool false):=by rw[Lib.cell_of_heap h1];rfl
 have q2:((V.setCell ⟨n,0,none⟩ (.int .i32 u.num)).setCell ⟨n,1,none⟩ (.bool u.apart)).cell? ⟨n,2,none⟩=some (.bool false):=by rw[Lib.cell_of_heap h2];rfl
 have q3:(((V.setCell ⟨n,0,none⟩ (.int .i32 u.num)).setCell ⟨n,1,none⟩ (.bool u.apart)).setCell ⟨n,2,none⟩ (.bool u.hangs)).cell? ⟨n,3,none⟩=some (.bool false):=by rw[Lib.cell_of_heap h3];rfl
 have q4:((((V.setCell ⟨n,0,none⟩ (.int .i32 u.num)).setCell ⟨n,1,none⟩ (.bool u.apart)).setCell ⟨n,2,none⟩ (.bool u.hangs)).setCell ⟨n,3,none⟩ (.bool u.holds)).cell? ⟨n,4,none⟩=some (.int .i64 0):=by rw[Lib.cell_of_heap h4];rfl
 have f0:V.frozen? ⟨n,0,none⟩=false:=Lib.frozen_of_heap h _
 have f1:=Lib.frozen_of_heap h1 1
 have f2:=Lib.frozen_of_heap h2 2
 have f3:=Lib.frozen_of_heap h3 3
 have f4:=Lib.frozen_of_heap h4 4
 unfold cuSet cuV
 obtain⟨a,b,c,d,e⟩:=u
 simp only at *
 clear h h1 h2 h3 h4
 go_simp
theorem wpList_store_cu {P:Program} {ops:Array Oper} {rest:List Oper} {o:Oper} {a:Act} {Q:Exit→Act→World→Prop} {w w':World} {p v:Value} (hgd:o.guard=none) {ty:TypeId} {x y:Operand}
 (ho:o.op = .store ty x y) (hd:o.dst=none) (hx:a.eval x=p) (hy:a.eval y=v) (hrun:(Instr.storeAt ty p v).run P w = .ok () w') (h:wpList P ops Q rest a w'):wpList P ops Q (o::rest) a w:=by
 refine wpList_plain hgd fun K hK=>?_
 refine wp_skipped (exec_store ho hx hy hrun) ?_
 rw[hd]
 exact hK _ _ h
theorem tabs_size {w:World} (hT:Lib.Utf8Tabs 3 4 w):5≤w.heap.size:=by
 have h1:3<w.heap.size:=lt_of_cell (hT.1 0 (by omega))
 have h2:4<w.heap.size:=lt_of_cell (hT.2 0 (by omega)).1
 omega
def CuIn (gp:Nat) (s:ByteArray) (a:Int) (w w0:World) (r v k c h:Int):Prop :=
 (w.alloc cuZ=w0)∧Hid (Below w.heap.size w w0∧w0.heap[w.heap.size]? = some cuZ) ∧
 Hid (Calls Tryz.prog 44 #[.string s,.int .i64 a] w0 fun e w'=>e = .returned (.tuple #[.int .i32 r,.int .i64 v])∧Below w0.heap.size w0 w') ∧
 Hid (∀W,Below w.heap.size w W→Calls Tryz.prog 45 #[.pointer (some ⟨gp,0,none⟩),.int .i32 r] W fun e w'=>e = .returned (.int .i64 k)∧Below W.heap.size W w') ∧
 Hid (∀W,Below w.heap.size w W→Calls Tryz.prog 46 #[.pointer (some ⟨gp,0,none⟩),.int .i32 r] W fun e w'=>e = .returned (.int .i64 c)∧Below W.heap.size W w') ∧
 Hid (∀W,Calls Tryz.prog 47 #[.int .i32 r] W fun e w'=>e = .returned (.int .i64 h)∧w'=W)
def CuOut (gp:Nat) (s:ByteArray) (a:Int) (w:World) (u:CU):Prop:=Calls Tryz.prog 20 #[.pointer (some ⟨gp,0,none⟩),.string s,.int .i64 a] w fun e w'=>e = .returned (cuV u)∧Below w.heap.size w w'
end Go.Proofs.YtgpbaeehajkebaaGreatDoor
