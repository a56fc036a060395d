/- Parts of the proof of what the last text says. -/
import Derived.Test.YtgpbaeehajkebaaGreatDoorGv5
import Derived.Test.YtgpbaeehajkebaaGreatDoorGv2
import Derived.Lib.AppendStr
import Derived.Test.YtgpbaeehajkebaaGreatDoorGv3
import Derived.Maps.OwnSet
import Derived.Test.YtgpbaeehajkebaaGreatDoorKx
import Derived.LoopNIn
import Derived.Laws.ResultCell
import Derived.Laws.Rows
import Derived.Test.YtgpbaeehajkebaaGreatDoorObx
import Derived.Laws.IdiomCopy
import Derived.Lib.SliceRun
import Derived.OwnWalk
namespace Go.Kt
open Go Go.RowKit
variable {P:Program}
def Iter2 {α:Type} (P:Program) (gf:Nat) (lb:Array Value) (encs:α→Array Value) (L:List α) (Nd:Nat→Prop) (w0:World):Prop :=
 ∀(l:Nat) (X:Nat→Prop) (J Jx:List α→(Nat→Prop)→World→Prop) (W:World),
  (∀b,Nd b→¬X b)→(∀b,X b→b<W.heap.size)→(∀b,Nd b→W.heap[b]? = w0.heap[b]?)→w0.heap.size≤W.heap.size →
  Low W.heap.size J→Low W.heap.size Jx→Slim J →
  (∀pre x Y W1,pre++[x] <+: L→J pre Y W1→W.heap.size≤W1.heap.size→(∀b,Y b→W.heap.size≤b)→YieldAt Fence.wide 0 P l (encs x) W1 fun e W' =>
   ∃Y',Keep (fun b=>X b∨Y b) W1 W'∧(∀b,Y' b→Y b∨W1.heap.size≤b)∧((e = .returned (.bool true)∧J (pre++[x]) Y' W')∨(e = .returned (.bool false)∧Jx (pre++[x]) Y' W'))) →
  J [] (fun _=>False) W →
  Calls P gf (#[.func (.yield l) #[] #[]]++lb) W fun e W'=>(∃v,e = .returned v)∧Keep X W W'∧((∃Y,(∀b,Y b→W.heap.size≤b)∧J L Y W')∨∃pre Y,pre <+: L∧(∀b,Y b→W.heap.size≤b)∧Jx pre Y W')
theorem Iter2.three {α:Type} {gf:Nat} {lb:Array Value} {encs:α→Array Value} {L:List α} {Nd:Nat→Prop} {w0:World} (h:Iter2 P gf lb encs L Nd w0):Iter3 P gf lb encs L (fun _=>False) Nd w0:=by
 intro l X J Jx W a b c d e f g hy j
 have lo:∀ {K:List α→(Nat→Prop)→World→Prop},LowZ (fun _=>False) W.heap.size K→Low W.heap.size K:=fun h s Y A B hk=>h s Y A B (hk.weaken fun b _ hb=>⟨.inr hb.1,hb.2⟩)
 refine (h l X J Jx W (fun b hb=>a b (.inr hb)) b (fun b hb=>c b (.inr hb)) d (lo e) (lo f) g hy j).mono ?_
 rintro e W' ⟨h1,h2,h3⟩
 exact⟨h1,h2.weaken fun _ _ h=>.inl h,h3⟩
theorem loop_out2 {α:Type} {g:Operand} {ps:Array Tmp} {assign body:Code} {Q:Exit→Act→World→Prop} {a:Act} {w:World}
 {gf:Nat} {lb:Array Value} (hg:a.eval g = .func (.func gf) #[] lb) (eg:∀args w,(callFunc gf args).run P w = .ok (.enter gf args) w)
 {encs:α→Array Value} {L:List α} {Nd X:Nat→Prop} {w0:World} (hit:Iter2 P gf lb encs L Nd w0) (hps:∀x,(encs x).size=ps.size)
 (hX:∀b,X b→b<w.heap.size) (hNd:∀b,Nd b→¬X b∧b<w.heap.size) (hNdw:∀b,Nd b→w.heap[b]? = w0.heap[b]?) (hw0:w0.heap.size≤w.heap.size)
 (I:List α→(Nat→Prop)→World→Prop) (Ix:Code→List α→(Nat→Prop)→World→Prop) (hI:Low w.heap.size I) (hSI:Slim I) (hIx:∀c,Low w.heap.size (Ix c)) (h0:I [] (fun _=>False) w)
 (hround:∀l,w.heap.size≤l→Round P ps assign body a.tmps encs L X I Ix w l)
 (hdone:∀D Y W,w.heap.size≤D→W.heap[D]? = some (.deferred (some []))→I L Y W→(∀b,Y b→w.heap.size≤b∧b≠D)→Keep X w W→Q .normal { a with defers:={ target:=.collected D,args:=#[] }::a.defers } W)
 (hstop:∀D c pre Y W,w.heap.size≤D→W.heap[D]? = some (.deferred (some []))→pre <+: L→Ix c pre Y W→(∀b,Y b→w.heap.size≤b∧b≠D)→Keep X w W→c.wpIn Fence.wide 0 P Q { a with defers:={ target:=.collected D,args:=#[] }::a.defers } W) :
 (Code.rangeFunc g ps assign body).wpIn Fence.wide 0 P Q a w:=by
 have lo:∀ {K:List α→(Nat→Prop)→World→Prop},Low w.heap.size K→LowZ (fun _=>False) w.heap.size K:=fun h s Y A B hk=>h s Y A B (hk.weaken fun b _ hb=>⟨hb.1.elim False.elim id,hb.2⟩)
 have kp:∀ {A B:World},Keep (fun b=>X b∨False) A B→Keep X A B:=fun h=>h.weaken fun b _ h=>h.elim id False.elim
 refine loop_out3 hg eg hit.three hps hX (fun b hb=>hNd b (hb.elim False.elim id)) (fun b hb=>hNdw b (hb.elim False.elim id)) hw0 I Ix (lo hI) hSI (fun c=>lo (hIx c)) h0 (fun l hl=>?_)
  (fun D Y W h1 h2 h3 h4 h5=>hdone D Y W h1 h2 h3 h4 (kp h5)) (fun D c pre Y W h1 h2 h3 h4 h5 h6=>hstop D c pre Y W h1 h2 h3 h4 h5 (kp h6))
 intro pre x Y W h1 h2 h3 h4 h5 h6
 refine wpIn_mono (hround l hl pre x Y W h1 h2 (kp h3) h4 h5 h6) ?_
 intro e a1 w1 h
 cases e with
 | normal=>exact⟨h.1,fun W2 b1 b2 b3 b4=>h.2 W2 b1 (kp b2) b3 b4⟩
 | ret=>exact h
 | exit id=>exact h
 | goto t=>exact h
 | panic ch=>exact h
 | outgrown=>exact h
end Go.Kt
namespace Go.Kt
open Go Go.RowKit Go.Lib
variable {P:Program}
end Go.Kt
namespace Go.Kt
open Go Go.RowKit
section
variable {P:Program}
end
structure FldR where
 g:Nat
 w:World
 kv:Value
 E:TypeId
 sz:Nat
 n:Nat
 m:Nat
 xs:List Value
 ys:List Value
 T:TypeId
 CS:Value→Array Value
 bs:Array Value
 ia:Nat
 js:Nat
 ib:Nat
 val:Nat→Option Value
variable {F:FldR}
def FldR.Row (F:FldR) (v:Value) (W:World):Prop :=
 ∃ao ln cp,v = .slice ao ln cp∧OwnS (fun b=>(F.kv.ownBlock=some b∨F.w.heap.size≤b)∧b≠F.g) F.E F.sz v F.m F.ys W
theorem FldR.Row.keep {v:Value} {A B:World} {X:Nat→Prop} (h:F.Row v A) (hk:Keep X A B) (hX:∀b,X b→b=F.g):F.Row v B:=by
 obtain⟨ao,ln,cp,e,ho⟩:=h
 exact⟨ao,ln,cp,e,ho.keep hk (fun b hb hy=>hy.2 (hX b hb))⟩
theorem FldR.Row.store {v u:Value} {A:World} {k:Nat} (h:F.Row v A):F.Row v (A.setCell ⟨F.g,k,none⟩ u) :=
 h.keep (X:=fun b=>b=F.g) (Keep.setCell (X:=fun b=>b=F.g) (Keep.refl _ A) (p:=⟨F.g,k,none⟩) rfl u) (fun _ h=>h)
theorem FldR.row_of {v':Value} {ln:Nat} {W Y:World} (hz:F.w.heap.size≤W.heap.size) (hg:F.g<F.w.heap.size) (hkg:F.kv.ownBlock≠some F.g) (ho:OwnS (fun b=>F.kv.ownBlock=some b∨W.heap.size≤b) F.E F.sz v' ln F.ys Y) (hm:ln=F.m):F.Row v' Y:=by
 subst hm
 have hY:OwnS (fun b=>(F.kv.ownBlock=some b∨F.w.heap.size≤b)∧b≠F.g) F.E F.sz v' F.m F.ys Y:=ho.weaken (by
  rintro b (h|h)
  ·exact⟨.inl h,fun e=>hkg (e▸h)⟩
  ·exact⟨.inr (by omega),by omega⟩)
 rcases ho.shape with ⟨h,_⟩|⟨g',cap,h,_⟩
 ·exact⟨_,_,_,h,hY⟩
 ·exact⟨_,_,_,h,hY⟩
def FldR.S (F:FldR) (D:Nat→Bool) (X:World):Prop :=
 (D F.js=false→X.heap[F.g]? = some (.cells (F.CS F.kv) F.T (0,0)))∧(D F.ia=false→OwnS (fun b=>b≠F.g) F.E F.sz F.kv F.n F.xs X)∧Keep (fun b=>b=F.g∨F.kv.ownBlock=some b) F.w X
theorem orb_l {a b:Bool} (h:(a||b)=false):a=false:=by cases a <;> simp_all
variable {D:Nat→Bool} {X Y W:World} {i:Nat} {v u:Value}
theorem FldR.S.more (h:F.S D X):F.S (fun j=>D j||j==i) X:=⟨fun e=>h.1 (orb_l e),fun e=>h.2.1 (orb_l e),h.2.2⟩
theorem FldR.S.below (h:F.S D X) (hb:Below X.heap.size X Y):F.S D Y :=
 ⟨fun e=>(hb.block F.g (Array.getElem?_eq_some_iff.1 (h.1 e)).1).trans (h.1 e),fun e=>(h.2.1 e).keep (X:=fun _=>False) (Keep.of_all hb) (fun _ h=>h.elim),h.2.2.then (hb.mono h.2.2.size)⟩
theorem FldR.S.app (h:F.S D X) (hkg:F.kv.ownBlock≠some F.g) (hj:D F.js=false) (hk:Keep (fun b=>F.kv.ownBlock=some b) X Y):F.S (fun j=>D j||j==F.ia) Y :=
 ⟨fun _=>hk.heap (h.1 hj) hkg,fun e=>by simp at e,h.2.2.trans (hk.weaken fun _ _ h=>Or.inr h)⟩
theorem FldR.S.store {k:Nat} (h:F.S D X):F.S (fun j=>D j||j==F.js) (X.setCell ⟨F.g,k,none⟩ u) :=
 ⟨fun e=>by simp at e,fun e=>(h.2.1 (orb_l e)).keep (X:=fun b=>b=F.g) (Keep.setCell (X:=fun b=>b=F.g) (Keep.refl _ X) (p:=⟨F.g,k,none⟩) rfl u) (fun _ h1 h2=>h2 h1),h.2.2.setCell (Or.inl rfl) u⟩
def FldR.P (F:FldR) (i:Nat) (v:Value) (W:World):Prop :=
 (∀u,F.val i=some u→v=u)∧(i=F.ib→∃b,v = .slice (some ⟨b,0,none⟩) 1 1∧W.heap[b]? = some (.cells F.bs F.E (0,0))∧F.w.heap.size≤b)∧(i=F.ia→F.Row v W)∧(i=F.js→∃u,F.Row u W∧W.heap[F.g]? = some (.cells (F.CS u) F.T (0,0)))
theorem FldR.P.is (h:F.P i v W) (e:F.val i=some u):v=u:=h.1 u e
theorem FldR.P.mk (e:F.val i=some v) (hi:i≠F.ib∧i≠F.ia∧i≠F.js):F.P i v W :=
 ⟨fun u h=>by rw[e] at h;exact Option.some.inj h,fun h=>absurd h hi.1,fun h=>absurd h hi.2.1,fun h=>absurd h hi.2.2⟩
theorem FldR.P.bs (e:F.val F.ib=none) (hi:F.ib≠F.ia∧F.ib≠F.js) (h:∃b,v = .slice (some ⟨b,0,none⟩) 1 1∧W.heap[b]? = some (.cells F.bs F.E (0,0))∧F.w.heap.size≤b):F.P F.ib v W :=
 ⟨fun u h=>(by rw[e] at h;cases h),fun _=>h,fun h=>absurd h hi.1,fun h=>absurd h hi.2⟩
theorem FldR.P.row (e:F.val F.ia=none) (hi:F.ia≠F.ib∧F.ia≠F.js) (h:F.Row v W):F.P F.ia v W :=
 ⟨fun u h=>(by rw[e] at h;cases h),fun h=>absurd h hi.1,fun _=>h,fun h=>absurd h hi.2⟩
theorem FldR.P.last (e:F.val F.js=none) (hi:F.js≠F.ib∧F.js≠F.ia) (h:∃u,F.Row u W∧W.heap[F.g]? = some (.cells (F.CS u) F.T (0,0))):F.P F.js v W :=
 ⟨fun u h=>(by rw[e] at h;cases h),fun h=>absurd h hi.1,fun h=>absurd h hi.2,fun _=>h⟩
theorem FldR.P.below (h:F.P i v W) (hb:Below W.heap.size W Y):F.P i v Y:=by
 have hk:Keep (fun _=>False) W Y:=Keep.of_all hb
 refine⟨h.1,fun e=>?_,fun e=>(h.2.2.1 e).keep hk (fun _ h=>h.elim),fun e=>?_⟩
 ·obtain⟨b,h1,h2,h3⟩:=h.2.1 e
  exact⟨b,h1,hk.heap h2 (fun h=>h),h3⟩
 ·obtain⟨u,h1,h2⟩:=h.2.2.2 e
  exact⟨u,h1.keep hk (fun _ h=>h.elim),hk.heap h2 (fun h=>h)⟩
theorem FldR.P.app (h:F.P i v W) (hkv:∀b,F.kv.ownBlock=some b→b<F.w.heap.size) (hk:Keep (fun b=>F.kv.ownBlock=some b) W Y) (ha:i≠F.ia) (hs:i≠F.js):F.P i v Y:=by
 refine⟨h.1,fun e=>?_,fun e=>absurd e ha,fun e=>absurd e hs⟩
 obtain⟨b,h1,h2,h3⟩:=h.2.1 e
 exact⟨b,h1,hk.heap h2 (fun h=>by have:=hkv b h;omega),h3⟩
theorem FldR.P.store {k:Nat} (h:F.P i v W) (hgl:F.g<F.w.heap.size) (hs:i≠F.js):F.P i v (W.setCell ⟨F.g,k,none⟩ u):=by
 have hk:Keep (fun b=>b=F.g) W (W.setCell ⟨F.g,k,none⟩ u):=Keep.setCell (X:=fun b=>b=F.g) (Keep.refl _ W) (p:=⟨F.g,k,none⟩) rfl u
 refine⟨h.1,fun e=>?_,fun e=>(h.2.2.1 e).store,fun e=>absurd e hs⟩
 obtain⟨b,h1,h2,h3⟩:=h.2.1 e
 exact⟨b,h1,hk.heap h2 (fun h=>by omega),h3⟩
end Go.Kt
namespace Go.Kt
open Go Go.RowKit
structure StoR where
 w:World
 w2:World
 js:Nat
 val:Nat→Option Value
variable {F:StoR} {D:Nat→Bool} {X Y W:World} {i:Nat} {v u:Value}
def StoR.S (F:StoR) (D:Nat→Bool) (X:World):Prop:=D F.js=false→X=F.w
def StoR.P (F:StoR) (i:Nat) (v:Value) (W:World):Prop:=(∀u,F.val i=some u→v=u)∧(i=F.js→W=F.w2)
theorem StoR.S.more (h:F.S D X):F.S (fun j=>D j||j==i) X:=fun e=>h (orb_l e)
theorem StoR.S.store:F.S (fun j=>D j||j==F.js) Y:=fun e=>by simp at e
theorem StoR.P.is (h:F.P i v W) (e:F.val i=some u):v=u:=h.1 u e
theorem StoR.P.mk (e:F.val i=some v) (hi:i≠F.js):F.P i v W:=⟨fun u h=>by rw[e] at h;exact Option.some.inj h,fun h=>absurd h hi⟩
theorem StoR.P.last (e:F.val F.js=none) (h:Y=F.w2):F.P F.js v Y:=⟨fun u h=>(by rw[e] at h;cases h),fun _=>h⟩
theorem StoR.P.store (h:F.P i v W) (hi:i≠F.js):F.P i v Y:=⟨h.1,fun e=>absurd e hi⟩
end Go.Kt
namespace Go.Kt
open Go Go.RowKit Go.Maps
def rawR (v:Value):Option (DataW Value × List MemPlace):=some (.held v,[])
def MapG (P:Program) (k:TypeId) (b n:Nat) (f:Lit→Option Value) (w:World):Prop :=
 ∃D:DataW Value,w.ownsMap P k rawR b n D∧(∀kl,WideAt.IsKeyLit kl→Maps.has D kl=(f kl).isSome)∧∀kl v,WideAt.IsKeyLit kl→f kl=some v→∀z,D.atKey kl z = .held v
section
variable {P:Program} {k e t:TypeId} {b n:Nat} {f:Lit→Option Value} {w:World}
theorem MapG.lt (h:MapG P k b n f w):b<w.heap.size:=by
 obtain⟨D,h1,_⟩:=h
 exact h1.lt
theorem MapG.of_heap {w':World} (h:MapG P k b n f w) (hb:w'.heap[b]? = w.heap[b]?):MapG P k b n f w':=by
 obtain⟨D,⟨es,clock,h1,h2⟩,h3⟩:=h
 exact⟨D,⟨es,clock,hb.trans h1,h2⟩,h3⟩
theorem MapG.keep {X:Nat→Prop} {w':World} (h:MapG P k b n f w) (hk:Keep X w w') (hX:¬X b):MapG P k b n f w':=h.of_heap (hk.same b h.lt hX)
theorem MapG.below {B:Nat} {w':World} (h:MapG P k b n f w) (hk:Below B w w') (hb:b<B):MapG P k b n f w':=h.of_heap (hk.block b hb)
theorem MapG.mono {m:Nat} (h:MapG P k b n f w) (hm:n≤m):MapG P k b m f w:=by
 obtain⟨D,h1,h2⟩:=h
 exact⟨D,h1.mono hm,h2⟩
theorem MapG.made (w:World) (P:Program) (k:TypeId):MapG P k w.heap.size 0 (fun _=>none) (w.alloc (.map #[] 0)) :=
 ⟨.map [],World.ownsMap_made w P k rawR,fun _ _=>rfl,fun _ _ _ h=>by cases h⟩
theorem MapG.look (h:MapG P k b n f w) (K:Keyed P k) (ht:P.underlying t=some (.map k e)) {z:Value} (hz:(zeroValue e).run P w = .ok z w) {key:Value} {kl:Lit} (hkey:keyOf P k key=some kl) :
 (Instr.lookup t (.map (some b)) key true).run P w = .ok (.tuple #[(f kl).getD z,.bool (f kl).isSome]) w:=by
 obtain⟨D,h1,h2,h3⟩:=h
 obtain⟨v,ps,hr,hv⟩:=h1.look_ok K ht hz (zd:=.held z) (zp:=[]) rfl hkey
 rw[hr,h2 kl (K.key hkey)]
 have hv':DataW.held v=D.atKey kl (.held z):=by
  unfold rawR at hv
  exact congrArg Prod.fst (Option.some.inj hv)
 cases hf:f kl with
 | none =>
   have:Maps.has D kl=false:=by rw[h2 kl (K.key hkey),hf];rfl
   rw[atKey_of_not_has this] at hv'
   injection hv' with e1
   subst e1
   rfl
 | some u =>
   rw[h3 kl u (K.key hkey) hf] at hv'
   injection hv' with e1
   subst e1
   rfl
theorem MapG.look1 (h:MapG P k b n f w) (K:Keyed P k) (ht:P.underlying t=some (.map k e)) {z:Value} (hz:(zeroValue e).run P w = .ok z w) {key:Value} {kl:Lit} (hkey:keyOf P k key=some kl) :
 (Instr.lookup t (.map (some b)) key false).run P w = .ok ((f kl).getD z) w:=by
 obtain⟨D,h1,h2,h3⟩:=h
 obtain⟨v,ps,hr,hv⟩:=h1.lookup K ht hz (zd:=.held z) (zp:=[]) rfl hkey
 rw[hr]
 have hv':DataW.held v=D.atKey kl (.held z):=by
  unfold rawR at hv
  exact congrArg Prod.fst (Option.some.inj hv)
 cases hf:f kl with
 | none =>
   have:Maps.has D kl=false:=by rw[h2 kl (K.key hkey),hf];rfl
   rw[atKey_of_not_has this] at hv'
   injection hv' with e1
   subst e1
   rfl
 | some u =>
   rw[h3 kl u (K.key hkey) hf] at hv'
   injection hv' with e1
   subst e1
   rfl
def putF (f:Lit→Option Value) (kl:Lit) (v:Value):Lit→Option Value:=fun l=>if l.sameKey kl then some v else f l
theorem putF_same (f:Lit→Option Value) {kl:Lit} (v:Value) (h:WideAt.IsKeyLit kl):putF f kl v kl=some v:=if_pos (WideAt.sameKey_self h)
theorem putF_other {f:Lit→Option Value} {kl l:Lit} (v:Value) (h:l≠kl):putF f kl v l=f l:=if_neg (by rw[sameKey_ne h];exact Bool.false_ne_true)
theorem MapG.put (h:MapG P k b n f w) (K:Keyed P k) (ht:P.underlying t=some (.map k e)) (hn:n<maxLen) {key val:Value} {kl:Lit} (hkey:keyOf P k key=some kl) :
 ∃w',(Instr.mapUpdate t (.map (some b)) key val).run P w = .ok () w'∧MapG P k b (n+1) (putF f kl val) w'∧Keep (fun x=>x=b) w w':=by
 obtain⟨D,h1,h2,h3⟩:=h
 have hm:IsMap D:=h1.isMap
 obtain⟨w',hr,h4,h5⟩:=h1.store K ht hn (val:=val) (d:=.held val) (ps:=[]) hkey rfl
 refine⟨w',hr,⟨D.put kl (.held val),h4,fun l hl=>?_,fun l v hl hf z=>?_⟩,?_⟩
 ·by_cases e1:l=kl
  ·subst e1;rw[has_put_same hm (K.key hkey),putF_same _ _ (K.key hkey)];rfl
  ·rw[has_put_other e1,putF_other _ e1,h2 l hl]
 ·by_cases e1:l=kl
  ·subst e1
   rw[putF_same _ _ (K.key hkey)] at hf
   rw[atKey_put_same hm (K.key hkey),Option.some.inj hf]
  ·rw[putF_other _ e1] at hf
   rw[atKey_put_other e1]
   exact h3 l v hl hf z
 ·have hg:=h5.grown
  exact⟨hg.os,hg.tape,hg.output,hg.size,fun x hx hne=>hg.block x hx (fun e1=>hne (by injection e1))⟩
end
theorem wpList_put {P:Program} (w:World) {ops:Array Oper} {rest:List Oper} {o:Oper} {a:Act} {Q:Exit→Act→World→Prop}
 (hg:o.guard=none) (m x v:Operand) (t:TypeId) (hop:o.op=Op.mapUpdate t m x v)
 (k e:TypeId) (K:Keyed P k) (ht:P.underlying t=some (.map k e)) (b n:Nat) (f:Lit→Option Value)
 (hm:a.eval m = .map (some b)) (hown:MapG P k b n f w) (hn:n<maxLen) (key val:Value) (kl:Lit) (hx:a.eval x=key) (hv:a.eval v=val) (hkey:keyOf P k key=some kl)
 (hK:∀w',MapG P k b (n+1) (putF f kl val) w'→Keep (fun x=>x=b) w w'→wpList P ops Q rest (a.put o.dst undef) w') :
 wpList P ops Q (o::rest) a w:=by
 refine wpList_plain hg fun K' hK'=>?_
 obtain⟨w',hrun,r1,r2⟩:=hown.put K ht hn (val:=val) hkey
 unfold Oper.wp
 simp[execOp,hop,hm,hx,hv,hrun,Result.andThen]
 exact hK' _ _ (hK w' r1 r2)
end Go.Kt
namespace Go.Kt
open Go Go.RowKit Go.Maps
section
variable {P:Program} {a:Act} {o:Oper} {w w':World}
theorem exec_mapUpdate {t:TypeId} {m k x:Operand} {u0 u1 u2:Value} (ho:o.op = .mapUpdate t m k x) (hm:a.eval m=u0) (hk:a.eval k=u1) (hx:a.eval x=u2) (h:(Instr.mapUpdate t u0 u1 u2).run P w = .ok () w'):(execOp a.eval o).run P w = .ok .skip w':=by
 unfold execOp
 simp[ho,hm,hk,hx,h,Result.andThen]
theorem MapG.congr {k:TypeId} {b n:Nat} {f f':Lit→Option Value} (h:MapG P k b n f w) (e:∀kl,WideAt.IsKeyLit kl→f kl=f' kl):MapG P k b n f' w:=by
 obtain⟨D,h1,h2,h3⟩:=h
 exact⟨D,h1,fun kl hk=>by rw[h2 kl hk,e kl hk],fun kl v hk hf z=>h3 kl v hk (by rw[e kl hk];exact hf) z⟩
end
def ptF (vs:Nat→Option Value):Lit→Option Value
 | .int .i32 x=>if 0≤x then vs x.toNat else none
 | _=>none
theorem ptF_at (vs:Nat→Option Value) (x:Nat):ptF vs (.int .i32 (x:Int))=vs x:=by
 simp[ptF]
def updN {A:Type} (f:Nat→Option A) (x:Nat) (v:A):Nat→Option A:=fun y=>if y=x then some v else f y
theorem ptF_put (vs:Nat→Option Value) (x:Nat) (v:Value) (kl:Lit) (hk:WideAt.IsKeyLit kl):putF (ptF vs) (.int .i32 (x:Int)) v kl=ptF (updN vs x v) kl:=by
 by_cases e:kl = .int .i32 (x:Int)
 ·subst e
  rw[putF_same _ _ hk,ptF_at,updN,if_pos rfl]
 ·rw[putF_other _ e]
  unfold ptF
  split
  ·rename_i y
   split
   ·rename_i hy
    rw[updN,if_neg (fun h=>e (by rw[←h,Int.toNat_of_nonneg hy]))]
   ·rfl
  ·rfl
end Go.Kt
namespace Go.Kt
open Go Go.RowKit
variable {P:Program}
theorem rounds_ind {F:Fence} {n:Nat} {c:Code} {Q:Exit→Act→World→Prop} (Rel:Nat→Act→World→Prop)
 (hstep:∀m a w,Rel (m+1) a w→c.wpIn F n P (Exit.then (Rel m) Q) a w) (h0:∀a w,¬Rel 0 a w) (m:Nat) {a:Act} {w:World} (h:Rel m a w):(Code.loop c).wpIn F n P Q a w:=by
 refine wpIn_loop_rounds m ?_
 induction m generalizing a w with
 | zero=>exact (h0 _ _ h).elim
 | succ m ih =>
   rw[roundsIn_succ]
   refine wpIn_mono (hstep m a w h) ?_
   intro e a' w' he
   cases e with
   | normal=>exact ih he
   | ret=>exact he
   | exit id=>exact he
   | goto t=>exact he
   | panic ch=>exact he
   | outgrown=>exact he
theorem alloc_at {A:World} {o:Obj} {k:Nat} (hk:k=A.heap.size):(A.alloc o).heap[k]? = some o:=by rw[hk];exact World.alloc_heap_new A o
theorem alloc_old {A:World} {o x:Obj} {k:Nat} (h:A.heap[k]? = some x):(A.alloc o).heap[k]? = some x:=((Keep.refl (fun _=>False) A).alloc o).heap h (fun h=>h)
theorem set_at {A:World} {k:Nat} {v u:Value} {t:TypeId} {fr:Nat × Nat} (h:A.heap[k]? = some (.cells #[v] t fr)):(A.setCell ⟨k,0,none⟩ u).heap[k]? = some (.cells #[u] t fr):=by
 simp[World.setCell,Array.getElem?_modify,h]
theorem set_old {A:World} {j k:Nat} {o:Nat} {x:Obj} {u:Value} (h:A.heap[j]? = some x) (hne:j≠k):(A.setCell ⟨k,o,none⟩ u).heap[j]? = some x :=
 ((Keep.refl (fun b=>b=k) A).setCell (p:=⟨k,o,none⟩) rfl u).heap h hne
theorem cell_one {A:World} {k:Nat} {v:Value} {t:TypeId} {fr:Nat × Nat} (h:A.heap[k]? = some (.cells #[v] t fr)):A.cell? ⟨k,0,none⟩=some v:=by
 simp[World.cell?,h]
theorem frozen_one {A:World} {k:Nat} {v:Value} {t:TypeId} (h:A.heap[k]? = some (.cells #[v] t (0,0))):A.frozen? ⟨k,0,none⟩=false:=by
 simp[World.frozen?,h]
end Go.Kt
namespace Go.Proofs.YtgpbaeehajkebaaGreatDoor
open Go Go.RowKit Go.Kt Go.Kt.Os Go.Sort
theorem oNaN2 (x:Int) (w:World):Calls Tryz.prog 134 #[.int .i32 x] w fun e w'=>e = .returned (.bool false)∧w'=w:=by
 go_enter Tryz.func134,Tryz.ntmps134
 go_wp2
 go_ret
 exact⟨by simp,rfl⟩
set_option maxRecDepth 100000 in
set_option maxHeartbeats 2000000 in
theorem oSearch (blk off cap n:Nat) (G:Nat→Int) (x:Int) (w:World) (hc:∀t,t<n→w.cell? ⟨blk,off+t,none⟩=some (.int .i32 (G t))) (hs:∀i j,i≤j→j<n→G i≤G j) (hsz:n<4611686018427387904) :
 Calls Tryz.prog 106 #[.slice (some ⟨blk,off,none⟩) n cap,.int .i32 x] w fun e w' =>
  ∃(p:Nat) (f:Value),e = .returned (.tuple #[.int .i64 p,f])∧p≤n∧(∀t,t<p→G t<x)∧(∀t,p≤t→t<n→x≤G t)∧Below w.heap.size w w':=by
 have HS:=Lib.hid hs
 clear hs
 go_enter Tryz.func106,Tryz.ntmps106
 go_wp2
 go_loopw [7,8] (fun vi vj wr=>∃(i j q:Nat),vi = .int .i64 i∧vj = .int .i64 j∧i≤j∧j≤n∧Hid ((∀t,t<i→G t<x)∧(∀t,j≤t→t<n→x≤G t))∧wr=w.drewN q) (fun vi vj _=>(RowKit.intOf vj).toNat-(RowKit.intOf vi).toNat)
 case atStart=>exact⟨0,n,0,rfl,rfl,by omega,Nat.le_refl _,Lib.hid ⟨fun t h=>absurd h (by omega),fun t h1 h2=>absurd h2 (by omega)⟩,rfl⟩
 case round =>
  obtain⟨i,j,q,rfl,rfl,hij,hjn,hh,hw⟩:=hrel
  have hcw:∀t,t<n→wr.cell? ⟨blk,off+t,none⟩=some (.int .i32 (G t)):=fun t ht=>by rw[hw];exact hc t ht
  have HW:=Lib.hid hw
  clear hw
  by_cases hlt:i<j
  ·have hltz:(i:Int)<(j:Int):=by omega
   obtain⟨h,hh2⟩:∃h,h=(i+j)/2:=⟨_,rfl⟩
   have hhz:((i:Int)+(j:Int))/2=(h:Int):=by omega
   have hm1:i≤h:=by omega
   have hm2:h<j:=by omega
   have HZ:=Lib.hid hhz
   have HH:=Lib.hid hh2
   clear hh2 hhz
   go_wp2_with fail
   rw[HZ.out,←HH.out]
   refine (oLess _ _ _).mono ?_
   rintro e w2 ⟨rfl,rfl⟩
   cases hl:ltInt (G h) x
   ·go_wp2
    go_roundw
    case rel=>exact⟨i,h,q,rfl,rfl,hm1,by omega,Lib.hid ⟨hh.out.1,fun t h1 h2=>by
     have e1:=HS.out h t h1 h2
     have e2:x≤G h:=by simpa [ltInt] using hl
     omega⟩,HW.out⟩
    case measure=>simp[RowKit.intOf];omega
   ·go_wp2
    go_roundw
    case rel=>exact⟨h+1,j,q,by go_num,rfl,by omega,hjn,Lib.hid ⟨fun t h1=>by
     have e1:=HS.out t h (by omega) (by omega)
     have e2:G h<x:=by simpa [ltInt] using hl
     omega,hh.out.2⟩,HW.out⟩
    case measure=>simp[RowKit.intOf];omega
  ·have e:i=j:=by omega
   subst e
   have hltz:¬(i:Int)<(i:Int):=by omega
   by_cases hin:i<n
   ·have hinz:(i:Int)<(n:Int):=by omega
    cases hq:(G i==x)
    ·go_wp2_with (go_at_call 134;refine (oNaN2 _ _).mono ?_;rintro e w2 ⟨rfl,rfl⟩)
     go_ret2
     first|exact⟨i,⟨_,rfl⟩,hjn,hh.out.1,hh.out.2,by rw[HW.out];exact below_drewN (Below.refl _ _) _⟩|exact⟨i,rfl,hjn,hh.out.1,hh.out.2,by rw[HW.out];exact below_drewN (Below.refl _ _) _⟩|exact⟨i,_,rfl,hjn,hh.out.1,hh.out.2,by rw[HW.out];exact below_drewN (Below.refl _ _) _⟩
    ·go_wp2_with (go_at_call 134;refine (oNaN2 _ _).mono ?_;rintro e w2 ⟨rfl,rfl⟩)
     go_ret2
     first|exact⟨i,⟨_,rfl⟩,hjn,hh.out.1,hh.out.2,by rw[HW.out];exact below_drewN (Below.refl _ _) _⟩|exact⟨i,rfl,hjn,hh.out.1,hh.out.2,by rw[HW.out];exact below_drewN (Below.refl _ _) _⟩|exact⟨i,_,rfl,hjn,hh.out.1,hh.out.2,by rw[HW.out];exact below_drewN (Below.refl _ _) _⟩
   ·have hinz:(n:Int)≤(i:Int):=by omega
    go_wp2
    go_ret2
    first|exact⟨i,⟨_,rfl⟩,hjn,hh.out.1,hh.out.2,by rw[HW.out];exact below_drewN (Below.refl _ _) _⟩|exact⟨i,rfl,hjn,hh.out.1,hh.out.2,by rw[HW.out];exact below_drewN (Below.refl _ _) _⟩|exact⟨i,_,rfl,hjn,hh.out.1,hh.out.2,by rw[HW.out];exact below_drewN (Below.refl _ _) _⟩
end Go.Proofs.YtgpbaeehajkebaaGreatDoor
namespace Go.Proofs.YtgpbaeehajkebaaGreatDoor
open Go Go.RowKit Go.Kt Go.Kt.Os Go.Sort
structure Cpt (n:Nat) (G:Nat→Int) (i p:Nat) (H:Nat→Int):Prop where
 i1:1≤i
 ip:i+1≤p
 pn:p≤n
 rise:∀j k,j<k→k<i→H j<H k
 last:H (i-1)=G (p-1)
 same:∀t,p≤t+1→t<n→H t=G t
 mem:∀x,(∃t,t<i∧H t=x)↔∃t,t<p∧G t=x
theorem Cpt.start {n:Nat} {G:Nat→Int} {i:Nat} (h1:1≤i) (hn:i<n) (hr:∀j k,j<k→k<i→G j<G k) (he:G i=G (i-1)):Cpt n G i (i+1) G where
 i1:=h1
 ip:=Nat.le_refl _
 pn:=hn
 rise:=hr
 last:=he.symm
 same:=fun _ _ _=>rfl
 mem:=fun x=>⟨fun ⟨t,ht,e⟩=>⟨t,by omega,e⟩,fun ⟨t,ht,e⟩=>by
  rcases Nat.lt_or_ge t i with h|h
  ·exact⟨t,h,e⟩
  ·exact⟨i-1,by omega,by rw[←he,←e];congr 1;omega⟩⟩
theorem Cpt.skip {n:Nat} {G H:Nat→Int} {i p:Nat} (h:Cpt n G i p H) (hp:p<n) (he:G p=G (p-1)):Cpt n G i (p+1) H where
 i1:=h.i1
 ip:=by have:=h.ip;omega
 pn:=hp
 rise:=h.rise
 last:=h.last.trans he.symm
 same:=fun t h1 h2=>h.same t (by omega) h2
 mem:=fun x=>(h.mem x).trans ⟨fun ⟨t,ht,e⟩=>⟨t,by omega,e⟩,fun ⟨t,ht,e⟩=>by
  have:=h.ip
  rcases Nat.lt_or_ge t p with k|k
  ·exact⟨t,k,e⟩
  ·exact⟨p-1,by omega,by rw[←he,←e];congr 1;omega⟩⟩
theorem Cpt.take {n:Nat} {G H:Nat→Int} {i p:Nat} (h:Cpt n G i p H) (hs:∀i j,i≤j→j<n→G i≤G j) (hp:p<n) (hne:G p≠G (p-1)):Cpt n G (i+1) (p+1) (fun t=>if t=i then G p else H t) where
 i1:=by omega
 ip:=by have:=h.ip;omega
 pn:=hp
 rise:=fun j k hjk hk=>by
  have hlt:∀j,j<i→H j<G p:=fun j hj=>by
   have e1:H j≤H (i-1):=by
    rcases Nat.lt_or_ge j (i-1) with k|k
    ·exact Int.le_of_lt (h.rise j (i-1) k (by have:=h.i1;omega))
    ·have:j=i-1:=by omega
     subst this;exact Int.le_refl _
   have e2:=hs (p-1) p (by omega) hp
   have e3:=h.last
   omega
  have hj:j≠i:=by omega
  simp only[if_neg hj]
  by_cases hki:k=i
  ·simp only[if_pos hki]
   exact hlt j (by omega)
  ·simp only[if_neg hki]
   exact h.rise j k hjk (by omega)
 last:=by simp
 same:=fun t h1 h2=>by
  have:=h.ip
  simp only[if_neg (show t≠i by omega)]
  exact h.same t (by omega) h2
 mem:=fun x=>by
  constructor
  ·rintro⟨t,ht,e⟩
   by_cases hti:t=i
   ·simp only[if_pos hti] at e
    exact⟨p,by omega,e⟩
   ·simp only[if_neg hti] at e
    obtain⟨u,hu,e2⟩:=(h.mem x).1 ⟨t,by omega,e⟩
    exact⟨u,by omega,e2⟩
  ·rintro⟨t,ht,e⟩
   rcases Nat.lt_or_ge t p with k|k
   ·obtain⟨u,hu,e2⟩:=(h.mem x).2 ⟨t,k,e⟩
    exact⟨u,by omega,by simp only[if_neg (show u≠i by omega)];exact e2⟩
   ·exact⟨i,by omega,by simp only[if_true];rw[←e];congr 1;omega⟩
def RW (blk off n:Nat) (G:Nat→Int) (W:World):Prop:=∀t,t<n→W.cell? ⟨blk,off+t,none⟩=some (.int .i32 (G t))∧W.frozen? ⟨blk,off+t,none⟩=false
theorem RW.set {blk off n:Nat} {G:Nat→Int} {W:World} (h:RW blk off n G W) {i:Nat} (hi:i<n) (x:Int):RW blk off n (fun t=>if t=i then x else G t) (W.setCell ⟨blk,off+i,none⟩ (.int .i32 x)):=fun t ht=>by
 refine⟨?_,(World.frozen?_setCell _ _ _ _).trans (h t ht).2⟩
 by_cases e:t=i
 ·subst e
  simp only[if_true]
  exact World.cell?_setCell_same _ _ _ (h t ht).1
 ·simp only[if_neg e]
  exact (World.cell?_setCell_other _ _ _ _ (fun k=>by injection k with _ k;omega)).trans (h t ht).1
theorem keep_drewN {X:Nat→Prop} {A B:World} (h:Keep X A B) (q:Nat):Keep X A (B.drewN q):=h.trans ⟨rfl,rfl,rfl,Nat.le_refl _,fun _ _ _=>rfl⟩
theorem keep_setCells {X:Nat→Prop} {A:World} (b:Nat) (hb:X b):∀(vs:List Value) (o:Nat) (B:World),Keep X A B→Keep X A (B.setCells b o vs)
 | [],_,_,h=>h
 | v::r,o,_,h=>keep_setCells b hb r (o+1) _ (h.setCell (p:=⟨b,o,none⟩) hb v)
def CptOut (blk off cap n:Nat) (G:Nat→Int) (w:World) (e:Ending) (w':World):Prop :=
 ∃(m:Nat) (H:Nat→Int),e = .returned (.slice (some ⟨blk,off,none⟩) m cap)∧1≤m∧m≤n∧(∀j k,j<k→k<m→H j<H k)∧(∀x,(∃t,t<m∧H t=x)↔∃t,t<n∧G t=x)∧(∀t,t<m→w'.cell? ⟨blk,off+t,none⟩=some (.int .i32 (H t)))∧Keep (fun b=>b=blk) w w'
set_option maxRecDepth 100000 in
set_option maxHeartbeats 2000000 in
theorem oCompact (blk off cap n:Nat) (G:Nat→Int) (w:World) (hR:RW blk off n G w) (hs:∀i j,i≤j→j<n→G i≤G j) (hn:1≤n) (hcap:n≤cap) (hsz:cap<9223372036854775808) :
 Calls Tryz.prog 131 #[.slice (some ⟨blk,off,none⟩) n cap] w fun e w'=>CptOut blk off cap n G w e w':=by
 have HR:=Lib.hid hR
 have HS:=Lib.hid hs
 clear hR hs
 by_cases h2:n<2
 ·have h2z:(n:Int)<2:=by omega
  go_enter Tryz.func131,Tryz.ntmps131
  go_wp2
  go_ret
  exact (show CptOut _ _ _ _ _ _ _ _ from⟨n,G,rfl,hn,Nat.le_refl _,fun j k h1 h3=>absurd h3 (by omega),fun x=>Iff.rfl,fun t ht=>(HR.out t ht).1,Keep.refl _ _⟩)
 ·have h2z:(2:Int)≤(n:Int):=by omega
  go_enter Tryz.func131,Tryz.ntmps131
  go_wp2
  go_loopw [3] (fun vi wr=>∃(i q:Nat),vi = .int .i64 i∧1≤i∧i≤n∧Hid ((∀j k,j<k→k<i→G j<G k))∧wr=w.drewN q) (fun vi _=>n-(RowKit.intOf vi).toNat)
  case atStart=>exact⟨1,0,rfl,Nat.le_refl _,hn,Lib.hid (fun j k h1 h3=>absurd h3 (by omega)),rfl⟩
  case round =>
   obtain⟨i,q,rfl,hi1,hin,hh,hw⟩:=hrel
   have hcw:∀t,t<n→wr.cell? ⟨blk,off+t,none⟩=some (.int .i32 (G t)):=fun t ht=>by rw[hw];exact (HR.out t ht).1
   have HW:=Lib.hid hw
   clear hw
   by_cases hlt:i<n
   ·have hltz:(i:Int)<(n:Int):=by omega
    by_cases he:G i=G (i-1)
    ·have heb:(G i==G (i-1))=true:=beq_iff_eq.2 he
     have HC:=Lib.hid (Cpt.start hi1 hlt hh.out he)
     have HRW:Hid (RW blk off n G wr):=Lib.hid (fun t ht=>by rw[HW.out];exact HR.out t ht)
     have HK:Hid (Keep (fun b=>b=blk) w wr):=Lib.hid (by rw[HW.out];exact⟨rfl,rfl,rfl,Nat.le_refl _,fun _ _ _=>rfl⟩)
     clear HW he
     go_wp2_with fail
     go_big_quiet (fail)
     replace HRW:Hid (RW blk off n G (wr.drewN nq)):=HRW
     replace HK:Hid (Keep (fun b=>b=blk) w (wr.drewN nq)):=Lib.hid (HK.out.trans ⟨rfl,rfl,rfl,Nat.le_refl _,fun _ _ _=>rfl⟩)
     clear hcw heb
     generalize wr.drewN nq=w1 at HRW HK ⊢
     clear nq
     have hiz:¬(n:Int)<(i:Int):=by omega
     go_wp2_with fail
     go_loopw [3,5] (fun vi vp wr=>∃(k s:Nat) (H:Nat→Int),vi = .int .i64 k∧vp = .int .i64 s∧k≤n∧1≤s∧s+i≤n∧k+1≤i+s∧Hid (Cpt n G k (i+s) H∧RW blk off n H wr∧Keep (fun b=>b=blk) w wr)) (fun _ vp _=>n-(RowKit.intOf vp).toNat)
     case atStart=>exact⟨i,1,G,rfl,rfl,by omega,by omega,by omega,by omega,Lib.hid ⟨HC.out,HRW.out,HK.out⟩⟩
     case round =>
      clear HC HRW HK
      obtain⟨k,s,H,rfl,rfl,hk,hs1,hs2,hk2,hg⟩:=hrel
      by_cases hsn:s<n-i
      ·have hsnz:(s:Int)<((n-i:Nat):Int):=by omega
       have hcw:∀t,t<n-i→wr.cell? ⟨blk,off+i+t,none⟩=some (.int .i32 (H (i+t))):=fun t ht=>by
        have:=(hg.out.2.1 (i+t) (by omega)).1
        rwa[show off+(i+t)=off+i+t by omega] at this
       have hc0:=(hg.out.2.1 k (by omega)).1
       have hf0:=(hg.out.2.1 k (by omega)).2
       have eP:H (i+s)=G (i+s):=hg.out.1.same _ (by omega) (by omega)
       have eQ:H (i+(s-1))=G (i+s-1):=(hg.out.1.same _ (by omega) (by omega)).trans (by congr 1;omega)
       by_cases hne:H (i+s)=H (i+(s-1))
       ·have hneb:(H (i+s)!=H (i+(s-1)))=false:=by simp[hne]
        have HC2:=Lib.hid (hg.out.1.skip (by omega) (by rw[←eP,←eQ];exact hne))
        clear eP eQ hne
        go_wp2_with fail
        go_big_quiet (fail)
        go_wp2
        go_roundw
        case rel=>exact⟨k,s+1,H,rfl,by go_num,by omega,by omega,by omega,by omega,Lib.hid ⟨HC2.out,hg.out.2.1,hg.out.2.2.trans ⟨rfl,rfl,rfl,Nat.le_refl _,fun _ _ _=>rfl⟩⟩⟩
        case measure=>simp[RowKit.intOf];omega
       ·have hneb:(H (i+s)!=H (i+(s-1)))=true:=by simp[hne]
        have HC2:=Lib.hid (hg.out.1.take HS.out (by omega) (by rw[←eP,←eQ];exact hne))
        have HR2:=Lib.hid (RW.set (W:=wr) hg.out.2.1 (i:=k) (by omega) (G (i+s)))
        have EP:=Lib.hid eP
        clear eP eQ hne
        go_wp2_with fail
        go_big_quiet (fail)
        go_wp2_with fail
        replace HR2:Hid (RW blk off n (fun t=>if t=k then G (i+s) else H t) ((wr.drewN nq).setCell ⟨blk,off+k,none⟩ (.int .i32 (H (i+s))))):=Lib.hid (by rw[EP.out];exact HR2.out)
        have HK2:Hid (Keep (fun b=>b=blk) w ((wr.drewN nq).setCell ⟨blk,off+k,none⟩ (.int .i32 (H (i+s))))):=Lib.hid (Keep.setCell (X:=fun b=>b=blk) (keep_drewN hg.out.2.2 nq) (p:=⟨blk,off+k,none⟩) rfl _)
        go_wp2
        go_roundw
        case rel=>exact⟨k+1,s+1,_,by go_num,by go_num,by omega,by omega,by omega,by omega,Lib.hid ⟨HC2.out,HR2.out,HK2.out⟩⟩
        case measure=>simp[RowKit.intOf];omega
      ·have hsnz:((n-i:Nat):Int)≤(s:Int):=by omega
       have es:i+s=n:=by omega
       have hkn:k<n:=by omega
       have hcl:∀ty,(Builtin.clear_ #[78] ty #[.slice (some ⟨blk,off+k,none⟩) (n-k) (cap-k)]).run Tryz.prog wr = .ok (.tuple #[]) (wr.setCells blk (off+k) (List.replicate (n-k) (.int .i32 0))) :=
        fun ty=>Lib.run_clear_slice wr _ _ ty _ Tryz.underlying78 Tryz.zeroValue21 rfl rfl blk (off+k) _ _ (by omega) (fun j hj=>by rw[show off+k+j=off+(k+j) by omega,(hg.out.2.1 (k+j) (by omega)).1];rfl) (fun j hj=>by rw[show off+k+j=off+(k+j) by omega];exact (hg.out.2.1 (k+j) (by omega)).2)
       have hkz:¬(n:Int)<(k:Int):=by omega
       have hkc:¬(cap:Int)<(k:Int):=by omega
       have ES:=Lib.hid es
       clear es
       go_wp2
       go_ret
       refine (show CptOut _ _ _ _ _ _ _ _ from⟨k,H,rfl,hg.out.1.i1,by omega,hg.out.1.rise,by rw[←ES.out];exact hg.out.1.mem,fun t ht=>?_,keep_setCells (X:=fun b=>b=blk) blk rfl _ _ _ hg.out.2.2⟩)
       rw[World.cell?_setCells_out blk _ _ _ _ (fun _ _=>Or.inl (by show off+t<off+k;omega))]
       exact (hg.out.2.1 t (by omega)).1
    ·have heb:(G i==G (i-1))=false:=beq_eq_false_iff_ne.2 he
     go_wp2_with fail
     go_big_quiet (fail)
     go_wp2
     go_roundw
     case rel=>exact⟨i+1,q+nq,by go_num,by omega,by omega,Lib.hid (fun j k h1 h3=>by
      rcases Nat.lt_or_ge k i with e|e
      ·exact hh.out j k h1 e
      ·have ek:k=i:=by omega
       subst ek
       have e1:=HS.out (k-1) k (by omega) hlt
       have e2:=HS.out j (k-1) (by omega) (by omega)
       omega),by rw[HW.out,World.drewN_drewN]⟩
     case measure=>simp[RowKit.intOf];omega
   ·have hltz:¬(i:Int)<(n:Int):=by omega
    have e:i=n:=by omega
    subst e
    go_wp2
    go_ret
    exact (show CptOut _ _ _ _ _ _ _ _ from⟨i,G,rfl,hn,Nat.le_refl _,hh.out,fun x=>Iff.rfl,hcw,by rw[HW.out];exact⟨rfl,rfl,rfl,Nat.le_refl _,fun _ _ _=>rfl⟩⟩)
end Go.Proofs.YtgpbaeehajkebaaGreatDoor
namespace Go.Kt
open Go Go.RowKit
theorem own_from_base {B:Nat} {e:TypeId} {size n:Nat} {v:Value} {xs:List Value} {W:World} (h:W.ownsRow B e size v n xs):OwnS (fun b=>B≤b) e size v n xs W:=by
 refine⟨⟨h.1,?_⟩,fun g hg=>?_⟩
 ·rcases h.2 with h1|⟨g,cap,cur,rfl,_,rest⟩
  ·exact .inl h1
  ·exact .inr ⟨g,cap,cur,rfl,Nat.zero_le _,rest⟩
 ·rcases h.2 with ⟨rfl,_⟩|⟨g',cap,cur,rfl,hb,_⟩
  ·cases hg
  ·cases hg;exact hb
theorem own_to_base {Y:Nat→Prop} {e:TypeId} {size n base:Nat} {v:Value} {xs:List Value} {W:World} (h:OwnS Y e size v n xs W) (hY:∀b,Y b→base≤b):W.ownsRow base e size v n xs:=by
 obtain⟨⟨hl,h2⟩,hY'⟩:=h
 refine⟨hl,?_⟩
 rcases h2 with h2|⟨g,cap,cur,rfl,hb,hg,rest⟩
 ·exact .inl h2
 ·exact .inr ⟨g,cap,cur,rfl,hY g (hY' g rfl),hg,rest⟩
theorem append_no_more {w:World} {base:Nat} {P:Program} (t ty e:TypeId) (i:TypeInfo) (size:Nat) (ht:P.underlying t=some (.slice e)) (hi:P.info? e=some i)
 (v:Value) (n:Nat) (xs:List Value) (hown:w.ownsRow base e size v n xs) (c:Nat) :
 (Builtin.append_ #[t,t] ty #[v,.slice none 0 c]).run P w = .ok v w:=by
 rcases hown.2 with ⟨rfl,rfl⟩|⟨g,cap,cur,rfl,_,_,hnc,_⟩
 ·simp[Builtin.append_,run_underlying ht,sizeOf,typeInfo,hi,Builtin.lenOf,Builtin.firstCells]
 ·simp[Builtin.append_,run_underlying ht,sizeOf,typeInfo,hi,Builtin.lenOf,Builtin.firstCells,hnc,storeCells]
theorem OwnS.atN {Y:Nat→Prop} {e:TypeId} {size n g cap:Nat} {xs:List Value} {W:World} (h:OwnS Y e size (.slice (some ⟨g,0,none⟩) n cap) n xs W) {i:Nat} {u:Value} (hi:xs[i]? = some u):W.cell? ⟨g,i,none⟩=some u:=by
 have:=h.1.cells (g:=g) rfl i u hi
 rwa[Addr.add_lit,Nat.zero_add] at this
end Go.Kt
