/- Parts of the proof of what the last text says. -/
import Derived.Test.YtgpbaeehajkebaaGreatDoorGv10
import Derived.Test.YtgpbaeehajkebaaGreatDoorGv6
import Derived.Deep.AppendLies
import Derived.OwnWalk
import Derived.Test.YtgpbaeehajkebaaGreatDoorGv9
namespace Go.Proofs.YtgpbaeehajkebaaGreatDoor
open Go Go.RowKit Go.Kt Go.Kt.Rg Go.Maps
structure RdS where
 cs:List (Nat × Nat × Int)
 ks:List (Nat × Nat × Int)
 ds:Nat→Option (List Nat)
 fs:Nat→Option (List Nat)
 ls:Nat→Option Nat
 le:Nat→Option Int
structure RdB where
 g:Nat
 bs:Nat
 bd:Nat
 bf:Nat
 bl:Nat
 bn:Nat
def rwE (l:List (Nat × Nat × Int)):List Value:=l.flatMap fun r=>[.int .i32 r.1,.int .i32 r.2.1,.int .i64 r.2.2]
theorem rwE_snoc (l:List (Nat × Nat × Int)) (r:Nat × Nat × Int):rwE (l++[r])=rwE l++[.int .i32 r.1,.int .i32 r.2.1,.int .i64 r.2.2]:=by simp[rwE]
def cellsR (R:RdB) (line:Nat) (cv kv:Value):Array Value :=
 #[.map (some R.bs),.int .i64 line,cv,kv,.map (some R.bd),.map (some R.bf),.map (some R.bl),.map (some R.bn)]
def saysV (g f:Nat):Value:=.func (.func f) #[.pointer (some ⟨g,0,none⟩)] #[]
def saysF (g:Nat):Lit→Option Value
 | .string b=>if b=[99,108,97,115,115] then some (saysV g 53) else if b=[107,105,110,100] then some (saysV g 54) else
  if b=[102,111,108,100] then some (saysV g 55) else if b=[100,101,99,111,109,112] then some (saysV g 56) else none
 | _=>none
def lsV (f:Nat→Option Nat):Nat→Option Value:=fun x=>(f x).map fun m=>.int .i64 (m:Nat)
def leV (f:Nat→Option Int):Nat→Option Value:=fun x=>(f x).map fun m=>.int .i64 m
theorem PtV.role {ρ ρ':Nat→Nat} {v:Value} {l:List Nat} {w:World} (h:PtV ρ v l w) (e:∀b,b<w.heap.size→ρ' b=ρ b):PtV ρ' v l w:=by
 obtain⟨b,off,cap,rfl,h1,h2,h3,h4,h5⟩:=h
 exact⟨b,off,cap,rfl,h1,h2,(e b h4).trans h3,h4,h5⟩
theorem DecM.role {ρ ρ':Nat→Nat} {k B n:Nat} {d:Nat→Option (List Nat)} {w:World} (h:DecM ρ k B n d w) (e:∀b,b<w.heap.size→ρ' b=ρ b):DecM ρ' k B n d w:=by
 obtain⟨h0,vs,h1,h2,h3⟩:=h
 exact⟨(e B h1.lt).trans h0,vs,h1,h2,fun x v l hv hl=>(h3 x v l hv hl).role e⟩
theorem own_role {ρ ρ':Nat→Nat} {k:Nat} {E:TypeId} {sz n:Nat} {v:Value} {xs:List Value} {w:World} (h:OwnS (fun b=>ρ b=k) E sz v n xs w) (e:∀b,b<w.heap.size→ρ' b=ρ b):OwnS (fun b=>ρ' b=k) E sz v n xs w :=
 ⟨h.1,fun b hb=>(e b (h.1.lt b hb).2).trans (h.2 b hb)⟩
structure RdW (B0:Nat) (ρ:Nat→Nat) (R:RdB) (line n m:Nat) (S:RdS) (cv kv:Value) (w:World):Prop where
 hr:∀b,ρ b≠0→B0≤b
 hB:B0≤w.heap.size
 g:ρ R.g=1
 cell:w.heap[R.g]? = some (.cells (cellsR R line cv kv) 73 (0,0))
 c:OwnS (fun b=>ρ b=2) 126 3 cv S.cs.length (rwE S.cs) w
 k:OwnS (fun b=>ρ b=3) 126 3 kv S.ks.length (rwE S.ks) w
 d:DecM ρ 4 R.bd n S.ds w
 f:DecM ρ 5 R.bf n S.fs w
 l:ρ R.bl=6∧MapG Tryz.prog 21 R.bl n (ptF (lsV S.ls)) w
 e:ρ R.bn=7∧MapG Tryz.prog 21 R.bn m (ptF (leV S.le)) w
 s:ρ R.bs=8∧MapG Tryz.prog 9 R.bs 4 (saysF R.g) w
variable {B0:Nat} {ρ:Nat→Nat} {R:RdB} {line n m:Nat} {S:RdS} {cv kv:Value} {w w':World}
theorem RdW.gl (h:RdW B0 ρ R line n m S cv kv w):R.g<w.heap.size:=(Array.getElem?_eq_some_iff.1 h.cell).1
theorem RdW.role {ρ':Nat→Nat} (h:RdW B0 ρ R line n m S cv kv w) (e:∀b,b<w.heap.size→ρ' b=ρ b) (h0:∀b,w.heap.size≤b→ρ' b≠0→B0≤b):RdW B0 ρ' R line n m S cv kv w where
 hr b hb:=by
  by_cases h1:b<w.heap.size
  ·exact h.hr b (by rw[←e b h1];exact hb)
  ·exact h0 b (by omega) hb
 hB:=h.hB
 g:=(e _ h.gl).trans h.g
 cell:=h.cell
 c:=own_role h.c e
 k:=own_role h.k e
 d:=h.d.role e
 f:=h.f.role e
 l:=⟨(e _ h.l.2.lt).trans h.l.1,h.l.2⟩
 e:=⟨(e _ h.e.2.lt).trans h.e.1,h.e.2⟩
 s:=⟨(e _ h.s.2.lt).trans h.s.1,h.s.2⟩
def moreR (w:World) (ρ:Nat→Nat) (k:Nat):Nat→Nat:=fun b=>if b<w.heap.size then ρ b else k
theorem moreR_old {k:Nat} (b:Nat) (h:b<w.heap.size):moreR w ρ k b=ρ b:=if_pos h
theorem moreR_new {k:Nat} (b:Nat) (h:w.heap.size≤b):moreR w ρ k b=k:=if_neg (by omega)
theorem RdW.role_more (h:RdW B0 ρ R line n m S cv kv w) (k:Nat):RdW B0 (moreR w ρ k) R line n m S cv kv w :=
 h.role (fun b hb=>moreR_old b hb) (fun _ hb _=>Nat.le_trans h.hB hb)
theorem RdW.keep {X:Nat→Prop} (h:RdW B0 ρ R line n m S cv kv w) (hk:Keep X w w') (hX:∀b,¬X b):RdW B0 ρ R line n m S cv kv w' where
 hr:=h.hr
 hB:=Nat.le_trans h.hB hk.size
 g:=h.g
 cell:=hk.heap h.cell (hX _)
 c:=h.c.keep hk (fun b hb=>(hX b hb).elim)
 k:=h.k.keep hk (fun b hb=>(hX b hb).elim)
 d:=h.d.keep hk (fun b hb=>(hX b hb).elim)
 f:=h.f.keep hk (fun b hb=>(hX b hb).elim)
 l:=⟨h.l.1,h.l.2.keep hk (hX _)⟩
 e:=⟨h.e.1,h.e.2.keep hk (hX _)⟩
 s:=⟨h.s.1,h.s.2.keep hk (hX _)⟩
theorem RdW.below (h:RdW B0 ρ R line n m S cv kv w) (hb:Below w.heap.size w w'):RdW B0 ρ R line n m S cv kv w':=h.keep (X:=fun _=>False) (Keep.of_all hb) (fun _ h=>h)
theorem RdW.newc (h:RdW B0 ρ R line n m S cv kv w) {v':Value} {cs':List (Nat × Nat × Int)} (hk:Keep (fun b=>b=R.g∨cv.ownBlock=some b) w w') (hc:w'.heap[R.g]? = some (.cells (cellsR R line v' kv) 73 (0,0)))
 (ho:OwnS (fun b=>(cv.ownBlock=some b∨w.heap.size≤b)∧b≠R.g) 126 3 v' cs'.length (rwE cs') w'):RdW B0 (moreR w ρ 2) R line n m { S with cs:=cs' } v' kv w':=by
 have H:=h.role_more 2
 have hX:∀b,(b=R.g∨cv.ownBlock=some b)→moreR w ρ 2 b=1∨moreR w ρ 2 b=2:=fun b hb=>by
  rcases hb with rfl|hb
  ·exact .inl H.g
  ·exact .inr (H.c.2 b hb)
 exact {
  hr:=H.hr,hB:=Nat.le_trans h.hB hk.size,g:=H.g,cell:=hc
  c:=ho.weaken (fun b hb=>by
   rcases hb.1 with h1|h1
   ·exact H.c.2 b h1
   ·exact moreR_new b h1)
  k:=H.k.keep hk (fun b hb h3=>by have:=hX b hb;omega)
  d:=H.d.keep hk (fun b hb=>by have:=hX b hb;omega)
  f:=H.f.keep hk (fun b hb=>by have:=hX b hb;omega)
  l:=⟨H.l.1,H.l.2.keep hk (fun hb=>by have:=hX _ hb;have:=H.l.1;omega)⟩
  e:=⟨H.e.1,H.e.2.keep hk (fun hb=>by have:=hX _ hb;have:=H.e.1;omega)⟩
  s:=⟨H.s.1,H.s.2.keep hk (fun hb=>by have:=hX _ hb;have:=H.s.1;omega)⟩ }
theorem RdW.newk (h:RdW B0 ρ R line n m S cv kv w) {v':Value} {cs':List (Nat × Nat × Int)} (hk:Keep (fun b=>b=R.g∨kv.ownBlock=some b) w w') (hc:w'.heap[R.g]? = some (.cells (cellsR R line cv v') 73 (0,0)))
 (ho:OwnS (fun b=>(kv.ownBlock=some b∨w.heap.size≤b)∧b≠R.g) 126 3 v' cs'.length (rwE cs') w'):RdW B0 (moreR w ρ 3) R line n m { S with ks:=cs' } cv v' w':=by
 have H:=h.role_more 3
 have hX:∀b,(b=R.g∨kv.ownBlock=some b)→moreR w ρ 3 b=1∨moreR w ρ 3 b=3:=fun b hb=>by
  rcases hb with rfl|hb
  ·exact .inl H.g
  ·exact .inr (H.k.2 b hb)
 exact {
  hr:=H.hr,hB:=Nat.le_trans h.hB hk.size,g:=H.g,cell:=hc
  k:=ho.weaken (fun b hb=>by
   rcases hb.1 with h1|h1
   ·exact H.k.2 b h1
   ·exact moreR_new b h1)
  c:=H.c.keep hk (fun b hb h3=>by have:=hX b hb;omega)
  d:=H.d.keep hk (fun b hb=>by have:=hX b hb;omega)
  f:=H.f.keep hk (fun b hb=>by have:=hX b hb;omega)
  l:=⟨H.l.1,H.l.2.keep hk (fun hb=>by have:=hX _ hb;have:=H.l.1;omega)⟩
  e:=⟨H.e.1,H.e.2.keep hk (fun hb=>by have:=hX _ hb;have:=H.e.1;omega)⟩
  s:=⟨H.s.1,H.s.2.keep hk (fun hb=>by have:=hX _ hb;have:=H.s.1;omega)⟩ }
def RdOut (B0:Nat) (ρ:Nat→Nat) (R:RdB) (line n m no:Nat) (E:RdS) (w:World) (e:Ending) (w':World):Prop :=
 e = .returned (.int .i64 (no:Nat))∧Keep (fun b=>ρ b≠0∧ρ b≠9) w w'∧∃ρ' S' cv' kv',RdW B0 ρ' R line n m S' cv' kv' w'∧(∀b,b<w.heap.size→ρ' b=ρ b)∧(no=0→S'=E)
end Go.Proofs.YtgpbaeehajkebaaGreatDoor
namespace Go.Proofs.YtgpbaeehajkebaaGreatDoor
open Go Go.RowKit Go.Kt Go.Kt.Rg Go.Maps
theorem tinfoRow:(Tryz.prog.info? 126).map (fun i=>(i.zero,i.size,i.bytes))=some (some (.agg #[.int .i32 0,.int .i32 0,.int .i64 0]),3,16):=by kernel_rfl
def kndZ (l:List UInt8):Nat × Int:=((kndP l).1,((kndP l).2:Nat))
theorem own_slc {Y:Nat→Prop} {e:TypeId} {size n:Nat} {v:Value} {xs:List Value} {W:World} (h:OwnS Y e size v n xs W):∃ao cap,v = .slice ao n cap:=by
 rcases h.1.2 with ⟨rfl,rfl⟩|⟨g,cap,cur,rfl,_⟩
 ·exact⟨_,_,rfl⟩
 ·exact⟨_,_,rfl⟩
set_option maxRecDepth 100000 in
set_option maxHeartbeats 4000000 in
theorem pclassR {B0:Nat} {ρ:Nat→Nat} {R:RdB} {line n m:Nat} {S:RdS} {cv kv:Value} (w:World) (hR:RdW B0 ρ R line n m S cv kv w) (ws:List (List UInt8)) (sv:Value) (hS:StrS sv ws w) (hz:∀x∈ws,x≠[]∧x.length≤1048576) (h2:2≤ws.length) (hE:PEnv w) (hm:S.cs.length≤65536) :
 Calls Tryz.prog 53 #[.pointer (some ⟨R.g,0,none⟩),sv] w fun e w'=>RdOut B0 ρ R line n m (rowP clsP ws).1 { S with cs:=S.cs++[(rowP clsP ws).2] } w e w':=by
 have hx1:ws.getD 1 []∈ws:=by rw[List.getD_eq_getElem?_getD,List.getElem?_eq_getElem (by omega)];exact List.getElem_mem _
 have CR:=Lib.hid (prow 90 (fun _ _=>rfl) clsP ws sv w hS (fun x hx=>(hz x hx).2) h2 hE (fun W hW=>(pclass ⟨(ws.getD 1 []).toArray⟩ W (by rw[bsize];have:=(hz _ hx1).2;omega) (by simpa using (hz _ hx1).1) (hE.v.below hW)).mono (fun e w' h=>by simpa using h)))
 obtain⟨⟨no,lo,hi,vv⟩,hP⟩:∃z,rowP clsP ws=z:=⟨_,rfl⟩
 rw[hP] at CR ⊢
 clear hP hS hz h2 hx1
 have HR:=Lib.hid hR
 have HE:=Lib.hid hE
 clear hR hE
 go_enter Tryz.func53,Tryz.ntmps53
 go_wp2_with fail
 refine CR.out.mono ?_
 rintro e w1 ⟨rfl,hb1⟩
 obtain⟨xb,hxb⟩:∃xb,w1.heap.size=xb:=⟨_,rfl⟩
 obtain⟨W1,hW1⟩:∃W1,w1.alloc (.cells #[.int .i32 lo,.int .i32 hi,.int .i64 vv] 126)=W1:=⟨_,rfl⟩
 have hb2:Below w.heap.size w W1:=by rw[←hW1];exact hb1.alloc hb1.size _
 have HRD:Hid (RdW B0 ρ R line n m S cv kv W1):=Lib.hid (HR.out.below hb2)
 have HB:=Lib.hid hb2
 have HXB:Hid (W1.heap[xb]? = some (.cells #[.int .i32 lo,.int .i32 hi,.int .i64 vv] 126 (0,0))∧xb≠R.g∧(cv:Value).ownBlock≠some xb):=Lib.hid (by
  have h1:=HR.out.gl
  have h2:=hb1.size
  refine⟨by rw[←hW1,←hxb];exact heap_alloc_new _ _,by omega,fun h=>?_⟩
  have:=(HR.out.c.1.lt _ h).2
  omega)
 have hown:OwnS (fun b=>ρ b=2) 126 3 cv S.cs.length (rwE S.cs) W1:=HRD.out.c
 by_cases h0:no=0
 ·subst h0
  have HQ:Hid (S.cs.length=S.cs.length):=Lib.hid rfl
  obtain⟨q,hq⟩:∃q,S.cs.length=q:=⟨_,rfl⟩
  obtain⟨xs,hxs⟩:∃xs,S.cs=xs:=⟨_,rfl⟩
  have HXS:=Lib.hid hxs
  have HQL:=Lib.hid hq
  rw[hq] at hm
  rw[hq,hxs] at hown
  clear hq hxs HQ
  go_wp2_with (first|rw[hxb,hW1]|fail)
  have hkg:(cv:Value).ownBlock≠some R.g:=fun h=>by have h9:=hown.2 _ h;have h8:=HRD.out.g;simp only at h9;omega
  have hkv:∀b,(cv:Value).ownBlock=some b→b<W1.heap.size:=fun b h=>(hown.1.lt b h).2
  have hgl:R.g<W1.heap.size:=HRD.out.gl
  have hxg:xb≠R.g∧(cv:Value).ownBlock≠some xb:=HXB.out.2
  have hcg:W1.heap[R.g]? = some (.cells (cellsR R line cv kv) 73 (0,0)):=HRD.out.cell
  have hfa:∀X:World,(Instr.fieldAt 73 (.pointer (some ⟨R.g,0,none⟩)) 2).run Tryz.prog X = .ok (.pointer (some ⟨R.g,2,none⟩)) X:=fun X=>by go_simp
  have hls:∀X:World,X.heap[R.g]? = some (.cells (cellsR R line cv kv) 73 (0,0))→(Instr.loadAt 69 (.pointer (some ⟨R.g,2,none⟩))).run Tryz.prog X = .ok (cv) X:=fun X h=>by
   have q:X.cell? ⟨R.g,2,none⟩=some (cv):=by rw[Lib.cell_of_heap h];rfl
   obtain⟨ao4,cp4,hk4⟩:=own_slc hown
   rw[hk4] at q ⊢
   go_simp
  have hlx:∀X,Keep (fun b=>b=R.g∨(cv:Value).ownBlock=some b) W1 X→(Instr.loadAt 126 (.pointer (some ⟨xb,0,none⟩))).run Tryz.prog X = .ok (.agg #[.int .i32 lo,.int .i32 hi,.int .i64 vv]) X:=fun X hX=>by
   have q:=hX.heap HXB.out.1 (fun e=>by rcases e with e|e;exact hxg.1 e;exact hxg.2 e)
   have q0:X.cell? ⟨xb,0,none⟩=some (.int .i32 lo):=by rw[Lib.cell_of_heap q];rfl
   have q1:X.cell? ⟨xb,1,none⟩=some (.int .i32 hi):=by rw[Lib.cell_of_heap q];rfl
   have q2:X.cell? ⟨xb,2,none⟩=some (.int .i64 vv):=by rw[Lib.cell_of_heap q];rfl
   go_simp
  have BS:∀W:World,(Instr.buildSlice 69 1 #[(0,.agg #[.int .i32 lo,.int .i32 hi,.int .i64 vv])]).run Tryz.prog W = .ok (.slice (some ⟨W.heap.size,0,none⟩) 1 1) (W.alloc (.cells #[.int .i32 lo,.int .i32 hi,.int .i64 vv] 126)):=fun W=>by go_simp
  have ST:∀(W:World) (ao9:Option Addr) (m2 cap:Nat),W.heap[R.g]? = some (.cells (cellsR R line cv kv) 73 (0,0))→(Instr.storeAt 69 (.pointer (some ⟨R.g,2,none⟩)) (.slice ao9 m2 cap)).run Tryz.prog W = .ok () (W.setCell ⟨R.g,2,none⟩ (.slice ao9 m2 cap)):=fun W ao9 m2 cap h=>by
   have q:W.cell? ⟨R.g,2,none⟩=some (cv):=by rw[Lib.cell_of_heap h];rfl
   have q2:W.frozen? ⟨R.g,2,none⟩=false:=Lib.frozen_of_heap h _
   go_simp
  have S1:∀ {W:World} {u:Value},W.heap[R.g]? = some (.cells (cellsR R line cv kv) 73 (0,0))→(W.setCell ⟨R.g,2,none⟩ u).heap[R.g]? = some (.cells (cellsR R line u kv) 73 (0,0)):=fun {W} {u} h=>by
   have:=heap_setCell_same W R.g 2 _ _ u h
   simpa [cellsR] using this
  obtain⟨ti,hti,hz,hs1,hbt⟩:=info_parts tinfoRow
  have HI2:=And.intro hti (And.intro hz (And.intro hs1 hbt))
  have HOC:∀z∈([.int .i32 lo,.int .i32 hi,.int .i64 vv]:List Value),z.oneCell'=true:=by intro z hz;simp at hz;rcases hz with rfl|rfl|rfl <;> rfl
  have HM1:q+1≤maxLen:=by unfold maxLen;omega
  have HM2:(q+1)*16≤140737488355328:=by omega
  obtain⟨FF,hFF⟩:∃FF:FldR,FF=⟨R.g,W1,cv,126,3,q,q+1,rwE xs,rwE xs++[.int .i32 lo,.int .i32 hi,.int .i64 vv],73,fun u=>cellsR R line u kv,#[.int .i32 lo,.int .i32 hi,.int .i64 vv],7,10,6,fun z=>match z with|0=>some (.pointer (some ⟨R.g,0,none⟩))|1=>some (.pointer (some ⟨R.g,0,none⟩))|2=>some (.pointer (some ⟨R.g,0,none⟩))|3=>some (.pointer (some ⟨R.g,2,none⟩))|4=>some (cv)|5=>some (.agg #[.int .i32 lo,.int .i32 hi,.int .i64 vv])|8=>some (.pointer (some ⟨R.g,0,none⟩))|9=>some (.pointer (some ⟨R.g,2,none⟩))|_=>none⟩:=⟨_,rfl⟩
  have H0:FldR.S FF (fun _=>false) W1.drew:=by rw[hFF];exact⟨fun _=>hcg,fun _=>OwnS.weaken (show OwnS (fun b=>ρ b=2) _ _ _ _ _ W1.drew from hown) (fun b h=>by intro e;subst e;have h9:ρ R.g=2:=h;have h8:=HRD.out.g;omega),(Keep.refl _ W1).drew⟩
  refine wp_region_done (FldR.S FF) (FldR.P FF) (by kernel_rfl) (by kernel_rfl) (by kernel_rfl) H0 ?hs ?hd
  case hs =>
   rw[hFF]
   refine DSteps.cons ?_ (DSteps.cons ?_ (DSteps.cons ?_ (DSteps.cons ?_ (DSteps.cons ?_ (DSteps.cons ?_ (DSteps.cons ?_ (DSteps.cons ?_ (DSteps.cons ?_ (DSteps.cons ?_ (DSteps.cons ?_ (DSteps.nil)))))))))))
   ·intro D2 a X hDi hDa _ hX hL hd
    refine⟨rfl,?_⟩
    have e0:a.eval (.tmp 0) = .pointer (some ⟨R.g,0,none⟩):=hL.far 0 (by kernel_rfl)
    exact wp_value (exec_move rfl e0) ⟨_,rfl,hX.more,fun _ _ _ h=>h,FldR.P.mk rfl ⟨by simp,by simp,by simp⟩⟩
   ·intro D2 a X hDi hDa _ hX hL hd
    refine⟨rfl,?_⟩
    have e0:a.eval (.tmp 0) = .pointer (some ⟨R.g,0,none⟩):=hL.far 0 (by kernel_rfl)
    exact wp_value (exec_move rfl e0) ⟨_,rfl,hX.more,fun _ _ _ h=>h,FldR.P.mk rfl ⟨by simp,by simp,by simp⟩⟩
   ·intro D2 a X hDi hDa _ hX hL hd
    refine⟨rfl,?_⟩
    have e0:a.eval (.tmp 15) = .pointer (some ⟨R.g,0,none⟩):=(hd 1 15 (by kernel_rfl) (by kernel_rfl)).is rfl
    exact wp_value (exec_nilCheck rfl e0) ⟨_,rfl,hX.more,fun _ _ _ h=>h,FldR.P.mk rfl ⟨by simp,by simp,by simp⟩⟩
   ·intro D2 a X hDi hDa _ hX hL hd
    refine⟨rfl,?_⟩
    have e0:a.eval (.tmp 16) = .pointer (some ⟨R.g,0,none⟩):=(hd 2 16 (by kernel_rfl) (by kernel_rfl)).is rfl
    exact wp_value (exec_fieldAddr rfl e0 (hfa X)) ⟨_,rfl,hX.more,fun _ _ _ h=>h,FldR.P.mk rfl ⟨by simp,by simp,by simp⟩⟩
   ·intro D2 a X hDi hDa _ hX hL hd
    refine⟨rfl,?_⟩
    have e0:a.eval (.tmp 17) = .pointer (some ⟨R.g,2,none⟩):=(hd 3 17 (by kernel_rfl) (by kernel_rfl)).is rfl
    exact wp_value (exec_load rfl e0 (hls X (hX.1 (hDa 10 (by kernel_rfl))))) ⟨_,rfl,hX.more,fun _ _ _ h=>h,FldR.P.mk rfl ⟨by simp,by simp,by simp⟩⟩
   ·intro D2 a X hDi hDa _ hX hL hd
    refine⟨rfl,?_⟩
    have e0:a.eval (.tmp 5) = .pointer (some ⟨xb,0,none⟩):=hL.far 5 (by kernel_rfl)
    exact wp_value (exec_load rfl e0 (hlx X hX.2.2)) ⟨_,rfl,hX.more,fun _ _ _ h=>h,FldR.P.mk rfl ⟨by simp,by simp,by simp⟩⟩
   ·intro D2 a X hDi hDa _ hX hL hd
    refine⟨rfl,?_⟩
    have e0:a.eval (.tmp 19) = .agg #[.int .i32 lo,.int .i32 hi,.int .i64 vv]:=(hd 5 19 (by kernel_rfl) (by kernel_rfl)).is rfl
    refine wp_value (exec_buildSlice rfl (ps:=#[(0,.agg #[.int .i32 lo,.int .i32 hi,.int .i64 vv])]) (by simp only[List.map_toArray,List.map_cons,List.map_nil,e0] <;> rfl) (BS X)) ⟨_,rfl,(hX.below ((Below.refl _ X).alloc (Nat.le_refl _) _)).more,fun _ _ _ h=>h.below ((Below.refl _ X).alloc (Nat.le_refl _) _),FldR.P.bs rfl ⟨by simp,by simp⟩ ⟨X.heap.size,rfl,alloc_at rfl,hX.2.2.size⟩⟩
   ·intro D2 a X hDi hDa _ hX hL hd
    refine⟨rfl,?_⟩
    have e0:a.eval (.tmp 18)=cv:=(hd 4 18 (by kernel_rfl) (by kernel_rfl)).is rfl
    obtain⟨b2,hb1,hb2,hb3⟩:=(hd 6 20 (by kernel_rfl) (by kernel_rfl)).2.1 rfl
    have h28:=hDa 10 (by kernel_rfl)
    have hown:=hX.2.1 hDi
    refine wp_append_lies X (.tmp 18) (.tmp 20) 69 rfl 0 126 ti (.agg #[.int .i32 0,.int .i32 0,.int .i64 0]) 3 16 Tryz.underlying69 HI2.1 HI2.2.1 HI2.2.2.1 HI2.2.2.2 rfl (by decide) (cv) q (rwE xs) e0 hown.1 ⟨b2,0,none⟩ 1 1 [.int .i32 lo,.int .i32 hi,.int .i64 vv] hb1 rfl (World.news_of_block hb2) HOC (by decide) HM1 HM2 (Nat.zero_le _) _ rfl ?_
    intro g2 cap2 X2 hown2 hgrow hat hlt2
    exact⟨_,rfl,hX.app hkg h28 (keep_grown hgrow),fun j u hj h=>h.app hkv (keep_grown hgrow) (fun e=>by subst e;rw[hDi] at hj;cases hj) (fun e=>by subst e;rw[h28] at hj;cases hj),FldR.P.row rfl ⟨by simp,by simp⟩ (FldR.row_of (ln:=q+1) hX.2.2.size hgl hkg ⟨hown2,fun y hy=>by
     have:g2=y:=by simpa [Value.ownBlock] using hy
     subst this
     rcases hat with h|h
     ·exact .inl h
     ·exact .inr (by omega)⟩ rfl)⟩
   ·intro D2 a X hDi hDa _ hX hL hd
    refine⟨rfl,?_⟩
    have e0:a.eval (.tmp 14) = .pointer (some ⟨R.g,0,none⟩):=(hd 0 14 (by kernel_rfl) (by kernel_rfl)).is rfl
    exact wp_value (exec_nilCheck rfl e0) ⟨_,rfl,hX.more,fun _ _ _ h=>h,FldR.P.mk rfl ⟨by simp,by simp,by simp⟩⟩
   ·intro D2 a X hDi hDa _ hX hL hd
    refine⟨rfl,?_⟩
    have e0:a.eval (.tmp 22) = .pointer (some ⟨R.g,0,none⟩):=(hd 8 22 (by kernel_rfl) (by kernel_rfl)).is rfl
    exact wp_value (exec_fieldAddr rfl e0 (hfa X)) ⟨_,rfl,hX.more,fun _ _ _ h=>h,FldR.P.mk rfl ⟨by simp,by simp,by simp⟩⟩
   ·intro D2 a X hDi hDa _ hX hL hd
    refine⟨rfl,?_⟩
    have e0:a.eval (.tmp 23) = .pointer (some ⟨R.g,2,none⟩):=(hd 9 23 (by kernel_rfl) (by kernel_rfl)).is rfl
    obtain⟨ao3,ln,cp3,he,ho⟩:=(hd 7 21 (by kernel_rfl) (by kernel_rfl)).2.2.1 rfl
    have hc:=hX.1 hDi
    exact wp_skipped (exec_store rfl e0 he (ST X _ _ _ hc)) ⟨undef,rfl,hX.store,fun j u hj h=>h.store hgl (fun e=>by subst e;rw[hDi] at hj;cases hj),FldR.P.last rfl ⟨by simp,by simp⟩ ⟨_,FldR.Row.store ⟨ao3,ln,cp3,rfl,by rw[←he];exact ho⟩,S1 hc⟩⟩
  case hd =>
   intro D2 a X hAll hX hL hP hE
   obtain⟨_,hp⟩:=hE 10 (by decide)
   rw[hFF] at hp hX
   obtain⟨u,⟨ao2,ln,cp2,hu0,ho⟩,hu⟩:=hp.2.2.2 rfl
   simp only at ho hu
   have hK:=hX.2.2
   obtain⟨f,ha,hf⟩:=hL.out [14,15,16,17,18,19,20,21,22,23] rfl
   have HF:=Lib.hid (And.intro ho (And.intro hu hK))
   clear hf hAll hP hX hL hE hp ho hu hu0 hK S1 hfa hls hlx BS ST HI2 HOC HM1 HM2 H0 hFF hti hz hs1 hbt hown hkg hkv hxg hcg hgl
   simp only[List.foldl_cons,List.foldl_nil,List.setIfInBounds_toArray,List.set_cons_zero,List.set_cons_succ] at ha
   subst ha
   go_wp2
   go_ret
   obtain⟨ho,hu,hK⟩:=HF.out
   refine⟨rfl,?_,?_⟩
   ·exact (Keep.of_all HB.out).trans (hK.weaken (fun b _ hb=>by
    rcases hb with rfl|hb
    ·have h:=HRD.out.g
     constructor <;> omega
    ·have h:ρ b=2:=HRD.out.c.2 _ hb
     constructor <;> omega))
   ·have e:rwE (xs++[(lo,hi,vv)])=rwE xs++[.int .i32 lo,.int .i32 hi,.int .i64 vv]:=rwE_snoc _ _
    have hl:q+1=(xs++[(lo,hi,vv)]).length:=by rw[List.length_append,←HXS.out,HQL.out];rfl
    rw[←e,hl] at ho
    have hN:=HRD.out.newc hK hu ho
    rw[HXS.out]
    exact⟨_,_,_,_,hN,fun b hb=>moreR_old b (Nat.lt_of_lt_of_le hb HB.out.size),fun _=>rfl⟩
 ·have b1:((no:Int)==0)=false:=beq_eq_false_iff_ne.2 (by omega)
  clear hown
  go_wp2_with (rw[hxb,hW1])
  go_ret
  exact⟨rfl,Keep.of_all HB.out,ρ,S,cv,kv,HRD.out,fun _ _=>rfl,fun e=>absurd e h0⟩
set_option maxRecDepth 100000 in
set_option maxHeartbeats 4000000 in
theorem pkindR {B0:Nat} {ρ:Nat→Nat} {R:RdB} {line n m:Nat} {S:RdS} {cv kv:Value} (w:World) (hR:RdW B0 ρ R line n m S cv kv w) (ws:List (List UInt8)) (sv:Value) (hS:StrS sv ws w) (hz:∀x∈ws,x≠[]∧x.length≤1048576) (h2:2≤ws.length) (hE:PEnv w) (hm:S.ks.length≤65536) :
 Calls Tryz.prog 54 #[.pointer (some ⟨R.g,0,none⟩),sv] w fun e w'=>RdOut B0 ρ R line n m (rowP kndZ ws).1 { S with ks:=S.ks++[(rowP kndZ ws).2] } w e w':=by
 have hx1:ws.getD 1 []∈ws:=by rw[List.getD_eq_getElem?_getD,List.getElem?_eq_getElem (by omega)];exact List.getElem_mem _
 have CR:=Lib.hid (prow 91 (fun _ _=>rfl) kndZ ws sv w hS (fun x hx=>(hz x hx).2) h2 hE (fun W hW=>(pkind ⟨(ws.getD 1 []).toArray⟩ W (hE.k.below hW)).mono (fun e w' h=>⟨by simpa [kndZ] using h.1,by rw[h.2];exact Below.refl _ _⟩)))
 obtain⟨⟨no,lo,hi,vv⟩,hP⟩:∃z,rowP kndZ ws=z:=⟨_,rfl⟩
 rw[hP] at CR ⊢
 clear hP hS hz h2 hx1
 have HR:=Lib.hid hR
 have HE:=Lib.hid hE
 clear hR hE
 go_enter Tryz.func54,Tryz.ntmps54
 go_wp2_with fail
 refine CR.out.mono ?_
 rintro e w1 ⟨rfl,hb1⟩
 obtain⟨xb,hxb⟩:∃xb,w1.heap.size=xb:=⟨_,rfl⟩
 obtain⟨W1,hW1⟩:∃W1,w1.alloc (.cells #[.int .i32 lo,.int .i32 hi,.int .i64 vv] 126)=W1:=⟨_,rfl⟩
 have hb2:Below w.heap.size w W1:=by rw[←hW1];exact hb1.alloc hb1.size _
 have HRD:Hid (RdW B0 ρ R line n m S cv kv W1):=Lib.hid (HR.out.below hb2)
 have HB:=Lib.hid hb2
 have HXB:Hid (W1.heap[xb]? = some (.cells #[.int .i32 lo,.int .i32 hi,.int .i64 vv] 126 (0,0))∧xb≠R.g∧(kv:Value).ownBlock≠some xb):=Lib.hid (by
  have h1:=HR.out.gl
  have h2:=hb1.size
  refine⟨by rw[←hW1,←hxb];exact heap_alloc_new _ _,by omega,fun h=>?_⟩
  have:=(HR.out.k.1.lt _ h).2
  omega)
 have hown:OwnS (fun b=>ρ b=3) 126 3 kv S.ks.length (rwE S.ks) W1:=HRD.out.k
 by_cases h0:no=0
 ·subst h0
  have HQ:Hid (S.ks.length=S.ks.length):=Lib.hid rfl
  obtain⟨q,hq⟩:∃q,S.ks.length=q:=⟨_,rfl⟩
  obtain⟨xs,hxs⟩:∃xs,S.ks=xs:=⟨_,rfl⟩
  have HXS:=Lib.hid hxs
  have HQL:=Lib.hid hq
  rw[hq] at hm
  rw[hq,hxs] at hown
  clear hq hxs HQ
  go_wp2_with (first|rw[hxb,hW1]|fail)
  have hkg:(kv:Value).ownBlock≠some R.g:=fun h=>by have h9:=hown.2 _ h;have h8:=HRD.out.g;simp only at h9;omega
  have hkv:∀b,(kv:Value).ownBlock=some b→b<W1.heap.size:=fun b h=>(hown.1.lt b h).2
  have hgl:R.g<W1.heap.size:=HRD.out.gl
  have hxg:xb≠R.g∧(kv:Value).ownBlock≠some xb:=HXB.out.2
  have hcg:W1.heap[R.g]? = some (.cells (cellsR R line cv kv) 73 (0,0)):=HRD.out.cell
  have hfa:∀X:World,(Instr.fieldAt 73 (.pointer (some ⟨R.g,0,none⟩)) 3).run Tryz.prog X = .ok (.pointer (some ⟨R.g,3,none⟩)) X:=fun X=>by go_simp
  have hls:∀X:World,X.heap[R.g]? = some (.cells (cellsR R line cv kv) 73 (0,0))→(Instr.loadAt 69 (.pointer (some ⟨R.g,3,none⟩))).run Tryz.prog X = .ok (kv) X:=fun X h=>by
   have q:X.cell? ⟨R.g,3,none⟩=some (kv):=by rw[Lib.cell_of_heap h];rfl
   obtain⟨ao4,cp4,hk4⟩:=own_slc hown
   rw[hk4] at q ⊢
   go_simp
  have hlx:∀X,Keep (fun b=>b=R.g∨(kv:Value).ownBlock=some b) W1 X→(Instr.loadAt 126 (.pointer (some ⟨xb,0,none⟩))).run Tryz.prog X = .ok (.agg #[.int .i32 lo,.int .i32 hi,.int .i64 vv]) X:=fun X hX=>by
   have q:=hX.heap HXB.out.1 (fun e=>by rcases e with e|e;exact hxg.1 e;exact hxg.2 e)
   have q0:X.cell? ⟨xb,0,none⟩=some (.int .i32 lo):=by rw[Lib.cell_of_heap q];rfl
   have q1:X.cell? ⟨xb,1,none⟩=some (.int .i32 hi):=by rw[Lib.cell_of_heap q];rfl
   have q2:X.cell? ⟨xb,2,none⟩=some (.int .i64 vv):=by rw[Lib.cell_of_heap q];rfl
   go_simp
  have BS:∀W:World,(Instr.buildSlice 69 1 #[(0,.agg #[.int .i32 lo,.int .i32 hi,.int .i64 vv])]).run Tryz.prog W = .ok (.slice (some ⟨W.heap.size,0,none⟩) 1 1) (W.alloc (.cells #[.int .i32 lo,.int .i32 hi,.int .i64 vv] 126)):=fun W=>by go_simp
  have ST:∀(W:World) (ao9:Option Addr) (m2 cap:Nat),W.heap[R.g]? = some (.cells (cellsR R line cv kv) 73 (0,0))→(Instr.storeAt 69 (.pointer (some ⟨R.g,3,none⟩)) (.slice ao9 m2 cap)).run Tryz.prog W = .ok () (W.setCell ⟨R.g,3,none⟩ (.slice ao9 m2 cap)):=fun W ao9 m2 cap h=>by
   have q:W.cell? ⟨R.g,3,none⟩=some (kv):=by rw[Lib.cell_of_heap h];rfl
   have q2:W.frozen? ⟨R.g,3,none⟩=false:=Lib.frozen_of_heap h _
   go_simp
  have S1:∀ {W:World} {u:Value},W.heap[R.g]? = some (.cells (cellsR R line cv kv) 73 (0,0))→(W.setCell ⟨R.g,3,none⟩ u).heap[R.g]? = some (.cells (cellsR R line cv u) 73 (0,0)):=fun {W} {u} h=>by
   have:=heap_setCell_same W R.g 3 _ _ u h
   simpa [cellsR] using this
  obtain⟨ti,hti,hz,hs1,hbt⟩:=info_parts tinfoRow
  have HI2:=And.intro hti (And.intro hz (And.intro hs1 hbt))
  have HOC:∀z∈([.int .i32 lo,.int .i32 hi,.int .i64 vv]:List Value),z.oneCell'=true:=by intro z hz;simp at hz;rcases hz with rfl|rfl|rfl <;> rfl
  have HM1:q+1≤maxLen:=by unfold maxLen;omega
  have HM2:(q+1)*16≤140737488355328:=by omega
  obtain⟨FF,hFF⟩:∃FF:FldR,FF=⟨R.g,W1,kv,126,3,q,q+1,rwE xs,rwE xs++[.int .i32 lo,.int .i32 hi,.int .i64 vv],73,fun u=>cellsR R line cv u,#[.int .i32 lo,.int .i32 hi,.int .i64 vv],7,10,6,fun z=>match z with|0=>some (.pointer (some ⟨R.g,0,none⟩))|1=>some (.pointer (some ⟨R.g,0,none⟩))|2=>some (.pointer (some ⟨R.g,0,none⟩))|3=>some (.pointer (some ⟨R.g,3,none⟩))|4=>some (kv)|5=>some (.agg #[.int .i32 lo,.int .i32 hi,.int .i64 vv])|8=>some (.pointer (some ⟨R.g,0,none⟩))|9=>some (.pointer (some ⟨R.g,3,none⟩))|_=>none⟩:=⟨_,rfl⟩
  have H0:FldR.S FF (fun _=>false) W1.drew:=by rw[hFF];exact⟨fun _=>hcg,fun _=>OwnS.weaken (show OwnS (fun b=>ρ b=3) _ _ _ _ _ W1.drew from hown) (fun b h=>by intro e;subst e;have h9:ρ R.g=3:=h;have h8:=HRD.out.g;omega),(Keep.refl _ W1).drew⟩
  refine wp_region_done (FldR.S FF) (FldR.P FF) (by kernel_rfl) (by kernel_rfl) (by kernel_rfl) H0 ?hs ?hd
  case hs =>
   rw[hFF]
   refine DSteps.cons ?_ (DSteps.cons ?_ (DSteps.cons ?_ (DSteps.cons ?_ (DSteps.cons ?_ (DSteps.cons ?_ (DSteps.cons ?_ (DSteps.cons ?_ (DSteps.cons ?_ (DSteps.cons ?_ (DSteps.cons ?_ (DSteps.nil)))))))))))
   ·intro D2 a X hDi hDa _ hX hL hd
    refine⟨rfl,?_⟩
    have e0:a.eval (.tmp 0) = .pointer (some ⟨R.g,0,none⟩):=hL.far 0 (by kernel_rfl)
    exact wp_value (exec_move rfl e0) ⟨_,rfl,hX.more,fun _ _ _ h=>h,FldR.P.mk rfl ⟨by simp,by simp,by simp⟩⟩
   ·intro D2 a X hDi hDa _ hX hL hd
    refine⟨rfl,?_⟩
    have e0:a.eval (.tmp 0) = .pointer (some ⟨R.g,0,none⟩):=hL.far 0 (by kernel_rfl)
    exact wp_value (exec_move rfl e0) ⟨_,rfl,hX.more,fun _ _ _ h=>h,FldR.P.mk rfl ⟨by simp,by simp,by simp⟩⟩
   ·intro D2 a X hDi hDa _ hX hL hd
    refine⟨rfl,?_⟩
    have e0:a.eval (.tmp 15) = .pointer (some ⟨R.g,0,none⟩):=(hd 1 15 (by kernel_rfl) (by kernel_rfl)).is rfl
    exact wp_value (exec_nilCheck rfl e0) ⟨_,rfl,hX.more,fun _ _ _ h=>h,FldR.P.mk rfl ⟨by simp,by simp,by simp⟩⟩
   ·intro D2 a X hDi hDa _ hX hL hd
    refine⟨rfl,?_⟩
    have e0:a.eval (.tmp 16) = .pointer (some ⟨R.g,0,none⟩):=(hd 2 16 (by kernel_rfl) (by kernel_rfl)).is rfl
    exact wp_value (exec_fieldAddr rfl e0 (hfa X)) ⟨_,rfl,hX.more,fun _ _ _ h=>h,FldR.P.mk rfl ⟨by simp,by simp,by simp⟩⟩
   ·intro D2 a X hDi hDa _ hX hL hd
    refine⟨rfl,?_⟩
    have e0:a.eval (.tmp 17) = .pointer (some ⟨R.g,3,none⟩):=(hd 3 17 (by kernel_rfl) (by kernel_rfl)).is rfl
    exact wp_value (exec_load rfl e0 (hls X (hX.1 (hDa 10 (by kernel_rfl))))) ⟨_,rfl,hX.more,fun _ _ _ h=>h,FldR.P.mk rfl ⟨by simp,by simp,by simp⟩⟩
   ·intro D2 a X hDi hDa _ hX hL hd
    refine⟨rfl,?_⟩
    have e0:a.eval (.tmp 5) = .pointer (some ⟨xb,0,none⟩):=hL.far 5 (by kernel_rfl)
    exact wp_value (exec_load rfl e0 (hlx X hX.2.2)) ⟨_,rfl,hX.more,fun _ _ _ h=>h,FldR.P.mk rfl ⟨by simp,by simp,by simp⟩⟩
   ·intro D2 a X hDi hDa _ hX hL hd
    refine⟨rfl,?_⟩
    have e0:a.eval (.tmp 19) = .agg #[.int .i32 lo,.int .i32 hi,.int .i64 vv]:=(hd 5 19 (by kernel_rfl) (by kernel_rfl)).is rfl
    refine wp_value (exec_buildSlice rfl (ps:=#[(0,.agg #[.int .i32 lo,.int .i32 hi,.int .i64 vv])]) (by simp only[List.map_toArray,List.map_cons,List.map_nil,e0] <;> rfl) (BS X)) ⟨_,rfl,(hX.below ((Below.refl _ X).alloc (Nat.le_refl _) _)).more,fun _ _ _ h=>h.below ((Below.refl _ X).alloc (Nat.le_refl _) _),FldR.P.bs rfl ⟨by simp,by simp⟩ ⟨X.heap.size,rfl,alloc_at rfl,hX.2.2.size⟩⟩
   ·intro D2 a X hDi hDa _ hX hL hd
    refine⟨rfl,?_⟩
    have e0:a.eval (.tmp 18)=kv:=(hd 4 18 (by kernel_rfl) (by kernel_rfl)).is rfl
    obtain⟨b2,hb1,hb2,hb3⟩:=(hd 6 20 (by kernel_rfl) (by kernel_rfl)).2.1 rfl
    have h28:=hDa 10 (by kernel_rfl)
    have hown:=hX.2.1 hDi
    refine wp_append_lies X (.tmp 18) (.tmp 20) 69 rfl 0 126 ti (.agg #[.int .i32 0,.int .i32 0,.int .i64 0]) 3 16 Tryz.underlying69 HI2.1 HI2.2.1 HI2.2.2.1 HI2.2.2.2 rfl (by decide) (kv) q (rwE xs) e0 hown.1 ⟨b2,0,none⟩ 1 1 [.int .i32 lo,.int .i32 hi,.int .i64 vv] hb1 rfl (World.news_of_block hb2) HOC (by decide) HM1 HM2 (Nat.zero_le _) _ rfl ?_
    intro g2 cap2 X2 hown2 hgrow hat hlt2
    exact⟨_,rfl,hX.app hkg h28 (keep_grown hgrow),fun j u hj h=>h.app hkv (keep_grown hgrow) (fun e=>by subst e;rw[hDi] at hj;cases hj) (fun e=>by subst e;rw[h28] at hj;cases hj),FldR.P.row rfl ⟨by simp,by simp⟩ (FldR.row_of (ln:=q+1) hX.2.2.size hgl hkg ⟨hown2,fun y hy=>by
     have:g2=y:=by simpa [Value.ownBlock] using hy
     subst this
     rcases hat with h|h
     ·exact .inl h
     ·exact .inr (by omega)⟩ rfl)⟩
   ·intro D2 a X hDi hDa _ hX hL hd
    refine⟨rfl,?_⟩
    have e0:a.eval (.tmp 14) = .pointer (some ⟨R.g,0,none⟩):=(hd 0 14 (by kernel_rfl) (by kernel_rfl)).is rfl
    exact wp_value (exec_nilCheck rfl e0) ⟨_,rfl,hX.more,fun _ _ _ h=>h,FldR.P.mk rfl ⟨by simp,by simp,by simp⟩⟩
   ·intro D2 a X hDi hDa _ hX hL hd
    refine⟨rfl,?_⟩
    have e0:a.eval (.tmp 22) = .pointer (some ⟨R.g,0,none⟩):=(hd 8 22 (by kernel_rfl) (by kernel_rfl)).is rfl
    exact wp_value (exec_fieldAddr rfl e0 (hfa X)) ⟨_,rfl,hX.more,fun _ _ _ h=>h,FldR.P.mk rfl ⟨by simp,by simp,by simp⟩⟩
   ·intro D2 a X hDi hDa _ hX hL hd
    refine⟨rfl,?_⟩
    have e0:a.eval (.tmp 23) = .pointer (some ⟨R.g,3,none⟩):=(hd 9 23 (by kernel_rfl) (by kernel_rfl)).is rfl
    obtain⟨ao3,ln,cp3,he,ho⟩:=(hd 7 21 (by kernel_rfl) (by kernel_rfl)).2.2.1 rfl
    have hc:=hX.1 hDi
    exact wp_skipped (exec_store rfl e0 he (ST X _ _ _ hc)) ⟨undef,rfl,hX.store,fun j u hj h=>h.store hgl (fun e=>by subst e;rw[hDi] at hj;cases hj),FldR.P.last rfl ⟨by simp,by simp⟩ ⟨_,FldR.Row.store ⟨ao3,ln,cp3,rfl,by rw[←he];exact ho⟩,S1 hc⟩⟩
  case hd =>
   intro D2 a X hAll hX hL hP hE
   obtain⟨_,hp⟩:=hE 10 (by decide)
   rw[hFF] at hp hX
   obtain⟨u,⟨ao2,ln,cp2,hu0,ho⟩,hu⟩:=hp.2.2.2 rfl
   simp only at ho hu
   have hK:=hX.2.2
   obtain⟨f,ha,hf⟩:=hL.out [14,15,16,17,18,19,20,21,22,23] rfl
   have HF:=Lib.hid (And.intro ho (And.intro hu hK))
   clear hf hAll hP hX hL hE hp ho hu hu0 hK S1 hfa hls hlx BS ST HI2 HOC HM1 HM2 H0 hFF hti hz hs1 hbt hown hkg hkv hxg hcg hgl
   simp only[List.foldl_cons,List.foldl_nil,List.setIfInBounds_toArray,List.set_cons_zero,List.set_cons_succ] at ha
   subst ha
   go_wp2
   go_ret
   obtain⟨ho,hu,hK⟩:=HF.out
   refine⟨rfl,?_,?_⟩
   ·exact (Keep.of_all HB.out).trans (hK.weaken (fun b _ hb=>by
    rcases hb with rfl|hb
    ·have h:=HRD.out.g
     constructor <;> omega
    ·have h:ρ b=3:=HRD.out.k.2 _ hb
     constructor <;> omega))
   ·have e:rwE (xs++[(lo,hi,vv)])=rwE xs++[.int .i32 lo,.int .i32 hi,.int .i64 vv]:=rwE_snoc _ _
    have hl:q+1=(xs++[(lo,hi,vv)]).length:=by rw[List.length_append,←HXS.out,HQL.out];rfl
    rw[←e,hl] at ho
    have hN:=HRD.out.newk hK hu ho
    rw[HXS.out]
    exact⟨_,_,_,_,hN,fun b hb=>moreR_old b (Nat.lt_of_lt_of_le hb HB.out.size),fun _=>rfl⟩
 ·have b1:((no:Int)==0)=false:=beq_eq_false_iff_ne.2 (by omega)
  clear hown
  go_wp2_with (rw[hxb,hW1])
  go_ret
  exact⟨rfl,Keep.of_all HB.out,ρ,S,cv,kv,HRD.out,fun _ _=>rfl,fun e=>absurd e h0⟩
end Go.Proofs.YtgpbaeehajkebaaGreatDoor
namespace Go.Proofs.YtgpbaeehajkebaaGreatDoor
open Go Go.RowKit Go.Kt Go.Kt.Rg Go.Maps
structure LftA (n:Nat) (a:Nat→Nat):Prop where
 up:∀i,i<n→i≤a i∧a i<n
 gap:∀i,i<n→∀j,i≤j→j<a i→a j≠j
def LftW (b n:Nat) (P:Nat→Prop) (w:World):Prop :=
 ∃a:Nat→Nat,LftA n a∧(∀j,j<n→(P j↔a j=j))∧∀i,i<n→w.cell? ⟨b,i,none⟩=some (.int .i64 (a i:Nat))∧w.frozen? ⟨b,i,none⟩=false
theorem LftW.keep {b n:Nat} {P:Nat→Prop} {X:Nat→Prop} {A B:World} (h:LftW b n P A) (hk:Keep X A B) (hX:¬X b):LftW b n P B:=by
 obtain⟨a,h1,h2,h3⟩:=h
 exact⟨a,h1,h2,fun i hi=>⟨hk.cell (h3 i hi).1 hX,(hk.frozen (lt_of_cell (h3 i hi).1) hX).trans (h3 i hi).2⟩⟩
def updA (a:Nat→Nat) (x y:Nat):Nat→Nat:=fun i=>if i=x then y else a i
theorem updA_drop {n:Nat} {a:Nat→Nat} (h:LftA n a) {i:Nat} (hi:i+1<n):LftA n (updA a i (i+1)):=by
 refine⟨fun k hk=>?_,fun k hk j h1 h2=>?_⟩
 ·unfold updA
  split
  ·omega
  ·exact h.up k hk
 ·unfold updA at h2 ⊢
  split
  ·omega
  ·rename_i hj
   split at h2
   ·omega
   ·exact h.gap k hk j h1 h2
theorem updA_half {n:Nat} {a:Nat→Nat} (h:LftA n a) {i:Nat} (hi:i<n) (hne:a i≠i):LftA n (updA a i (a (a i)))∧i<a (a i)∧a (a i)<n:=by
 have h1:=h.up i hi
 have h2:=h.up (a i) h1.2
 refine⟨⟨fun k hk=>?_,fun k hk j h3 h4=>?_⟩,by omega,h2.2⟩
 ·unfold updA
  split
  ·omega
  ·exact h.up k hk
 ·unfold updA at h4 ⊢
  split
  ·omega
  ·rename_i hj
   split at h4
   ·rename_i hki
    by_cases h5:j<a i
    ·exact h.gap i hi j (by omega) h5
    ·exact h.gap (a i) h1.2 j (by omega) h4
   ·exact h.gap k hk j h3 h4
theorem cells_upd {b n:Nat} {a:Nat→Nat} {w:World} (h:∀i,i<n→w.cell? ⟨b,i,none⟩=some (.int .i64 (a i:Nat))∧w.frozen? ⟨b,i,none⟩=false) {x:Nat} (hx:x<n) (y:Nat) :
 ∀i,i<n→(w.setCell ⟨b,x,none⟩ (.int .i64 (y:Nat))).cell? ⟨b,i,none⟩=some (.int .i64 (updA a x y i:Nat))∧(w.setCell ⟨b,x,none⟩ (.int .i64 (y:Nat))).frozen? ⟨b,i,none⟩=false:=fun i hi=>by
 refine⟨?_,?_⟩
 ·unfold updA
  by_cases e:i=x
  ·subst e
   rw[if_pos rfl]
   exact World.cell?_setCell_same _ _ _ (h i hi).1
  ·rw[if_neg e]
   exact (World.cell?_setCell_other _ _ _ _ (by intro h;injection h with _ h2 _;exact e h2.symm)).trans (h i hi).1
 ·rw[World.frozen?_setCell]
  exact (h i hi).2
set_option maxRecDepth 100000 in
theorem pdrop (b n i cap:Nat) (P:Nat→Prop) (w:World) (h:LftW b n P w) (hi:i+1<n) (hn:n≤4611686018427387904) :
 Calls Tryz.prog 108 #[.slice (some ⟨b,0,none⟩) n cap,.int .i64 (i:Nat)] w fun e w'=>e = .returned (.tuple #[])∧LftW b n (fun j=>P j∧j≠i) w'∧Keep (fun x=>x=b) w w':=by
 obtain⟨a,h1,h2,h3⟩:=h
 have hc:=(h3 i (by omega)).1
 have hf:=(h3 i (by omega)).2
 have q1:IntKind.i64.wrap ((i:Int)+1)=((i+1:Nat):Int):=by rw[IntWalk.i64_in _ (by omega)];omega
 have q2:(i:Int)<(n:Int):=by omega
 have H:=Lib.hid (And.intro h1 (And.intro h2 h3))
 clear h1 h2 h3
 go_enter Tryz.func108,Tryz.ntmps108
 go_wp2
 go_end0
 have e:((i:Int)+1)=((i+1:Nat):Int):=by omega
 rw[e]
 refine⟨rfl,⟨_,updA_drop H.out.1 hi,fun j hj=>?_,cells_upd H.out.2.2 (by omega) (i+1)⟩,Keep.setCell (X:=fun x=>x=b) (Keep.refl _ w) (p:=⟨b,i,none⟩) rfl _⟩
 unfold updA
 by_cases e2:j=i
 ·rw[if_pos e2];exact⟨fun h=>absurd e2 h.2,fun h=>by omega⟩
 ·rw[if_neg e2];exact⟨fun h=>(H.out.2.1 j hj).1 h.1,fun h=>⟨(H.out.2.1 j hj).2 h,e2⟩⟩
def FromI (b n i:Nat) (P:Nat→Prop) (w:World) (i':Nat) (wr:World):Prop :=
 i≤i'∧i'<n∧(∀j,i≤j→j<i'→¬P j)∧LftW b n P wr∧Keep (fun x=>x=b) w wr
def FromOut (b n i:Nat) (P:Nat→Prop) (w:World) (e:Ending) (w':World):Prop :=
 ∃j:Nat,e = .returned (.int .i64 (j:Nat))∧FromI b n i P w j w'∧P j
set_option maxRecDepth 100000 in
set_option maxHeartbeats 2000000 in
theorem pfrom (b n i cap:Nat) (P:Nat→Prop) (w:World) (h:LftW b n P w) (hi:i<n) (_hn:n≤4611686018427387904) :
 Calls Tryz.prog 107 #[.slice (some ⟨b,0,none⟩) n cap,.int .i64 (i:Nat)] w fun e w'=>FromOut b n i P w e w':=by
 have H:=Lib.hid h
 clear h
 go_enter Tryz.func107,Tryz.ntmps107
 go_wp2_with fail
 go_loopw [1] (fun x wr=>∃i':Nat,x = .int .i64 i'∧FromI b n i P w i' wr) (fun x _=>n-(RowKit.intOf x).toNat)
 case atStart=>exact⟨i,rfl,Nat.le_refl _,hi,fun j h1 h2=>by omega,H.out,Keep.refl _ _⟩
 case round =>
  obtain⟨k,rfl,hI⟩:=hrel
  obtain⟨h1,h2,h3,⟨a,ha,hP,hc⟩,h5⟩:=hI
  have ck:=(hc k h2).1
  have fk:=(hc k h2).2
  have q2:(k:Int)<(n:Int):=by omega
  have HI:=Lib.hid (And.intro h1 (And.intro h3 (And.intro ha (And.intro hP (And.intro hc h5)))))
  by_cases e:a k=k
  ·have b1:(((a k:Nat):Int)!=(k:Int))=false:=by rw[e];simp
   clear h1 h3 ha hP hc h5 e
   go_wp2
   go_ret
   have e2:a k=k:=by
    have:((a k:Nat):Int)=(k:Int):=by simpa using b1
    omega
   exact⟨k,rfl,⟨HI.out.1,h2,HI.out.2.1,⟨a,HI.out.2.2.1,HI.out.2.2.2.1,HI.out.2.2.2.2.1⟩,HI.out.2.2.2.2.2⟩,(HI.out.2.2.2.1 k h2).2 e2⟩
  ·have b1:(((a k:Nat):Int)!=(k:Int))=true:=by simp;omega
   have hu:=ha.up k h2
   obtain⟨m,hm⟩:∃m,a k=m:=⟨_,rfl⟩
   have cm:=(hc (a k) hu.2).1
   obtain⟨z,hz⟩:∃z,a (a k)=z:=⟨_,rfl⟩
   have hh:=updA_half ha h2 e
   have HH:=Lib.hid hh
   have HE:=Lib.hid (And.intro e (And.intro hm hz))
   rw[hz] at cm
   rw[hm] at cm ck b1
   have q3:(m:Int)<(n:Int):=by omega
   clear h1 h3 ha hP hc h5 e hu hh hm hz
   go_wp2_with fail
   obtain⟨h1,h3,ha,hP,hc,h5⟩:=HI.out
   obtain⟨hh1,hh2,hh3⟩:=HH.out
   obtain⟨e,hm,hz⟩:=HE.out
   rw[hz] at hh1 hh2 hh3
   refine⟨⟨z,rfl,by omega,hh3,fun j hj1 hj2=>?_,⟨_,hh1,fun j hj=>?_,cells_upd hc h2 z⟩,Keep.setCell (X:=fun x=>x=b) h5 (p:=⟨b,k,none⟩) rfl _⟩,by simp[RowKit.intOf];omega⟩
   ·by_cases e1:j<k
    ·exact h3 j hj1 e1
    ·rw[hP j (by omega)]
     by_cases e2:j=k
     ·rw[e2];exact e
     ·have hz2:updA a k z k=z:=if_pos rfl
      have:=hh1.gap k h2 j (by omega) (by rw[hz2];exact hj2)
      rwa[show updA a k z j=a j from if_neg e2] at this
   ·rw[hP j hj]
    by_cases e2:j=k
    ·rw[e2,show updA a k z k=z from if_pos rfl]
     exact⟨fun h=>absurd h e,fun h=>by omega⟩
    ·rw[show updA a k z j=a j from if_neg e2]
set_option maxRecDepth 100000 in
set_option maxHeartbeats 2000000 in
theorem pallOf (n:Nat) (w:World) (h0:0<n) (hn:n≤16777216) :
 Calls Tryz.prog 104 #[.int .i64 (n:Nat)] w fun e w'=>e = .returned (.slice (some ⟨w.heap.size,0,none⟩) n n)∧LftW w.heap.size n (fun _=>True) w'∧Below w.heap.size w w'∧w.heap.size<w'.heap.size:=by
 obtain⟨h,hh⟩:∃h,w.heap.size=h:=⟨_,rfl⟩
 rw[hh]
 go_enter Tryz.func104,Tryz.ntmps104
 go_wp2_with (at_make;refine wpList_make_full _ rfl _ _ _ rfl w.heap.size 3 _ (.int .i64 0) 1 Tryz.underlying157 rfl rfl rfl .i64 .i64 _ _ n rfl rfl rfl rfl (by show 8*n≤_;omega) (by unfold maxLen;omega) (Nat.le_refl _) ?_;intro w1 hown1 hgr1)
 have H1:Hid (∃C:Array Value,Below h w w1∧w1.heap[h]? = some (.cells C 3 (0,0))∧C.size=n):=Lib.hid (by
  obtain⟨_,h2⟩:=hown1
  rcases h2 with ⟨h2,_⟩|⟨g2,c2,C,e2,_,h3,_,_,h4,_⟩
  ·cases h2
  ·injection e2 with e3 _ e4
   injection e3 with e3
   injection e3 with e3 _
   subst e3 e4
   rw[hh] at h3
   exact⟨C,⟨hgr1.os,hgr1.tape,hgr1.output,hgr1.size,fun x hx=>hgr1.block x (by omega) (fun e=>by cases e)⟩,h3,by omega⟩)
 clear hown1 hgr1
 go_loopw [9] (fun vk wr=>∃(k:Nat) (C:Array Value),vk = .int .i64 k∧k≤n∧Hid (Below h w wr∧wr.heap[h]? = some (.cells C 3 (0,0))∧C.size=n∧∀i,i<k→C[i]? = some (.int .i64 (i:Nat)))) (fun vk _=>n-(RowKit.intOf vk).toNat)
 case atStart =>
  obtain⟨C,a1,a2,a3⟩:=H1.out
  exact⟨0,C,rfl,by omega,Lib.hid ⟨a1,a2,a3,fun i hi=>by omega⟩⟩
 case round =>
  clear H1
  obtain⟨k,C,rfl,hk,HI⟩:=hrel
  by_cases hlt:k<n
  ·have hlt':(k:Int)<(n:Int):=by omega
   have ck:wr.cell? ⟨h,k,none⟩=some C[k]!:=by
    rw[Lib.cell_of_heap HI.out.2.1]
    have:=HI.out.2.2.1
    rw[getElem!_pos C k (by omega)]
    simp[show k<C.size by omega]
   have fk:wr.frozen? ⟨h,k,none⟩=false:=Lib.frozen_of_heap HI.out.2.1 _
   have hnew:=heap_setCell_same wr h k _ _ (.int .i64 (k:Nat)) HI.out.2.1
   have HN:=Lib.hid hnew
   clear hnew hlt
   go_wp2_with fail
   refine⟨⟨k+1,_,by go_num,by omega,Lib.hid ⟨HI.out.1.setCell (Nat.le_refl _) _,HN.out,by simp[HI.out.2.2.1],fun i hi=>?_⟩⟩,by simp[RowKit.intOf];omega⟩
   rw[Array.getElem?_setIfInBounds]
   by_cases e:k=i
   ·subst e
    rw[if_pos rfl,if_pos (by rw[HI.out.2.2.1];omega)]
   ·rw[if_neg e]
    exact HI.out.2.2.2 i (by omega)
  ·have hkn:k=n:=by omega
   subst hkn
   have hlt':¬(k:Int)<(k:Int):=by omega
   clear hlt
   go_wp2
   go_ret
   refine⟨rfl,⟨fun i=>i,⟨fun i hi=>⟨Nat.le_refl _,hi⟩,fun i hi j h1 h2=>by omega⟩,fun j hj=>⟨fun _=>rfl,fun _=>trivial⟩,fun i hi=>⟨?_,Lib.frozen_of_heap HI.out.2.1 _⟩⟩,HI.out.1,(Array.getElem?_eq_some_iff.1 HI.out.2.1).1⟩
   rw[Lib.cell_of_heap HI.out.2.1]
   exact HI.out.2.2.2 i hi
end Go.Proofs.YtgpbaeehajkebaaGreatDoor
namespace Go.Proofs.YtgpbaeehajkebaaGreatDoor
open Go Go.RowKit Go.Kt Go.Kt.Rg Go.Maps
theorem ptsA_ok:∀(ws:List (List UInt8)) (acc l:List Nat),ptsA acc ws=(0,l)→(∀x∈acc,Lib.validRune (x:Int)=true)→l.length=acc.length+ws.length∧∀x∈l,Lib.validRune (x:Int)=true
 | [],acc,l,h,ha=>by
   rw[ptsA] at h
   obtain⟨_,rfl⟩:=Prod.mk.inj h
   exact⟨by simp,ha⟩
 | x::t,acc,l,h,ha=>by
   cases hx:numP x with
   | none=>rw[ptsA_no hx] at h;cases h
   | some n =>
     cases hv:Lib.validRune (n:Int) with
     | false=>rw[ptsA_bad hx hv] at h;cases h
     | true =>
       rw[ptsA_go hx hv] at h
       obtain⟨h1,h2⟩:=ptsA_ok t (acc++[n]) l h (fun y hy=>by
        rcases List.mem_append.1 hy with hy|hy
        ·exact ha y hy
        ·rw[List.mem_singleton.1 hy];exact hv)
       exact⟨by rw[h1];simp;omega,h2⟩
theorem ptsP_ok {ws:List (List UInt8)} {l:List Nat} (h:ptsP ws=(0,l)):l.length=ws.length∧ws.length≤9∧∀x∈l,Lib.validRune (x:Int)=true:=by
 unfold ptsP at h
 by_cases h9:9<ws.length
 ·rw[if_pos h9] at h;cases h
 ·rw[if_neg h9] at h
  have:=ptsA_ok ws [] l h (fun _ h=>by cases h)
  exact⟨by simpa using this.1,by omega,this.2⟩
theorem valid_le {x:Nat} (h:Lib.validRune (x:Int)=true):x≤1114111:=by
 simp[Lib.validRune] at h
 omega
def foldP (S:RdS) (ws:List (List UInt8)):Nat × RdS:=match ptsP ws with
 | (0,x::t)=>if (S.fs x).isSome then (13,S) else (0,{ S with fs:=updN S.fs x t })
 | (no,_)=>(no,S)
def dcmP (line:Nat) (S:RdS) (ws:List (List UInt8)):Nat × RdS:=match ptsP ws with
 | (0,x::t)=>if (S.ds x).isSome then (13,S) else if hanP x then (1,S) else (0,{ S with ds:=updN S.ds x t,ls:=updN S.ls x line })
 | (no,_)=>(no,S)
theorem foldP_no {S:RdS} {ws:List (List UInt8)} {no:Nat} {l:List Nat} (h:ptsP ws=(no,l)) (h0:no≠0):foldP S ws=(no,S):=by
 unfold foldP
 rw[h]
 split
 ·rename_i e;exact absurd (Prod.mk.inj e).1 h0
 ·rename_i e;rw[(Prod.mk.inj e).1]
theorem dcmP_no {line:Nat} {S:RdS} {ws:List (List UInt8)} {no:Nat} {l:List Nat} (h:ptsP ws=(no,l)) (h0:no≠0):dcmP line S ws=(no,S):=by
 unfold dcmP
 rw[h]
 split
 ·rename_i e;exact absurd (Prod.mk.inj e).1 h0
 ·rename_i e;rw[(Prod.mk.inj e).1]
theorem DecM.mono {ρ:Nat→Nat} {k B n n':Nat} {d:Nat→Option (List Nat)} {w:World} (h:DecM ρ k B n d w) (hn:n≤n'):DecM ρ k B n' d w:=by
 obtain⟨h0,vs,h1,h2⟩:=h
 exact⟨h0,vs,h1.mono hn,h2⟩
theorem RdW.mono {B0:Nat} {ρ:Nat→Nat} {R:RdB} {line n n' m:Nat} {S:RdS} {cv kv:Value} {w:World} (h:RdW B0 ρ R line n m S cv kv w) (hn:n≤n'):RdW B0 ρ R line n' m S cv kv w :=
 ⟨h.hr,h.hB,h.g,h.cell,h.c,h.k,h.d.mono hn,h.f.mono hn,⟨h.l.1,h.l.2.mono hn⟩,h.e,h.s⟩
section
variable {B0:Nat} {ρ:Nat→Nat} {R:RdB} {line n m:Nat} {S:RdS} {cv kv:Value} {w w':World}
theorem RdW.newf (h:RdW B0 ρ R line n m S cv kv w) {fs':Nat→Option (List Nat)} (hk:Keep (fun b=>b=R.bf) w w') (hf:DecM ρ 5 R.bf (n+1) fs' w'):RdW B0 ρ R line (n+1) m { S with fs:=fs' } cv kv w':=by
 have H:=h.mono (Nat.le_succ n)
 have hX:∀b,b=R.bf→ρ b=5:=fun b e=>by rw[e];exact h.f.1
 exact {
  hr:=H.hr,hB:=Nat.le_trans h.hB hk.size,g:=H.g,cell:=hk.heap H.cell (fun e=>by have:=hX _ e;have:=H.g;omega)
  c:=H.c.keep hk (fun b hb h3=>by have:=hX b hb;omega)
  k:=H.k.keep hk (fun b hb h3=>by have:=hX b hb;omega)
  d:=H.d.keep hk (fun b hb=>by have:=hX b hb;omega)
  f:=hf
  l:=⟨H.l.1,H.l.2.keep hk (fun hb=>by have:=hX _ hb;have:=H.l.1;omega)⟩
  e:=⟨H.e.1,H.e.2.keep hk (fun hb=>by have:=hX _ hb;have:=H.e.1;omega)⟩
  s:=⟨H.s.1,H.s.2.keep hk (fun hb=>by have:=hX _ hb;have:=H.s.1;omega)⟩ }
theorem RdW.newd (h:RdW B0 ρ R line n m S cv kv w) {ds':Nat→Option (List Nat)} (hk:Keep (fun b=>b=R.bd) w w') (hf:DecM ρ 4 R.bd (n+1) ds' w'):RdW B0 ρ R line (n+1) m { S with ds:=ds' } cv kv w':=by
 have H:=h.mono (Nat.le_succ n)
 have hX:∀b,b=R.bd→ρ b=4:=fun b e=>by rw[e];exact h.d.1
 exact {
  hr:=H.hr,hB:=Nat.le_trans h.hB hk.size,g:=H.g,cell:=hk.heap H.cell (fun e=>by have:=hX _ e;have:=H.g;omega)
  c:=H.c.keep hk (fun b hb h3=>by have:=hX b hb;omega)
  k:=H.k.keep hk (fun b hb h3=>by have:=hX b hb;omega)
  f:=H.f.keep hk (fun b hb=>by have:=hX b hb;omega)
  d:=hf
  l:=⟨H.l.1,H.l.2.keep hk (fun hb=>by have:=hX _ hb;have:=H.l.1;omega)⟩
  e:=⟨H.e.1,H.e.2.keep hk (fun hb=>by have:=hX _ hb;have:=H.e.1;omega)⟩
  s:=⟨H.s.1,H.s.2.keep hk (fun hb=>by have:=hX _ hb;have:=H.s.1;omega)⟩ }
theorem RdW.newl (h:RdW B0 ρ R line (n+1) m S cv kv w) {ls':Nat→Option Nat} (hk:Keep (fun b=>b=R.bl) w w') (hf:MapG Tryz.prog 21 R.bl (n+1) (ptF (lsV ls')) w'):RdW B0 ρ R line (n+1) m { S with ls:=ls' } cv kv w':=by
 have H:=h
 have hX:∀b,b=R.bl→ρ b=6:=fun b e=>by rw[e];exact h.l.1
 exact {
  hr:=H.hr,hB:=Nat.le_trans h.hB hk.size,g:=H.g,cell:=hk.heap H.cell (fun e=>by have:=hX _ e;have:=H.g;omega)
  c:=H.c.keep hk (fun b hb h3=>by have:=hX b hb;omega)
  k:=H.k.keep hk (fun b hb h3=>by have:=hX b hb;omega)
  f:=H.f.keep hk (fun b hb=>by have:=hX b hb;omega)
  d:=H.d.keep hk (fun b hb=>by have:=hX b hb;omega)
  l:=⟨H.l.1,hf⟩
  e:=⟨H.e.1,H.e.2.keep hk (fun hb=>by have:=hX _ hb;have:=H.e.1;omega)⟩
  s:=⟨H.s.1,H.s.2.keep hk (fun hb=>by have:=hX _ hb;have:=H.s.1;omega)⟩ }
theorem pts_new (h:RdW B0 ρ R line n m S cv kv w) (hb:Below w.heap.size w w') {B:Nat} {l:List Nat} (_h0:l≠[]) (h9:l.length≤9) (hB:w.heap.size≤B) (hB2:B<w'.heap.size) (hc:∀(i:Nat) (x:Nat),l[i]? = some x→w'.cell? ⟨B,i,none⟩=some (.int .i32 (x:Nat))) :
 RdW B0 (moreR w ρ 0) R line n m S cv kv w'∧PtV (moreR w ρ 0) (.slice (some ⟨B,0,none⟩) l.length l.length) l w' :=
 ⟨(h.role_more 0).below hb,B,0,l.length,rfl,Nat.le_refl _,by omega,moreR_new B hB,hB2,fun i x hx=>by rw[Nat.zero_add];exact hc i x hx⟩
end
set_option maxRecDepth 100000 in
set_option maxHeartbeats 4000000 in
theorem pfoldR {B0:Nat} {ρ:Nat→Nat} {R:RdB} {line n m:Nat} {S:RdS} {cv kv:Value} (w:World) (hR:RdW B0 ρ R line n m S cv kv w) (ws:List (List UInt8)) (sv:Value) (hS:StrS sv ws w) (hz:∀x∈ws,x≠[]∧x.length≤1048576) (h2:2≤ws.length) (hE:PEnv w) (hn:n≤1000000) :
 Calls Tryz.prog 55 #[.pointer (some ⟨R.g,0,none⟩),sv] w fun e w'=>RdOut B0 ρ R line (n+1) m (foldP S ws).1 (foldP S ws).2 w e w':=by
 have CP:=Lib.hid (ppoints ws sv w hS (fun x hx=>(hz x hx).2) (fun e=>by rw[e] at h2;simp at h2) hE)
 obtain⟨⟨no,l⟩,hP⟩:∃z,ptsP ws=z:=⟨_,rfl⟩
 rw[hP] at CP
 have HP:=Lib.hid hP
 have H2:=Lib.hid h2
 clear hP hS hz h2 hE
 have HR:=Lib.hid hR
 have hgl:=hR.gl
 clear hR
 go_enter Tryz.func55,Tryz.ntmps55
 go_wp2_with fail
 refine CP.out.mono ?_
 rintro e w1 ⟨hb1,v,rfl,hv⟩
 by_cases h0:no=0
 ·subst h0
  obtain⟨b,rfl,hb2,hb3,hc⟩:=hv rfl
  have hok:=ptsP_ok HP.out
  have H2':=H2.out
  cases l with
  | nil=>exact absurd hok.1 (by simp;omega)
  | cons x t =>
  have ht:t≠[]:=fun e=>by rw[e] at hok;have:=hok.1;simp at this;omega
  have hx:x≤1114111:=valid_le (hok.2.2 x List.mem_cons_self)
  obtain⟨HR1,HV⟩:=pts_new HR.out hb1 (List.cons_ne_nil x t) (by omega) hb2 hb3 hc
  simp only at hc hok
  have HR1':=Lib.hid HR1
  have HB1:=Lib.hid hb1
  have hxc:w1.cell? ⟨b,0,none⟩=some (.int .i32 (x:Nat)):=hc 0 x rfl
  have HBN:=Lib.hid hb2
  obtain⟨q,hq⟩:∃q,t.length=q:=⟨_,rfl⟩
  rw[List.length_cons,hq] at HV ⊢
  have HX:Hid (foldP S ws=if (S.fs x).isSome then (13,S) else (0,{ S with fs:=updN S.fs x t })):=Lib.hid (by unfold foldP;rw[HP.out];rfl)
  have CU:=Lib.hid (pput (moreR w ρ 0) 5 R.bf n S.fs w1 (by decide) HR1.f x t (by omega) ht (by omega) _ (HV))
  rw[show R.g=R.g from rfl]
  have c5:w1.cell? ⟨R.g,5,none⟩=some (.map (some R.bf)):=by rw[Lib.cell_of_heap HR1.cell];rfl
  clear hb1 hv hok ht hx HR1 HV hc hb2 hb3 hxc hgl H2'
  go_wp2_with fail
  refine CU.out.mono ?_
  rintro e w2 ⟨he,hD,hK⟩
  have HN:=Lib.hid (HR1'.out.newf hK hD)
  have HBB:Hid (Keep (fun b=>ρ b≠0∧ρ b≠9) w w2):=Lib.hid ((Keep.of_all HB1.out).trans (hK.weaken (fun b _ hb=>by
   have h:ρ b=5:=by rw[hb];exact HR.out.f.1
   constructor <;> omega)))
  clear hD hK
  cases hs:(S.fs x).isSome with
  | true =>
    rw[hs] at HN HX he
    replace he:e = .returned (.int .i64 13):=he
    replace HX:Hid (foldP S ws=(13,S)):=HX
    subst he
    go_wp2
    go_ret
    rw[HX.out]
    exact⟨rfl,HBB.out,_,_,_,_,HN.out,fun b hb=>moreR_old b hb,fun e=>by cases e⟩
  | false =>
    rw[hs] at HN HX he
    replace he:e = .returned (.int .i64 0):=he
    replace HX:Hid (foldP S ws=(0,{ S with fs:=updN S.fs x t })):=HX
    subst he
    go_wp2
    go_ret
    rw[HX.out]
    exact⟨rfl,HBB.out,_,_,_,_,HN.out,fun b hb=>moreR_old b hb,fun _=>rfl⟩
 ·have HX:Hid (foldP S ws=(no,S)):=Lib.hid (foldP_no HP.out h0)
  have b1:((no:Int)!=0)=true:=by simp;omega
  have HB:=Lib.hid hb1
  clear hb1 hv
  go_wp2
  go_ret
  rw[HX.out]
  exact⟨rfl,Keep.of_all HB.out,ρ,S,cv,kv,(HR.out.below HB.out).mono (Nat.le_succ n),fun _ _=>rfl,fun e=>absurd e h0⟩
set_option maxRecDepth 100000 in
set_option maxHeartbeats 4000000 in
theorem pdecR {B0:Nat} {ρ:Nat→Nat} {R:RdB} {line n m:Nat} {S:RdS} {cv kv:Value} (w:World) (hR:RdW B0 ρ R line n m S cv kv w) (ws:List (List UInt8)) (sv:Value) (hS:StrS sv ws w) (hz:∀x∈ws,x≠[]∧x.length≤1048576) (h2:2≤ws.length) (hE:PEnv w) (hn:n≤1000000) :
 Calls Tryz.prog 56 #[.pointer (some ⟨R.g,0,none⟩),sv] w fun e w'=>RdOut B0 ρ R line (n+2) m ((dcmP line) S ws).1 ((dcmP line) S ws).2 w e w':=by
 have CP:=Lib.hid (ppoints ws sv w hS (fun x hx=>(hz x hx).2) (fun e=>by rw[e] at h2;simp at h2) hE)
 obtain⟨⟨no,l⟩,hP⟩:∃z,ptsP ws=z:=⟨_,rfl⟩
 rw[hP] at CP
 have HP:=Lib.hid hP
 have H2:=Lib.hid h2
 clear hP hS hz h2 hE
 have HR:=Lib.hid hR
 have hgl:=hR.gl
 clear hR
 go_enter Tryz.func56,Tryz.ntmps56
 go_wp2_with fail
 refine CP.out.mono ?_
 rintro e w1 ⟨hb1,v,rfl,hv⟩
 by_cases h0:no=0
 ·subst h0
  obtain⟨b,rfl,hb2,hb3,hc⟩:=hv rfl
  have hok:=ptsP_ok HP.out
  have H2':=H2.out
  cases l with
  | nil=>exact absurd hok.1 (by simp;omega)
  | cons x t =>
  have ht:t≠[]:=fun e=>by rw[e] at hok;have:=hok.1;simp at this;omega
  have hx:x≤1114111:=valid_le (hok.2.2 x List.mem_cons_self)
  obtain⟨HR1,HV⟩:=pts_new HR.out hb1 (List.cons_ne_nil x t) (by omega) hb2 hb3 hc
  simp only at hc hok
  have HR1':=Lib.hid HR1
  have HB1:=Lib.hid hb1
  have hxc:w1.cell? ⟨b,0,none⟩=some (.int .i32 (x:Nat)):=hc 0 x rfl
  have HBN:=Lib.hid hb2
  obtain⟨q,hq⟩:∃q,t.length=q:=⟨_,rfl⟩
  rw[List.length_cons,hq] at HV ⊢
  have HX:Hid (dcmP line S ws=if (S.ds x).isSome then (13,S) else if hanP x then (1,S) else (0,{ S with ds:=updN S.ds x t,ls:=updN S.ls x line })):=Lib.hid (by unfold dcmP;rw[HP.out];rfl)
  have CU:=Lib.hid (pput (moreR w ρ 0) 4 R.bd n S.ds w1 (by decide) HR1.d x t (by omega) ht (by omega) _ HV)
  have c4:w1.cell? ⟨R.g,4,none⟩=some (.map (some R.bd)):=by rw[Lib.cell_of_heap HR1.cell];rfl
  have HXC:=Lib.hid hxc
  have HXX:=Lib.hid hx
  have HBR:Hid (b≠R.bd):=Lib.hid (fun e=>by have h1:moreR w ρ 0 b=0:=moreR_new b hb2;rw[e,HR1.d.1] at h1;cases h1)
  have CHN:=Lib.hid (fun W=>phan (x:Int) W)
  clear hb1 hv hok ht hx HR1 HV hc hb2 hb3 hxc hgl H2'
  go_wp2_with fail
  refine CU.out.mono ?_
  rintro e w2 ⟨he,hD,hK⟩
  have HK:=Lib.hid hK
  have HBB:Hid (Keep (fun b=>ρ b≠0∧ρ b≠9) w w2):=Lib.hid ((Keep.of_all HB1.out).trans (HK.out.weaken (fun b _ hb=>by
   have h:ρ b=4:=by rw[hb];exact HR.out.d.1
   constructor <;> omega)))
  have HN:=Lib.hid (HR1'.out.newd HK.out hD)
  have hxc2:w2.cell? ⟨b,0,none⟩=some (.int .i32 (x:Nat)):=hK.cell HXC.out HBR.out
  clear hD hK CU HB1
  cases hs:(S.ds x).isSome with
  | true =>
    rw[hs] at HN HX he
    replace he:e = .returned (.int .i64 13):=he
    subst he
    replace HX:Hid (dcmP line S ws=(13,S)):=HX
    clear hxc2
    go_wp2
    go_ret
    rw[HX.out]
    exact⟨rfl,HBB.out,_,_,_,_,HN.out.mono (by omega),fun b hb=>moreR_old b hb,fun e=>by cases e⟩
  | false =>
    rw[hs] at HN HX he
    replace he:e = .returned (.int .i64 0):=he
    subst he
    replace HX:Hid (dcmP line S ws=if hanP x then (1,S) else (0,{ S with ds:=updN S.ds x t,ls:=updN S.ls x line })):=HX
    replace HN:Hid (RdW B0 (moreR w ρ 0) R line (n+1) m { S with ds:=updN S.ds x t } cv kv w2):=HN
    have hpos:(0:Int)≤(q:Int):=by omega
    go_wp2_with fail
    refine (CHN.out w2).mono ?_
    rintro e w3 ⟨rfl,rfl⟩
    cases hh:hanP (x:Int) with
    | true =>
      rw[hh] at HX
      replace HX:Hid (dcmP line S ws=(1,S)):=HX
      clear hxc2
      go_wp2
      go_ret
      rw[HX.out]
      exact⟨rfl,HBB.out,_,_,_,_,HN.out.mono (by omega),fun b hb=>moreR_old b hb,fun e=>by cases e⟩
    | false =>
      rw[hh] at HX
      replace HX:Hid (dcmP line S ws=(0,{ S with ds:=updN S.ds x t,ls:=updN S.ls x line })):=HX
      go_wp2_with fail
      have hkey:keyOf Tryz.prog 21 (.int .i32 (x:Nat))=some (.int .i32 (x:Nat)):=keyOf_int_mk Tryz.underlying21 (WalkArith.wf_i32 (n:=(x:Int)) ⟨by omega,by have:=HXX.out;omega⟩)
      have hcell:=HN.out.cell
      have hf6:∀X:World,(Instr.fieldAt 73 (.pointer (some ⟨R.g,0,none⟩)) 6).run Tryz.prog X = .ok (.pointer (some ⟨R.g,6,none⟩)) X:=fun X=>by go_simp
      have hf1:∀X:World,(Instr.fieldAt 73 (.pointer (some ⟨R.g,0,none⟩)) 1).run Tryz.prog X = .ok (.pointer (some ⟨R.g,1,none⟩)) X:=fun X=>by go_simp
      have hlb:∀X:World,X=w3.drew→(Instr.loadAt 71 (.pointer (some ⟨R.g,6,none⟩))).run Tryz.prog X = .ok (.map (some R.bl)) X:=fun X h=>by
       subst h
       have c1:w3.drew.cell? ⟨R.g,6,none⟩=some (.map (some R.bl)):=by rw[Lib.cell_of_heap (w:=w3.drew) hcell];rfl
       go_simp
      have hll:∀X:World,X=w3.drew→(Instr.loadAt 3 (.pointer (some ⟨R.g,1,none⟩))).run Tryz.prog X = .ok (.int .i64 (line:Nat)) X:=fun X h=>by
       subst h
       have c1:w3.drew.cell? ⟨R.g,1,none⟩=some (.int .i64 (line:Nat)):=by rw[Lib.cell_of_heap (w:=w3.drew) hcell];rfl
       go_simp
      have hlx:∀X:World,X=w3.drew→(Instr.loadAt 21 (.pointer (some ⟨b,0,none⟩))).run Tryz.prog X = .ok (.int .i32 (x:Nat)) X:=fun X h=>by
       subst h
       have c1:w3.drew.cell? ⟨b,0,none⟩=some (.int .i32 (x:Nat)):=hxc2
       go_simp
      have hix:∀X:World,(Instr.indexAt 78 (.slice (some ⟨b,0,none⟩) (q+1) (q+1)) (.int .i64 0)).run Tryz.prog X = .ok (.pointer (some ⟨b,0,none⟩)) X:=fun X=>by
       have q1:¬(q:Int)+1≤0:=by omega
       go_simp
      obtain⟨w4,hr2,hM2,hK2⟩:=(HN.out.l.2.keep (Keep.refl (fun _=>False) w3).drew (fun h=>h)).put (int_keyed Tryz.underlying21) Tryz.underlying71 (by unfold maxLen;omega) (val:=.int .i64 (line:Nat)) hkey
      have hmu:∀X:World,X=w3.drew→(Instr.mapUpdate 71 (.map (some R.bl)) (.int .i32 (x:Nat)) (.int .i64 (line:Nat))).run Tryz.prog X = .ok () w4:=fun X h=>by
       subst h
       exact hr2
      have HKW:=Lib.hid (Keep.trans (Keep.refl (fun b=>b=R.bl) w3).drew hK2)
      have HLM:Hid (MapG Tryz.prog 21 R.bl (n+1+1) (ptF (lsV (updN S.ls x line))) w4):=Lib.hid (hM2.congr (fun kl hkl=>by
       rw[ptF_put _ _ _ _ hkl]
       congr 1
       funext y
       unfold lsV updN
       by_cases e:y=x
       ·rw[if_pos e,if_pos e];rfl
       ·rw[if_neg e,if_neg e]))
      clear hkey hcell hr2 hM2 hK2 hxc2 hpos
      obtain⟨FF,hFF⟩:∃FF:StoR,FF=⟨w3.drew,w4,11,fun z=>match z with|0=>some (.pointer (some ⟨R.g,0,none⟩))|1=>some (.pointer (some ⟨R.g,0,none⟩))|2=>some (.pointer (some ⟨R.g,6,none⟩))|3=>some (.map (some R.bl))|4=>some (.slice (some ⟨b,0,none⟩) (q+1) (q+1))|5=>some (.pointer (some ⟨b,0,none⟩))|6=>some (.int .i32 (x:Nat))|7=>some (.pointer (some ⟨R.g,0,none⟩))|8=>some (.pointer (some ⟨R.g,0,none⟩))|9=>some (.pointer (some ⟨R.g,1,none⟩))|10=>some (.int .i64 (line:Nat))|_=>none⟩:=⟨_,rfl⟩
      have H0:StoR.S FF (fun _=>false) w3.drew:=by rw[hFF];exact fun _=>rfl
      refine wp_region_done (StoR.S FF) (StoR.P FF) (by kernel_rfl) (by kernel_rfl) (by kernel_rfl) H0 ?hs ?hd
      case hs =>
       rw[hFF]
       refine DSteps.cons ?_ (DSteps.cons ?_ (DSteps.cons ?_ (DSteps.cons ?_ (DSteps.cons ?_ (DSteps.cons ?_ (DSteps.cons ?_ (DSteps.cons ?_ (DSteps.cons ?_ (DSteps.cons ?_ (DSteps.cons ?_ (DSteps.cons ?_ (DSteps.nil))))))))))))
       ·intro D2 a X9 hDi hDa _ hX hL hd
        refine⟨rfl,?_⟩
        have e0:a.eval (.tmp 0) = .pointer (some ⟨R.g,0,none⟩):=hL.far 0 (by kernel_rfl)
        exact wp_value (exec_move rfl e0) ⟨_,rfl,hX.more,fun _ _ _ h=>h,StoR.P.mk rfl (by simp)⟩
       ·intro D2 a X9 hDi hDa _ hX hL hd
        refine⟨rfl,?_⟩
        have e0:a.eval (.tmp 29) = .pointer (some ⟨R.g,0,none⟩):=(hd 0 29 (by kernel_rfl) (by kernel_rfl)).is rfl
        exact wp_value (exec_nilCheck rfl e0) ⟨_,rfl,hX.more,fun _ _ _ h=>h,StoR.P.mk rfl (by simp)⟩
       ·intro D2 a X9 hDi hDa _ hX hL hd
        refine⟨rfl,?_⟩
        have e0:a.eval (.tmp 30) = .pointer (some ⟨R.g,0,none⟩):=(hd 1 30 (by kernel_rfl) (by kernel_rfl)).is rfl
        exact wp_value (exec_fieldAddr rfl e0 (hf6 X9)) ⟨_,rfl,hX.more,fun _ _ _ h=>h,StoR.P.mk rfl (by simp)⟩
       ·intro D2 a X9 hDi hDa _ hX hL hd
        refine⟨rfl,?_⟩
        have e0:a.eval (.tmp 31) = .pointer (some ⟨R.g,6,none⟩):=(hd 2 31 (by kernel_rfl) (by kernel_rfl)).is rfl
        exact wp_value (exec_load rfl e0 (hlb X9 (hX (hDa 11 (by kernel_rfl))))) ⟨_,rfl,hX.more,fun _ _ _ h=>h,StoR.P.mk rfl (by simp)⟩
       ·intro D2 a X9 hDi hDa _ hX hL hd
        refine⟨rfl,?_⟩
        have e0:a.eval (.tmp 5) = .slice (some ⟨b,0,none⟩) (q+1) (q+1):=hL.far 5 (by kernel_rfl)
        exact wp_value (exec_move rfl e0) ⟨_,rfl,hX.more,fun _ _ _ h=>h,StoR.P.mk rfl (by simp)⟩
       ·intro D2 a X9 hDi hDa _ hX hL hd
        refine⟨rfl,?_⟩
        have e0:a.eval (.tmp 33) = .slice (some ⟨b,0,none⟩) (q+1) (q+1):=(hd 4 33 (by kernel_rfl) (by kernel_rfl)).is rfl
        exact wp_value (exec_indexAddr rfl e0 rfl (hix X9)) ⟨_,rfl,hX.more,fun _ _ _ h=>h,StoR.P.mk rfl (by simp)⟩
       ·intro D2 a X9 hDi hDa _ hX hL hd
        refine⟨rfl,?_⟩
        have e0:a.eval (.tmp 34) = .pointer (some ⟨b,0,none⟩):=(hd 5 34 (by kernel_rfl) (by kernel_rfl)).is rfl
        exact wp_value (exec_load rfl e0 (hlx X9 (hX (hDa 11 (by kernel_rfl))))) ⟨_,rfl,hX.more,fun _ _ _ h=>h,StoR.P.mk rfl (by simp)⟩
       ·intro D2 a X9 hDi hDa _ hX hL hd
        refine⟨rfl,?_⟩
        have e0:a.eval (.tmp 0) = .pointer (some ⟨R.g,0,none⟩):=hL.far 0 (by kernel_rfl)
        exact wp_value (exec_move rfl e0) ⟨_,rfl,hX.more,fun _ _ _ h=>h,StoR.P.mk rfl (by simp)⟩
       ·intro D2 a X9 hDi hDa _ hX hL hd
        refine⟨rfl,?_⟩
        have e0:a.eval (.tmp 36) = .pointer (some ⟨R.g,0,none⟩):=(hd 7 36 (by kernel_rfl) (by kernel_rfl)).is rfl
        exact wp_value (exec_nilCheck rfl e0) ⟨_,rfl,hX.more,fun _ _ _ h=>h,StoR.P.mk rfl (by simp)⟩
       ·intro D2 a X9 hDi hDa _ hX hL hd
        refine⟨rfl,?_⟩
        have e0:a.eval (.tmp 37) = .pointer (some ⟨R.g,0,none⟩):=(hd 8 37 (by kernel_rfl) (by kernel_rfl)).is rfl
        exact wp_value (exec_fieldAddr rfl e0 (hf1 X9)) ⟨_,rfl,hX.more,fun _ _ _ h=>h,StoR.P.mk rfl (by simp)⟩
       ·intro D2 a X9 hDi hDa _ hX hL hd
        refine⟨rfl,?_⟩
        have e0:a.eval (.tmp 38) = .pointer (some ⟨R.g,1,none⟩):=(hd 9 38 (by kernel_rfl) (by kernel_rfl)).is rfl
        exact wp_value (exec_load rfl e0 (hll X9 (hX (hDa 11 (by kernel_rfl))))) ⟨_,rfl,hX.more,fun _ _ _ h=>h,StoR.P.mk rfl (by simp)⟩
       ·intro D2 a X9 hDi hDa _ hX hL hd
        refine⟨rfl,?_⟩
        have e0:a.eval (.tmp 32) = .map (some R.bl):=(hd 3 32 (by kernel_rfl) (by kernel_rfl)).is rfl
        have e1:a.eval (.tmp 35) = .int .i32 (x:Nat):=(hd 6 35 (by kernel_rfl) (by kernel_rfl)).is rfl
        have e2:a.eval (.tmp 39) = .int .i64 (line:Nat):=(hd 10 39 (by kernel_rfl) (by kernel_rfl)).is rfl
        exact wp_skipped (exec_mapUpdate rfl e0 e1 e2 (hmu X9 (hX hDi))) ⟨undef,rfl,StoR.S.store,fun k2 u hj h=>h.store (fun e=>by subst e;rw[hDi] at hj;cases hj),StoR.P.last rfl rfl⟩
      case hd =>
       intro D2 a X9 hAll hX hL hP hE
       obtain⟨_,hp⟩:=hE 11 (by decide)
       rw[hFF] at hp
       have hX9:X9=w4:=hp.2 rfl
       obtain⟨f,ha,hf⟩:=hL.out [29,30,31,32,33,34,35,36,37,38,39] rfl
       clear hf hAll hP hX hL hE hp hFF H0 hf6 hlb hix hlx hf1 hll hmu
       simp only[List.foldl_cons,List.foldl_nil,List.setIfInBounds_toArray,List.set_cons_zero,List.set_cons_succ] at ha
       subst ha
       subst hX9
       go_wp2
       go_ret
       rw[HX.out]
       have H9:=(HN.out.mono (Nat.le_succ (n+1))).newl HKW.out HLM.out
       exact⟨rfl,HBB.out.trans (HKW.out.weaken (fun b _ hb=>by
        have h:ρ b=6:=by rw[hb];exact HR.out.l.1
        constructor <;> omega)),_,_,_,_,H9,fun b hb=>moreR_old b hb,fun _=>rfl⟩
 ·have HX:Hid (dcmP line S ws=(no,S)):=Lib.hid (dcmP_no HP.out h0)
  have b1:((no:Int)!=0)=true:=by simp;omega
  have HB:=Lib.hid hb1
  clear hb1 hv
  go_wp2
  go_ret
  rw[HX.out]
  exact⟨rfl,Keep.of_all HB.out,ρ,S,cv,kv,(HR.out.below HB.out).mono (by omega),fun _ _=>rfl,fun e=>absurd e h0⟩
end Go.Proofs.YtgpbaeehajkebaaGreatDoor
