/- Parts of the proof of what the last text says. -/
import Derived.Test.YtgpbaeehajkebaaGreatDoorGv20
import Derived.Test.YtgpbaeehajkebaaGreatDoorGv19
namespace Go.Proofs.YtgpbaeehajkebaaGreatDoor
open Go Go.RowKit Go.Kt Go.Kt.Rg Go.Maps
theorem docW_in (S:RdS) (u:DU):0≤docW S u∧docW S u≤6:=by
 have:=hanK_in u.r
 unfold docW
 split
 ·exact⟨by decide,by decide⟩
 ·split
  ·exact⟨by decide,by decide⟩
  ·omega
theorem docW_13 (S:RdS) (u:DU) (h:u.r=13):docW S u=1:=by
 unfold docW
 rw[if_pos (.inr (.inl h))]
def Two (n:Nat) (a:Nat) (r:Int) (p:Bool) (b:Nat) (t:Int) (q:Bool) (w W:World):Prop :=
 Below w.heap.size w W∧(W.cell? ⟨n,0,none⟩=some (.int .i64 a)∧W.cell? ⟨n,1,none⟩=some (.int .i32 r)∧W.cell? ⟨n,2,none⟩=some (.bool p))∧W.cell? ⟨n+1,0,none⟩=some (.int .i64 b)∧W.cell? ⟨n+1,1,none⟩=some (.int .i32 t)∧W.cell? ⟨n+1,2,none⟩=some (.bool q)
theorem Two.below {n a b:Nat} {r t:Int} {p q:Bool} {w W V:World} (h:Two n a r p b t q w W) (hb:Below W.heap.size W V):Two n a r p b t q w V:=by
 obtain⟨h0,⟨h1,h2,h3⟩,h4,h5,h6⟩:=h
 exact⟨h0.trans (hb.mono h0.size),⟨(hb.cell (lt_of_cell h1)).trans h1,(hb.cell (lt_of_cell h2)).trans h2,(hb.cell (lt_of_cell h3)).trans h3⟩,(hb.cell (lt_of_cell h4)).trans h4,(hb.cell (lt_of_cell h5)).trans h5,(hb.cell (lt_of_cell h6)).trans h6⟩
theorem exec_asgD {P:Program} {o:Oper} {a:Act} {w:World} {x:Operand} {u:Value} (ho:o.op = .assign x) (hx:a.eval x=u):(execOp a.eval o).run P w = .ok (.value u) w:=by
 unfold execOp;rw[ho];simp only[hx];rfl
def pEd (gx _n:Nat) (ua ub:Nat) (r t:Int) (p q:Bool) (x y:Int) (jx:Nat) (v:Value) (_W:World):Prop:=match jx with
 | 0=>v = .pointer (some ⟨gx,0,none⟩)
 | 1=>v = .agg #[.int .i64 (ua:Nat),.int .i32 r,.bool p]
 | 2=>v = .int .i64 x
 | 3=>v = .pointer (some ⟨gx,0,none⟩)
 | 4=>v = .agg #[.int .i64 (ub:Nat),.int .i32 t,.bool q]
 | 5=>v = .int .i64 y
 | 6=>v = .int .i64 x
 | 7=>v = .int .i64 y
 | _=>True
set_option maxRecDepth 100000 in
set_option maxHeartbeats 4000000 in
theorem yedge {gx:Nat} {S:RdS} (u v:DU) (w:World) (HD:DocK gx S w) (hu:I32 u.r) (hv:I32 v.r) :
 Calls Tryz.prog 42 #[.pointer (some ⟨gx,0,none⟩),duV u,duV v] w fun e w'=>e = .returned (.bool (docE S u v))∧Below w.heap.size w w':=by
 have HE:docE S u v=if u.r=13∧v.r=10 then false else if docW S u=1∨docW S v=1 then true else if kndV S v.r=3∨kndV S v.r=6∨0<clsV S v.r then false else if kndV S u.r=6 then false
  else if docW S u=2∧(docW S v=2∨docW S v=3∨docW S v=5∨docW S v=6) then false else if (docW S u=3∨docW S u=5)∧(docW S v=3∨docW S v=4) then false else if (docW S u=4∨docW S u=6)∧docW S v=4 then false else true:=rfl
 have hxi:=docW_in S u
 have hyi:=docW_in S v
 have hx13:=docW_13 S u
 have CU0:=fun W (h:Below w.heap.size w W)=>ywhat u W (HD.below h) hu
 have CV0:=fun W (h:Below w.heap.size w W)=>ywhat v W (HD.below h) hv
 obtain⟨x,hx⟩:∃x,docW S u=x:=⟨_,rfl⟩
 obtain⟨y,hy⟩:∃x,docW S v=x:=⟨_,rfl⟩
 obtain⟨B,hB⟩:∃x,docE S u v=x:=⟨_,rfl⟩
 rw[hB] at HE ⊢
 rw[hx] at CU0 hxi hx13 HE
 rw[hy] at CV0 hyi HE
 clear hx hy hB
 obtain⟨ua,r,p⟩:=u
 obtain⟨ub,t,q⟩:=v
 simp only at hu hv CU0 CV0 hx13 HE ⊢
 unfold duV at CU0 CV0 ⊢
 simp only at CU0 CV0 ⊢
 have CU:Hid (∀W,Two w.heap.size ua r p ub t q w W→Calls Tryz.prog 79 #[.pointer (some ⟨gx,0,none⟩),.agg #[.int .i64 ua,.int .i32 r,.bool p]] W fun e w'=>e = .returned (.int .i64 x)∧Two w.heap.size ua r p ub t q w w'):=Lib.hid fun W h=>(CU0 W h.1).mono fun e w' ⟨h1,h2⟩=>⟨h1,h.below h2⟩
 have CV:Hid (∀W,Two w.heap.size ua r p ub t q w W→Calls Tryz.prog 79 #[.pointer (some ⟨gx,0,none⟩),.agg #[.int .i64 ub,.int .i32 t,.bool q]] W fun e w'=>e = .returned (.int .i64 y)∧Two w.heap.size ua r p ub t q w w'):=Lib.hid fun W h=>(CV0 W h.1).mono fun e w' ⟨h1,h2⟩=>⟨h1,h.below h2⟩
 obtain⟨kt,hkt⟩:∃k,kndV S t=k:=⟨_,rfl⟩
 obtain⟨kr,hkr⟩:∃k,kndV S r=k:=⟨_,rfl⟩
 obtain⟨ct,hct⟩:∃k,clsV S t=k:=⟨_,rfl⟩
 have KT:Hid (∀W,Two w.heap.size ua r p ub t q w W→Calls Tryz.prog 80 #[.pointer (some ⟨gx,0,none⟩),.int .i32 t] W fun e w'=>e = .returned (.int .i64 kt)∧Two w.heap.size ua r p ub t q w w'):=Lib.hid fun W h=>((HD W h.1 t hv).1).mono fun e w' ⟨h1,h2⟩=>⟨by rw[←hkt];exact h1,h.below h2⟩
 have KR:Hid (∀W,Two w.heap.size ua r p ub t q w W→Calls Tryz.prog 80 #[.pointer (some ⟨gx,0,none⟩),.int .i32 r] W fun e w'=>e = .returned (.int .i64 kr)∧Two w.heap.size ua r p ub t q w w'):=Lib.hid fun W h=>((HD W h.1 r hu).1).mono fun e w' ⟨h1,h2⟩=>⟨by rw[←hkr];exact h1,h.below h2⟩
 have KC:Hid (∀W,Two w.heap.size ua r p ub t q w W→Calls Tryz.prog 81 #[.pointer (some ⟨gx,0,none⟩),.int .i32 t] W fun e w'=>e = .returned (.int .i64 ct)∧Two w.heap.size ua r p ub t q w w'):=Lib.hid fun W h=>((HD W h.1 t hv).2).mono fun e w' ⟨h1,h2⟩=>⟨by rw[←hct];exact h1,h.below h2⟩
 rw[hkt,hkr,hct] at HE
 have HV:=Lib.hid HE
 have LU:Hid (∀X,Two w.heap.size ua r p ub t q w X→(Instr.loadAt 97 (.pointer (some ⟨w.heap.size,0,none⟩))).run Tryz.prog X = .ok (.agg #[.int .i64 ua,.int .i32 r,.bool p]) X):=Lib.hid fun X ⟨_,⟨c0,c1,c2⟩,_⟩=>by go_simp
 have LV:Hid (∀X,Two w.heap.size ua r p ub t q w X→(Instr.loadAt 97 (.pointer (some ⟨w.heap.size+1,0,none⟩))).run Tryz.prog X = .ok (.agg #[.int .i64 ub,.int .i32 t,.bool q]) X):=Lib.hid fun X ⟨_,_,c0,c1,c2⟩=>by go_simp
 obtain⟨w2,hw2⟩:∃W,(w.alloc (.cells #[.int .i64 ua,.int .i32 r,.bool p] 97)).alloc (.cells #[.int .i64 ub,.int .i32 t,.bool q] 97)=W:=⟨_,rfl⟩
 have b0:w2.heap[w.heap.size]? = some (.cells #[.int .i64 ua,.int .i32 r,.bool p] 97 (0,0)):=by rw[←hw2];exact alloc_old (alloc_at rfl)
 have b1:w2.heap[w.heap.size+1]? = some (.cells #[.int .i64 ub,.int .i32 t,.bool q] 97 (0,0)):=by rw[←hw2];exact alloc_at (by simp)
 have h2:Two w.heap.size ua r p ub t q w w2:=⟨by rw[←hw2];exact ((Below.refl _ w).alloc (Nat.le_refl _) _).alloc (by simp) _,⟨by rw[Lib.cell_of_heap b0];rfl,by rw[Lib.cell_of_heap b0];rfl,by rw[Lib.cell_of_heap b0];rfl⟩,by rw[Lib.cell_of_heap b1];rfl,by rw[Lib.cell_of_heap b1];rfl,by rw[Lib.cell_of_heap b1];rfl⟩
 have HW2:=Lib.hid hw2
 have HT2:=Lib.hid h2
 clear HD hu hv CU0 CV0 hkt hkr hct b0 b1 hw2 h2 HE
 go_enter Tryz.func42,Tryz.ntmps42
 go_wp2_with fail
 rw[HW2.out]
 refine wp_region_guarded (fun X=>Two w.heap.size ua r p ub t q w X) (fun _ _=>True) (pEd gx w.heap.size ua ub r t p q x y) (by kernel_rfl) (by kernel_rfl) (by kernel_rfl) ?hS ?hp ?hs ?hd
 case hS=>exact HT2.out.below (below_drewN (Below.refl _ _) 1)
 case hp=>exact fun i v U V _ _ _ hv=>hv
 case hs =>
  refine GSteps.cons ?_ (GSteps.cons ?_ (GSteps.cons ?_ (GSteps.cons ?_ (GSteps.cons ?_ (GSteps.cons ?_ (GSteps.cons ?_ (GSteps.cons ?_ (GSteps.nil))))))))
  ·intro a X hX hL hd
   refine .inl ⟨rfl,?_⟩
   have e0:a.eval (.tmp 0) = .pointer (some ⟨gx,0,none⟩):=hL.far 0 (by kernel_rfl)
   exact wp_value (exec_move rfl e0) ⟨_,rfl,hX,trivial,rfl⟩
  ·intro a X hX hL hd
   refine .inl ⟨rfl,?_⟩
   have e0:a.eval (.tmp 4) = .pointer (some ⟨w.heap.size,0,none⟩):=hL.far 4 (by kernel_rfl)
   exact wp_value (exec_load rfl e0 (LU.out X hX)) ⟨_,rfl,hX,trivial,rfl⟩
  ·intro a X hX hL hd
   refine .inl ⟨rfl,?_⟩
   have e0:a.eval (.tmp 9) = .pointer (some ⟨gx,0,none⟩):=hd 0 9 (by kernel_rfl) (by kernel_rfl)
   have e1:a.eval (.tmp 10) = .agg #[.int .i64 (ua:Nat),.int .i32 r,.bool p]:=hd 1 10 (by kernel_rfl) (by kernel_rfl)
   refine wp_enter (exec_call (vs:=#[.pointer (some ⟨gx,0,none⟩),.agg #[.int .i64 (ua:Nat),.int .i32 r,.bool p]]) rfl (by simp only[List.map_toArray,List.map_cons,List.map_nil,e0,e1]) Tryz.func79 rfl rfl) ?_
   refine (CU.out X hX).mono ?_
   rintro e w' ⟨rfl,hb⟩
   exact⟨_,rfl,_,rfl,hb,trivial,rfl⟩
  ·intro a X hX hL hd
   refine .inl ⟨rfl,?_⟩
   have e0:a.eval (.tmp 0) = .pointer (some ⟨gx,0,none⟩):=hL.far 0 (by kernel_rfl)
   exact wp_value (exec_move rfl e0) ⟨_,rfl,hX,trivial,rfl⟩
  ·intro a X hX hL hd
   refine .inl ⟨rfl,?_⟩
   have e0:a.eval (.tmp 5) = .pointer (some ⟨w.heap.size+1,0,none⟩):=hL.far 5 (by kernel_rfl)
   exact wp_value (exec_load rfl e0 (LV.out X hX)) ⟨_,rfl,hX,trivial,rfl⟩
  ·intro a X hX hL hd
   refine .inl ⟨rfl,?_⟩
   have e0:a.eval (.tmp 12) = .pointer (some ⟨gx,0,none⟩):=hd 3 12 (by kernel_rfl) (by kernel_rfl)
   have e1:a.eval (.tmp 13) = .agg #[.int .i64 (ub:Nat),.int .i32 t,.bool q]:=hd 4 13 (by kernel_rfl) (by kernel_rfl)
   refine wp_enter (exec_call (vs:=#[.pointer (some ⟨gx,0,none⟩),.agg #[.int .i64 (ub:Nat),.int .i32 t,.bool q]]) rfl (by simp only[List.map_toArray,List.map_cons,List.map_nil,e0,e1]) Tryz.func79 rfl rfl) ?_
   refine (CV.out X hX).mono ?_
   rintro e w' ⟨rfl,hb⟩
   exact⟨_,rfl,_,rfl,hb,trivial,rfl⟩
  ·intro a X hX hL hd
   refine .inl ⟨rfl,?_⟩
   have e0:a.eval (.tmp 11) = .int .i64 x:=hd 2 11 (by kernel_rfl) (by kernel_rfl)
   exact wp_value (exec_asgD rfl e0) ⟨_,rfl,hX,trivial,rfl⟩
  ·intro a X hX hL hd
   refine .inl ⟨rfl,?_⟩
   have e0:a.eval (.tmp 14) = .int .i64 y:=hd 5 14 (by kernel_rfl) (by kernel_rfl)
   exact wp_value (exec_asgD rfl e0) ⟨_,rfl,hX,trivial,rfl⟩
 case hd =>
  intro X9 W9 hX hL hd _
  have h7:X9.tmps.getD 7 undef = .int .i64 x:=hd 6 7 (by kernel_rfl)
  have h8:X9.tmps.getD 8 undef = .int .i64 y:=hd 7 8 (by kernel_rfl)
  obtain⟨f,ha,hf⟩:=hL.out [9,10,11,12,13,14,7,8] (by kernel_rfl)
  have h7':f 7 = .int .i64 x:=(hf 7).trans h7
  have h8':f 8 = .int .i64 y:=(hf 8).trans h8
  simp only[List.foldl_cons,List.foldl_nil,List.setIfInBounds_toArray,List.set_cons_zero,List.set_cons_succ,h7',h8'] at ha
  clear hf hd hL h7 h8 h7' h8' HT2 HW2 LU LV CU CV
  subst ha
  have HT:=Lib.hid hX
  obtain⟨_,⟨c0,c1,c2⟩,c3,c4,c5⟩:=hX
  by_cases h13:r=13
  ·obtain rfl:x=1:=hx13 h13
   subst h13
   by_cases h10:t=10
   ·subst h10
    obtain rfl:B=false:=by rw[HV.out,if_pos (by omega)]
    clear HV
    go_wp2
    go_ret
    exact⟨rfl,HT.out.1⟩
   have n10:(t==10)=false:=by rw[beq_eq_false_iff_ne];omega
   obtain rfl:B=true:=by rw[HV.out,if_neg (by omega),if_pos (by omega)]
   clear HV
   go_wp2
   go_ret
   exact⟨rfl,HT.out.1⟩
  have n13:(r==13)=false:=by rw[beq_eq_false_iff_ne];omega
  by_cases x1:x=1
  ·subst x1
   obtain rfl:B=true:=by rw[HV.out,if_neg (by omega),if_pos (by omega)]
   clear HV
   go_wp2
   go_ret
   exact⟨rfl,HT.out.1⟩
  have nx1:(x==1)=false:=by rw[beq_eq_false_iff_ne];omega
  by_cases y1:y=1
  ·subst y1
   obtain rfl:B=true:=by rw[HV.out,if_neg (by omega),if_pos (by omega)]
   clear HV
   go_wp2
   go_ret
   exact⟨rfl,HT.out.1⟩
  have ny1:(y==1)=false:=by rw[beq_eq_false_iff_ne];omega
  go_wp2_with fail
  refine (KT.out _ HT.out).mono ?_
  rintro e w8 ⟨rfl,h8⟩
  have HT:=Lib.hid h8
  obtain⟨_,⟨c0,c1,c2⟩,c3,c4,c5⟩:=h8
  by_cases k3:kt=3
  ·subst k3
   obtain rfl:B=false:=by rw[HV.out,if_neg (by omega),if_neg (by omega),if_pos (by omega)]
   clear HV
   go_wp2
   go_ret
   exact⟨rfl,HT.out.1⟩
  have nk3:(kt==3)=false:=by rw[beq_eq_false_iff_ne];omega
  go_wp2_with fail
  refine (KT.out _ HT.out).mono ?_
  rintro e w8 ⟨rfl,h8⟩
  have HT:=Lib.hid h8
  obtain⟨_,⟨c0,c1,c2⟩,c3,c4,c5⟩:=h8
  by_cases k6:kt=6
  ·subst k6
   obtain rfl:B=false:=by rw[HV.out,if_neg (by omega),if_neg (by omega),if_pos (by omega)]
   clear HV
   go_wp2
   go_ret
   exact⟨rfl,HT.out.1⟩
  have nk6:(kt==6)=false:=by rw[beq_eq_false_iff_ne];omega
  go_wp2_with fail
  refine (KC.out _ HT.out).mono ?_
  rintro e w8 ⟨rfl,h8⟩
  have HT:=Lib.hid h8
  obtain⟨_,⟨c0,c1,c2⟩,c3,c4,c5⟩:=h8
  by_cases kc:0<ct
  ·obtain rfl:B=false:=by rw[HV.out,if_neg (by omega),if_neg (by omega),if_pos (by omega)]
   clear HV
   go_wp2
   go_ret
   exact⟨rfl,HT.out.1⟩
  go_wp2_with fail
  refine (KR.out _ HT.out).mono ?_
  rintro e w8 ⟨rfl,h8⟩
  have HT:=Lib.hid h8
  obtain⟨_,⟨c0,c1,c2⟩,c3,c4,c5⟩:=h8
  by_cases r6:kr=6
  ·subst r6
   obtain rfl:B=false:=by rw[HV.out,if_neg (by omega),if_neg (by omega),if_neg (by omega),if_pos (by omega)]
   clear HV
   go_wp2
   go_ret
   exact⟨rfl,HT.out.1⟩
  have nr6:(kr==6)=false:=by rw[beq_eq_false_iff_ne];omega
  by_cases x0:x=0
  ·subst x0
   obtain rfl:B=true:=by rw[HV.out,if_neg (by omega),if_neg (by omega),if_neg (by omega),if_neg (by omega),if_neg (by omega),if_neg (by omega),if_neg (by omega)]
   clear HV
   go_wp2
   go_ret
   exact⟨rfl,HT.out.1⟩
  by_cases x2:x=2
  ·subst x2
   by_cases y2:y=2
   ·subst y2
    obtain rfl:B=false:=by rw[HV.out,if_neg (by omega),if_neg (by omega),if_neg (by omega),if_neg (by omega),if_pos (by omega)]
    clear HV
    go_wp2
    go_ret
    exact⟨rfl,HT.out.1⟩
   by_cases y3:y=3
   ·subst y3
    obtain rfl:B=false:=by rw[HV.out,if_neg (by omega),if_neg (by omega),if_neg (by omega),if_neg (by omega),if_pos (by omega)]
    clear HV
    go_wp2
    go_ret
    exact⟨rfl,HT.out.1⟩
   by_cases y5:y=5
   ·subst y5
    obtain rfl:B=false:=by rw[HV.out,if_neg (by omega),if_neg (by omega),if_neg (by omega),if_neg (by omega),if_pos (by omega)]
    clear HV
    go_wp2
    go_ret
    exact⟨rfl,HT.out.1⟩
   by_cases y6:y=6
   ·subst y6
    obtain rfl:B=false:=by rw[HV.out,if_neg (by omega),if_neg (by omega),if_neg (by omega),if_neg (by omega),if_pos (by omega)]
    clear HV
    go_wp2
    go_ret
    exact⟨rfl,HT.out.1⟩
   have ny2:(y==2)=false:=by rw[beq_eq_false_iff_ne];omega
   have ny3:(y==3)=false:=by rw[beq_eq_false_iff_ne];omega
   have ny5:(y==5)=false:=by rw[beq_eq_false_iff_ne];omega
   have ny6:(y==6)=false:=by rw[beq_eq_false_iff_ne];omega
   obtain rfl:B=true:=by rw[HV.out,if_neg (by omega),if_neg (by omega),if_neg (by omega),if_neg (by omega),if_neg (by omega),if_neg (by omega),if_neg (by omega)]
   clear HV
   go_wp2
   go_ret
   exact⟨rfl,HT.out.1⟩
  by_cases x3:x=3
  ·subst x3
   by_cases y3:y=3
   ·subst y3
    obtain rfl:B=false:=by rw[HV.out,if_neg (by omega),if_neg (by omega),if_neg (by omega),if_neg (by omega),if_neg (by omega),if_pos (by omega)]
    clear HV
    go_wp2
    go_ret
    exact⟨rfl,HT.out.1⟩
   by_cases y4:y=4
   ·subst y4
    obtain rfl:B=false:=by rw[HV.out,if_neg (by omega),if_neg (by omega),if_neg (by omega),if_neg (by omega),if_neg (by omega),if_pos (by omega)]
    clear HV
    go_wp2
    go_ret
    exact⟨rfl,HT.out.1⟩
   have ny3:(y==3)=false:=by rw[beq_eq_false_iff_ne];omega
   have ny4:(y==4)=false:=by rw[beq_eq_false_iff_ne];omega
   obtain rfl:B=true:=by rw[HV.out,if_neg (by omega),if_neg (by omega),if_neg (by omega),if_neg (by omega),if_neg (by omega),if_neg (by omega),if_neg (by omega)]
   clear HV
   go_wp2
   go_ret
   exact⟨rfl,HT.out.1⟩
  by_cases x5:x=5
  ·subst x5
   by_cases y3:y=3
   ·subst y3
    obtain rfl:B=false:=by rw[HV.out,if_neg (by omega),if_neg (by omega),if_neg (by omega),if_neg (by omega),if_neg (by omega),if_pos (by omega)]
    clear HV
    go_wp2
    go_ret
    exact⟨rfl,HT.out.1⟩
   by_cases y4:y=4
   ·subst y4
    obtain rfl:B=false:=by rw[HV.out,if_neg (by omega),if_neg (by omega),if_neg (by omega),if_neg (by omega),if_neg (by omega),if_pos (by omega)]
    clear HV
    go_wp2
    go_ret
    exact⟨rfl,HT.out.1⟩
   have ny3:(y==3)=false:=by rw[beq_eq_false_iff_ne];omega
   have ny4:(y==4)=false:=by rw[beq_eq_false_iff_ne];omega
   obtain rfl:B=true:=by rw[HV.out,if_neg (by omega),if_neg (by omega),if_neg (by omega),if_neg (by omega),if_neg (by omega),if_neg (by omega),if_neg (by omega)]
   clear HV
   go_wp2
   go_ret
   exact⟨rfl,HT.out.1⟩
  by_cases x4:x=4
  ·subst x4
   by_cases y4:y=4
   ·subst y4
    obtain rfl:B=false:=by rw[HV.out,if_neg (by omega),if_neg (by omega),if_neg (by omega),if_neg (by omega),if_neg (by omega),if_neg (by omega),if_pos (by omega)]
    clear HV
    go_wp2
    go_ret
    exact⟨rfl,HT.out.1⟩
   have ny4:(y==4)=false:=by rw[beq_eq_false_iff_ne];omega
   obtain rfl:B=true:=by rw[HV.out,if_neg (by omega),if_neg (by omega),if_neg (by omega),if_neg (by omega),if_neg (by omega),if_neg (by omega),if_neg (by omega)]
   clear HV
   go_wp2
   go_ret
   exact⟨rfl,HT.out.1⟩
  obtain x6:x=6:=by omega
  subst x6
  by_cases y4:y=4
  ·subst y4
   obtain rfl:B=false:=by rw[HV.out,if_neg (by omega),if_neg (by omega),if_neg (by omega),if_neg (by omega),if_neg (by omega),if_neg (by omega),if_pos (by omega)]
   clear HV
   go_wp2
   go_ret
   exact⟨rfl,HT.out.1⟩
  have ny4:(y==4)=false:=by rw[beq_eq_false_iff_ne];omega
  obtain rfl:B=true:=by rw[HV.out,if_neg (by omega),if_neg (by omega),if_neg (by omega),if_neg (by omega),if_neg (by omega),if_neg (by omega),if_neg (by omega)]
  clear HV
  go_wp2
  go_ret
  exact⟨rfl,HT.out.1⟩
end Go.Proofs.YtgpbaeehajkebaaGreatDoor
namespace Go.Proofs.YtgpbaeehajkebaaGreatDoor
open Go Go.RowKit Go.Kt Go.Kt.Rg Go.Maps
theorem tinfoI:(Tryz.prog.info? 3).map (fun i=>(i.zero,i.size,i.bytes))=some (some (.int .i64 0),1,8):=by kernel_rfl
def encI (l:List Nat):List Value:=l.map fun x=>.int .i64 (x:Nat)
def NtR (W:World) (v:Value) (L:List Nat):Prop:=∃ao cp,v = .slice ao L.length cp∧(L=[]∨∃g,ao=some ⟨g,0,none⟩∧∀(i x:Nat),L[i]? = some x→W.cell? ⟨g,i,none⟩=some (.int .i64 x))
theorem ntr_own {Y:Nat→Prop} {v:Value} {n:Nat} {L:List Nat} {W:World} (h:OwnS Y 3 1 v n (encI L) W) (hn:n=L.length):NtR W v L:=by
 subst hn
 rcases h.1.2 with ⟨h1,h2⟩|⟨g,cap,cur,rfl,_,hg,_⟩
 ·have:L=[]:=List.length_eq_zero_iff.1 h2
  subst this
  exact⟨none,0,h1,.inl rfl⟩
 ·exact⟨_,_,rfl,.inr ⟨g,rfl,fun i x hx=>h.at0 (i:=i) (by simp[encI,List.getElem?_map,hx])⟩⟩
def edP (S:RdS) (s:ByteArray) (k:Nat):List Nat:=0::((List.range k).filter fun i=>edgK S s i).map fun i=>pos s (i+1)
theorem edP_succ (S:RdS) (s:ByteArray) (k:Nat):edP S s (k+1)=if edgK S s k=true then edP S s k++[pos s (k+1)] else edP S s k:=by
 unfold edP
 rw[List.range_succ,List.filter_append]
 split
 ·rename_i h
  simp[h]
 ·rename_i h
  simp[h]
theorem edP_tl (S:RdS) (s:ByteArray):∀(n k:Nat),edP S s k++tlE S s n k=edP S s (k+n)++[s.size]
 | 0,k=>rfl
 | n+1,k=>by
   rw[tlE,show k+(n+1)=k+1+n by omega,←edP_tl S s n (k+1),edP_succ]
   split
   ·simp
   ·rfl
theorem edL_P (S:RdS) (s:ByteArray) (hz:s.size≠0):edL S s=edP S s ((units s).length-1)++[s.size]:=by
 have h:=edP_tl S s ((units s).length-1) 0
 rw[Nat.zero_add] at h
 rw[←h]
 unfold edL
 rw[if_neg hz]
 rfl
theorem edP_len (S:RdS) (s:ByteArray) (k:Nat):(edP S s k).length≤k+1:=by
 unfold edP
 have:=List.length_filter_le (fun i=>edgK S s i) (List.range k)
 simp at this ⊢
 exact this
theorem duK_i32 (s:ByteArray) (k:Nat):I32 (duK s k).r:=by
 have h:=decode_le s (pos s k)
 show -2147483648≤((Utf8.decode s (pos s k)).1:Int)∧((Utf8.decode s (pos s k)).1:Int)≤2147483647
 omega
def pEs (gx g n cp k:Nat) (a0 a1:Nat) (q0 q1:Int) (p0 p1 B:Bool) (jx:Nat) (v:Value) (_W:World):Prop:=match jx with
 | 0=>v = .pointer (some ⟨gx,0,none⟩)
 | 1=>v = .slice (some ⟨g,0,none⟩) n cp
 | 2=>v = .int .i64 ((k:Int)+1)
 | 3=>v = .int .i64 (k:Nat)
 | 4=>v = .pointer (some ⟨g,k*3,none⟩)
 | 5=>v = .agg #[.int .i64 (a0:Nat),.int .i32 q0,.bool p0]
 | 6=>v = .slice (some ⟨g,0,none⟩) n cp
 | 7=>v = .int .i64 ((k:Int)+1)
 | 8=>v = .pointer (some ⟨g,(k+1)*3,none⟩)
 | 9=>v = .agg #[.int .i64 (a1:Nat),.int .i32 q1,.bool p1]
 | 10=>v = .bool B
 | _=>True
theorem encI_snoc (l:List Nat) (x:Nat):encI (l++[x])=encI l++[.int .i64 (x:Nat)]:=by simp[encI]
set_option maxRecDepth 100000 in
set_option maxHeartbeats 4000000 in
theorem yEdges {gx:Nat} {S:RdS} (s:ByteArray) (w:World) (HD:DocK gx S w) (hs:s.size≤1000000) :
 Calls Tryz.prog 17 #[.pointer (some ⟨gx,0,none⟩),.string s] w fun e w'=>∃v,e = .returned v∧NtR w' v (edL S s)∧Below w.heap.size w w':=by
 have CU:=Lib.hid (yunits s w hs)
 have HDD:=Lib.hid HD
 have hul:=units_len s
 clear HD
 go_enter Tryz.func17,Tryz.ntmps17
 go_wp2_with fail
 refine CU.out.mono ?_
 rintro e w1 ⟨v1,rfl,⟨ao,cp,rfl,hv⟩,hb1⟩
 rw[duL_len]
 by_cases hz:s.size=0
 ·have hu:(units s).length=0:=by omega
  have hE:edL S s=[]:=by unfold edL;rw[if_pos hz]
  rw[hu]
  have HF:=Lib.hid (And.intro hb1 hE)
  clear hv hb1 hE hz hul HDD CU
  go_wp2
  go_ret
  exact⟨_,rfl,by rw[HF.out.2];exact⟨none,0,rfl,.inl rfl⟩,HF.out.1⟩
 have hu:=units_pos s hz
 obtain⟨g,rfl,hv2⟩:∃g,ao=some ⟨g,0,none⟩∧∀(i:Nat) (x:DU),(duL s)[i]? = some x→w1.cell? ⟨g,i*3,none⟩=some (.int .i64 x.at')∧w1.cell? ⟨g,i*3+1,none⟩=some (.int .i32 x.r)∧w1.cell? ⟨g,i*3+2,none⟩=some (.bool x.bad):=by
  rcases hv with h|h
  ·have:=duL_len s;rw[h] at this;simp at this;omega
  ·exact h
 have HV:=Lib.hid (fun k hk=>hv2 k (duK s k) (duL_at s k hk))
 have HB1:=Lib.hid hb1
 have CE:=Lib.hid (fun W (h:Below w.heap.size w W) k=>yedge (duK s k) (duK s (k+1)) W (HDD.out.below h) (duK_i32 s k) (duK_i32 s (k+1)))
 have HKE:=Lib.hid (fun k hk=>docE_eq S s k hk)
 have HEL:=Lib.hid (edL_P S s hz)
 obtain⟨n,hn⟩:∃n,(units s).length=n:=⟨_,rfl⟩
 rw[hn] at hu hul HV HKE HEL ⊢
 have hnz:((n:Int)==0)=false:=by rw[beq_eq_false_iff_ne];omega
 have hn6:(n:Int)≤1000000:=by omega
 have hs6:(s.size:Int)≤1000000:=by omega
 obtain⟨w2,hw2⟩:∃W,w1.alloc (.cells #[.int .i64 0] 3)=W:=⟨_,rfl⟩
 have hb2:Below w1.heap.size w1 w2:=by rw[←hw2];exact (Below.refl _ _).alloc (Nat.le_refl _) _
 have hg2:w2.heap[w1.heap.size]? = some (.cells #[.int .i64 0] 3 (0,0)):=by rw[←hw2];exact World.alloc_heap_new _ _
 have ho2:OwnS (fun b=>w1.heap.size≤b) 3 1 (.slice (some ⟨w1.heap.size,0,none⟩) 1 1) 1 (encI (edP S s 0)) w2 :=
  ⟨⟨rfl,.inr ⟨w1.heap.size,1,#[.int .i64 0],rfl,Nat.zero_le _,hg2,Nat.le_refl _,by unfold maxLen;omega,rfl,rfl⟩⟩,fun b hb=>by cases hb;exact Nat.le_refl _⟩
 have HW2:=Lib.hid hw2
 have H2:=Lib.hid (And.intro ho2 hb2)
 have HVW:Hid (∀W,Below w1.heap.size w1 W→∀k,k<n→W.cell? ⟨g,k*3,none⟩=some (.int .i64 (duK s k).at')∧W.cell? ⟨g,k*3+1,none⟩=some (.int .i32 (duK s k).r)∧W.cell? ⟨g,k*3+2,none⟩=some (.bool (duK s k).bad)):=Lib.hid fun W h k hk=>by
  obtain⟨h1,h2,h3⟩:=HV.out k hk
  exact⟨(h.cell (lt_of_cell h1)).trans h1,(h.cell (lt_of_cell h2)).trans h2,(h.cell (lt_of_cell h3)).trans h3⟩
 clear hv hv2 hb1 hb2 hg2 ho2 hw2 HV CU hz hul
 go_wp2_with fail
 rw[HW2.out]
 go_loopw [6,7] (fun o x wr=>∃(k m:Nat) (ao:Option Addr) (cv:Nat),k+1≤n∧x = .int .i64 ((k:Int)+1)∧o = .slice ao m cv∧m=(edP S s k).length∧Hid (OwnS (fun b=>w1.heap.size≤b) 3 1 (.slice ao m cv) m (encI (edP S s k)) wr∧Below w1.heap.size w1 wr)) (fun _ x _=>n-(RowKit.intOf x).toNat)
 case atStart=>exact⟨0,1,_,1,by omega,rfl,rfl,rfl,Lib.hid ⟨H2.out.1,H2.out.2⟩⟩
 case round =>
  obtain⟨k,m,ao,cv,hk,rfl,rfl,hm,HI⟩:=hrel
  have hml:=edP_len S s k
  by_cases hkl:k+1<n
  ·have hlt:(k:Int)+1<n:=by omega
   obtain⟨hown,hb⟩:=HI.out
   obtain⟨r1,r2,r3⟩:=HVW.out wr hb k (by omega)
   obtain⟨s1,s2,s3⟩:=HVW.out wr hb (k+1) hkl
   have hE:=HKE.out k hkl
   have hsc:=edP_succ S s k
   have CEk:=fun W (h:Below w.heap.size w W)=>CE.out W h k
   rw[hE] at CEk
   unfold duV at CEk
   have hat:(duK s (k+1)).at'=pos s (k+1):=rfl
   obtain⟨a0,ha0⟩:∃x,(duK s k).at'=x:=⟨_,rfl⟩
   obtain⟨q0,hq0⟩:∃x,(duK s k).r=x:=⟨_,rfl⟩
   obtain⟨p0,hp0⟩:∃x,(duK s k).bad=x:=⟨_,rfl⟩
   obtain⟨a1,ha1⟩:∃x,(duK s (k+1)).at'=x:=⟨_,rfl⟩
   obtain⟨q1,hq1⟩:∃x,(duK s (k+1)).r=x:=⟨_,rfl⟩
   obtain⟨p1,hp1⟩:∃x,(duK s (k+1)).bad=x:=⟨_,rfl⟩
   rw[ha0,hq0,hp0,ha1,hq1,hp1] at CEk
   rw[ha0] at r1
   rw[hq0] at r2
   rw[hp0] at r3
   rw[ha1] at s1 hat
   rw[hq1] at s2
   rw[hp1] at s3
   rw[←hat] at hsc
   obtain⟨B,hBB⟩:∃x,edgK S s k=x:=⟨_,rfl⟩
   rw[hBB] at CEk hsc
   have CEk:=Lib.hid CEk
   have hwr:=hb.size
   have HB:Hid (Below w.heap.size w wr∧Below w1.heap.size w1 wr):=Lib.hid ⟨HB1.out.trans (hb.mono HB1.out.size),hb⟩
   have HSB:Hid (∀(X:World) (x y:Operand),(do eqGuard .sub 3 x y (.int .i64 ((k:Int)+1)) (.int .i64 1);binOp .sub 3 (.int .i64 ((k:Int)+1)) (.int .i64 1):Sem Value).run Tryz.prog X = .ok (.int .i64 (k:Nat)) X):=Lib.hid fun X x y=>by
    have e:IntKind.i64.wrap (k:Int)=(k:Int):=IntWalk.i64_in _ (by omega)
    go_simp
   have HX0:Hid (∀X:World,(Instr.indexAt 93 (.slice (some ⟨g,0,none⟩) n cp) (.int .i64 (k:Nat))).run Tryz.prog X = .ok (.pointer (some ⟨g,k*3,none⟩)) X):=Lib.hid fun X=>by
    have e:(k:Int)<n:=by omega
    go_simp
   have HX1:Hid (∀X:World,(Instr.indexAt 93 (.slice (some ⟨g,0,none⟩) n cp) (.int .i64 ((k:Int)+1))).run Tryz.prog X = .ok (.pointer (some ⟨g,(k+1)*3,none⟩)) X):=Lib.hid fun X=>by
    have e:((k:Int)+1).toNat=k+1:=by omega
    have e2:¬(k:Int)+1<0:=by omega
    go_simp
   have HL0:Hid (∀X:World,Below wr.heap.size wr X→(Instr.loadAt 97 (.pointer (some ⟨g,k*3,none⟩))).run Tryz.prog X = .ok (.agg #[.int .i64 a0,.int .i32 q0,.bool p0]) X):=Lib.hid fun X hX=>by
    have c0:X.cell? ⟨g,k*3,none⟩=some (.int .i64 a0):=(hX.cell (lt_of_cell r1)).trans r1
    have c1:X.cell? ⟨g,k*3+1,none⟩=some (.int .i32 q0):=(hX.cell (lt_of_cell r2)).trans r2
    have c2:X.cell? ⟨g,k*3+2,none⟩=some (.bool p0):=(hX.cell (lt_of_cell r3)).trans r3
    go_simp
   have HL1:Hid (∀X:World,Below wr.heap.size wr X→(Instr.loadAt 97 (.pointer (some ⟨g,(k+1)*3,none⟩))).run Tryz.prog X = .ok (.agg #[.int .i64 a1,.int .i32 q1,.bool p1]) X):=Lib.hid fun X hX=>by
    have c0:X.cell? ⟨g,(k+1)*3,none⟩=some (.int .i64 a1):=(hX.cell (lt_of_cell s1)).trans s1
    have c1:X.cell? ⟨g,(k+1)*3+1,none⟩=some (.int .i32 q1):=(hX.cell (lt_of_cell s2)).trans s2
    have c2:X.cell? ⟨g,(k+1)*3+2,none⟩=some (.bool p1):=(hX.cell (lt_of_cell s3)).trans s3
    go_simp
   have HA1:Hid (∀X:World,Below wr.heap.size wr X→X.cell? ⟨g,(k+1)*3,none⟩=some (.int .i64 a1)):=Lib.hid fun X hX=>(hX.cell (lt_of_cell s1)).trans s1
   have HOW:=Lib.hid hown
   have HSC:=Lib.hid hsc
   clear hown hb hE hsc ha0 hq0 hp0 ha1 hq1 hp1 hat HI hBB r1 r2 r3 s1 s2 s3
   go_wp2_with fail
   refine wp_region_guarded (fun X=>Below wr.heap.size wr X) (fun _ _=>True) (pEs gx g n cp k a0 a1 q0 q1 p0 p1 B) (by kernel_rfl) (by kernel_rfl) (by kernel_rfl) ?hS ?hp ?hs ?hd
   case hS=>exact below_drewN (Below.refl _ _) 1
   case hp=>exact fun i v U V _ _ _ hv=>hv
   case hs =>
    refine GSteps.cons ?_ (GSteps.cons ?_ (GSteps.cons ?_ (GSteps.cons ?_ (GSteps.cons ?_ (GSteps.cons ?_ (GSteps.cons ?_ (GSteps.cons ?_ (GSteps.cons ?_ (GSteps.cons ?_ (GSteps.cons ?_ (GSteps.nil)))))))))))
    ·intro a X hX hL hd
     refine .inl ⟨rfl,?_⟩
     have e0:a.eval (.tmp 0) = .pointer (some ⟨gx,0,none⟩):=hL.far 0 (by kernel_rfl)
     exact wp_value (exec_move rfl e0) ⟨_,rfl,hX,trivial,rfl⟩
    ·intro a X hX hL hd
     refine .inl ⟨rfl,?_⟩
     have e0:a.eval (.tmp 5) = .slice (some ⟨g,0,none⟩) n cp:=hL.far 5 (by kernel_rfl)
     exact wp_value (exec_move rfl e0) ⟨_,rfl,hX,trivial,rfl⟩
    ·intro a X hX hL hd
     refine .inl ⟨rfl,?_⟩
     have e0:a.eval (.tmp 7) = .int .i64 ((k:Int)+1):=hL.far 7 (by kernel_rfl)
     exact wp_value (exec_move rfl e0) ⟨_,rfl,hX,trivial,rfl⟩
    ·intro a X hX hL hd
     refine .inl ⟨rfl,?_⟩
     have e0:a.eval (.tmp 22) = .int .i64 ((k:Int)+1):=hd 2 22 (by kernel_rfl) (by kernel_rfl)
     exact wp_value (exec_binop rfl e0 rfl (HSB.out X _ _)) ⟨_,rfl,hX,trivial,rfl⟩
    ·intro a X hX hL hd
     refine .inl ⟨rfl,?_⟩
     have e0:a.eval (.tmp 21) = .slice (some ⟨g,0,none⟩) n cp:=hd 1 21 (by kernel_rfl) (by kernel_rfl)
     have e1:a.eval (.tmp 23) = .int .i64 (k:Nat):=hd 3 23 (by kernel_rfl) (by kernel_rfl)
     exact wp_value (exec_indexAddr rfl e0 e1 (HX0.out X)) ⟨_,rfl,hX,trivial,rfl⟩
    ·intro a X hX hL hd
     refine .inl ⟨rfl,?_⟩
     have e0:a.eval (.tmp 24) = .pointer (some ⟨g,k*3,none⟩):=hd 4 24 (by kernel_rfl) (by kernel_rfl)
     exact wp_value (exec_load rfl e0 (HL0.out X hX)) ⟨_,rfl,hX,trivial,rfl⟩
    ·intro a X hX hL hd
     refine .inl ⟨rfl,?_⟩
     have e0:a.eval (.tmp 5) = .slice (some ⟨g,0,none⟩) n cp:=hL.far 5 (by kernel_rfl)
     exact wp_value (exec_move rfl e0) ⟨_,rfl,hX,trivial,rfl⟩
    ·intro a X hX hL hd
     refine .inl ⟨rfl,?_⟩
     have e0:a.eval (.tmp 7) = .int .i64 ((k:Int)+1):=hL.far 7 (by kernel_rfl)
     exact wp_value (exec_move rfl e0) ⟨_,rfl,hX,trivial,rfl⟩
    ·intro a X hX hL hd
     refine .inl ⟨rfl,?_⟩
     have e0:a.eval (.tmp 26) = .slice (some ⟨g,0,none⟩) n cp:=hd 6 26 (by kernel_rfl) (by kernel_rfl)
     have e1:a.eval (.tmp 27) = .int .i64 ((k:Int)+1):=hd 7 27 (by kernel_rfl) (by kernel_rfl)
     exact wp_value (exec_indexAddr rfl e0 e1 (HX1.out X)) ⟨_,rfl,hX,trivial,rfl⟩
    ·intro a X hX hL hd
     refine .inl ⟨rfl,?_⟩
     have e0:a.eval (.tmp 28) = .pointer (some ⟨g,(k+1)*3,none⟩):=hd 8 28 (by kernel_rfl) (by kernel_rfl)
     exact wp_value (exec_load rfl e0 (HL1.out X hX)) ⟨_,rfl,hX,trivial,rfl⟩
    ·intro a X hX hL hd
     refine .inl ⟨rfl,?_⟩
     have e0:a.eval (.tmp 20) = .pointer (some ⟨gx,0,none⟩):=hd 0 20 (by kernel_rfl) (by kernel_rfl)
     have e1:a.eval (.tmp 25) = .agg #[.int .i64 (a0:Nat),.int .i32 q0,.bool p0]:=hd 5 25 (by kernel_rfl) (by kernel_rfl)
     have e2:a.eval (.tmp 29) = .agg #[.int .i64 (a1:Nat),.int .i32 q1,.bool p1]:=hd 9 29 (by kernel_rfl) (by kernel_rfl)
     refine wp_enter (exec_call (vs:=#[.pointer (some ⟨gx,0,none⟩),.agg #[.int .i64 (a0:Nat),.int .i32 q0,.bool p0],.agg #[.int .i64 (a1:Nat),.int .i32 q1,.bool p1]]) rfl (by simp only[List.map_toArray,List.map_cons,List.map_nil,e0,e1,e2]) Tryz.func42 rfl rfl) ?_
     refine (CEk.out X (HB.out.1.trans (hX.mono HB.out.1.size))).mono ?_
     rintro e w' ⟨rfl,hb⟩
     exact⟨_,rfl,_,rfl,hX.trans (hb.mono hX.size),trivial,rfl⟩
   case hd =>
    intro X9 W9 hX hL hd _
    have h30:X9.tmps.getD 30 undef = .bool B:=hd 10 30 (by kernel_rfl)
    obtain⟨f,ha,hf⟩:=hL.out [20,21,22,23,24,25,26,27,28,29,30] (by kernel_rfl)
    have h30':f 30 = .bool B:=(hf 30).trans h30
    simp only[List.foldl_cons,List.foldl_nil,List.setIfInBounds_toArray,List.set_cons_zero,List.set_cons_succ,h30'] at ha
    clear hf hd hL h30 h30' HSB HX0 HL0 HL1 CEk
    subst ha
    have hX1:Below w1.heap.size w1 W9:=HB.out.2.trans (hX.mono hwr)
    have c9:=HA1.out W9 hX
    have hk2:IntKind.i64.wrap ((k:Int)+1+1)=((k+1:Nat):Int)+1:=by rw[IntWalk.i64_in _ (by omega)];omega
    cases B with
    | true =>
      have hsz:=hX.size
      obtain⟨g6,cap,w6,hrun,hown6,hk6,hg6,hz6⟩:=append_x (P:=Tryz.prog) W9 48 3 Tryz.underlying48 tinfoI rfl (by omega) (HOW.out.keep (X:=fun _=>False) (.of_all hX) (fun _ h=>h.elim)) [.int .i64 a1] rfl
       (by intro u hu;simp at hu;subst hu;rfl) (by unfold maxLen;omega) (by omega)
      have hgl:w1.heap.size≤g6:=by
       rcases hg6 with h|h
       ·exact HOW.out.2 g6 h
       ·omega
      have hb6:Below w1.heap.size w1 w6:=hX1.trans (hk6.below hX1.size fun b h=>HOW.out.2 b h)
      have hsc:=HSC.out
      rw[if_pos rfl] at hsc
      have hown7:OwnS (fun b=>w1.heap.size≤b) 3 1 (.slice (some ⟨g6,0,none⟩) (m+1) cap) (m+1) (encI (edP S s (k+1))) w6:=by
       rw[hsc,encI_snoc]
       exact hown6.weaken fun b hb=>by subst hb;exact hgl
      have HF:Hid (∃(k' m':Nat) (ao:Option Addr) (cv:Nat),k'+1≤n∧(.int .i64 (((k+1:Nat):Int)+1):Value) = .int .i64 ((k':Int)+1)∧(.slice (some ⟨g6,0,none⟩) (m+1) cap:Value) = .slice ao m' cv∧m'=(edP S s k').length∧Hid (OwnS (fun b=>w1.heap.size≤b) 3 1 (.slice ao m' cv) m' (encI (edP S s k')) w6∧Below w1.heap.size w1 w6)) :=
       Lib.hid ⟨k+1,m+1,_,_,by omega,rfl,rfl,by rw[hsc,List.length_append,←hm];rfl,Lib.hid ⟨hown7,hb6⟩⟩
      have HR:=Lib.hid hrun
      clear hrun hown6 hown7 hk6 hg6 hz6 hb6 hgl hX1 hX hsc hm hml
      go_wp2_with (first|(refine wpList_append_eq (o:=⟨some 38,_,_,_,_,_⟩) rfl rfl rfl rfl HR.out ?_))
      go_roundw
      case rel=>exact HF.out
      case measure=>simp[RowKit.intOf];omega
    | false =>
      have hsc:=HSC.out
      rw[if_neg (by decide)] at hsc
      have HF:Hid (∃(k' m':Nat) (ao':Option Addr) (cv':Nat),k'+1≤n∧(.int .i64 (((k+1:Nat):Int)+1):Value) = .int .i64 ((k':Int)+1)∧(.slice ao m cv:Value) = .slice ao' m' cv'∧m'=(edP S s k').length∧Hid (OwnS (fun b=>w1.heap.size≤b) 3 1 (.slice ao' m' cv') m' (encI (edP S s k')) W9∧Below w1.heap.size w1 W9)) :=
       Lib.hid ⟨k+1,m,_,_,by omega,rfl,rfl,by rw[hsc];exact hm,Lib.hid ⟨by rw[hsc];exact HOW.out.keep (X:=fun _=>False) (.of_all hX) (fun _ h=>h.elim),hX1⟩⟩
      clear hX1 hX hsc hm hml
      go_wp2
      go_roundw
      case rel=>exact HF.out
      case measure=>simp[RowKit.intOf];omega
  ·obtain rfl:n=k+1:=by omega
   obtain⟨hown,hb⟩:=HI.out
   obtain⟨g6,cap,w6,hrun,hown6,hk6,hg6,hz6⟩:=append_x (P:=Tryz.prog) wr 48 3 Tryz.underlying48 tinfoI rfl (by omega) hown [.int .i64 s.size] rfl
    (by intro u hu;simp at hu;subst hu;rfl) (by unfold maxLen;omega) (by omega)
   have hb6:Below w1.heap.size w1 w6:=hb.trans (hk6.below hb.size fun b h=>hown.2 b h)
   have HF:Hid (∃v,Ending.returned (.slice (some ⟨g6,0,none⟩) (m+1) cap) = .returned v∧NtR w6 v (edL S s)∧Below w.heap.size w w6):=Lib.hid ⟨_,rfl,by
    have e:edL S s=edP S s k++[s.size]:=HEL.out
    rw[e]
    refine ntr_own (Y:=fun b=>b=g6) (n:=m+1) ?_ (by rw[List.length_append,←hm];rfl)
    rw[encI_snoc]
    exact hown6,HB1.out.trans (hb6.mono HB1.out.size)⟩
   have HR:=Lib.hid hrun
   have hlt:¬(k:Int)+1<((k+1:Nat):Int):=by omega
   clear hrun hown6 hk6 hg6 hz6 hb6 hown hb HI hm hml
   go_wp2_with (first|(refine wpList_append_eq (o:=⟨some 43,_,_,_,_,_⟩) rfl rfl rfl rfl HR.out ?_))
   go_ret
   exact HF.out
end Go.Proofs.YtgpbaeehajkebaaGreatDoor
