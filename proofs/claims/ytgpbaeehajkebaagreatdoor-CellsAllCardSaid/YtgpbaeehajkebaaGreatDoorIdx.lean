/- cells: the unit at a place of a text: 0A and 0D. -/
import Derived.Test.YtgpbaeehajkebaaGreatDoorGv16
namespace Go.Proofs.YtgpbaeehajkebaaGreatDoor
open Go Go.RowKit Go.Kt
set_option maxRecDepth 100000 in
set_option maxHeartbeats 1000000 in
theorem ua3 {gp:Nat} {s:ByteArray} {a:Int} {w w0:World} {v c h:Int} (H:Hid (CuIn gp s a w w0 10 v 3 c h))  : CuOut gp s a w ⟨10,true,true,false,h⟩:=by
 unfold CuOut
 obtain⟨a1,H0,CD,CK,CC,CH⟩:=H.out
 have HW0:=Lib.hid a1
 clear a1 H
 go_enter Tryz.func20,Tryz.ntmps20
 go_wp2_with fail
 rw[HW0.out]
 refine CD.out.mono ?_
 rintro e w1 ⟨rfl,hb1⟩
 have hg1:w1.heap[w.heap.size]? = some cuZ:=(hb1.block _ (Array.getElem?_eq_some_iff.1 H0.out.2).1).trans H0.out.2
 have H1:Hid (Below w.heap.size w w1∧w1.heap[w.heap.size]? = some cuZ):=Lib.hid ⟨H0.out.1.trans (hb1.mono H0.out.1.size),hg1⟩
 clear hb1 hg1
 go_wp2_with fail
 refine (CK.out w1 H1.out.1).mono ?_
 rintro e w2 ⟨rfl,hb2⟩
 have H2:=Lib.hid (cu_keep H1.out hb2)
 clear hb2
 go_wp2_with fail
 refine (CH.out w2).mono ?_
 rintro e w9 ⟨rfl,hw9⟩
 subst hw9
 have ST:=Lib.hid (cu_store ⟨10,true,true,false,h⟩ H2.out.2)
 go_wp2_with (refine wpList_store_cu rfl rfl rfl rfl rfl ST.out ?_;clear ST)
 (try simp only[Exit.inBlock,Exit.then])
 refine bodyPost_ret (results_cell_row rfl _ _ w.heap.size 52 #[.int .i32 10,.bool true,.bool true,.bool false,.int .i64 h] (0,0) _ rfl (cuSet_at ⟨10,true,true,false,h⟩ H2.out.2) Tryz.underlying52 rfl (by kernel_rfl)) rfl ?_
 exact⟨by congr 1,H2.out.1.trans (cuSet_below (V:=w9) (Nat.le_refl _) ⟨10,true,true,false,h⟩)⟩
set_option maxRecDepth 100000 in
set_option maxHeartbeats 1000000 in
theorem ua6 {gp:Nat} {s:ByteArray} {a:Int} {w w0:World} {v c h:Int} (H:Hid (CuIn gp s a w w0 10 v 6 c h))  : CuOut gp s a w ⟨10,true,true,true,h⟩:=by
 unfold CuOut
 obtain⟨a1,H0,CD,CK,CC,CH⟩:=H.out
 have HW0:=Lib.hid a1
 clear a1 H
 go_enter Tryz.func20,Tryz.ntmps20
 go_wp2_with fail
 rw[HW0.out]
 refine CD.out.mono ?_
 rintro e w1 ⟨rfl,hb1⟩
 have hg1:w1.heap[w.heap.size]? = some cuZ:=(hb1.block _ (Array.getElem?_eq_some_iff.1 H0.out.2).1).trans H0.out.2
 have H1:Hid (Below w.heap.size w w1∧w1.heap[w.heap.size]? = some cuZ):=Lib.hid ⟨H0.out.1.trans (hb1.mono H0.out.1.size),hg1⟩
 clear hb1 hg1
 go_wp2_with fail
 refine (CK.out w1 H1.out.1).mono ?_
 rintro e w2 ⟨rfl,hb2⟩
 have H2:=Lib.hid (cu_keep H1.out hb2)
 clear hb2
 go_wp2_with fail
 refine (CH.out w2).mono ?_
 rintro e w9 ⟨rfl,hw9⟩
 subst hw9
 have ST:=Lib.hid (cu_store ⟨10,true,true,true,h⟩ H2.out.2)
 go_wp2_with (refine wpList_store_cu rfl rfl rfl rfl rfl ST.out ?_;clear ST)
 (try simp only[Exit.inBlock,Exit.then])
 refine bodyPost_ret (results_cell_row rfl _ _ w.heap.size 52 #[.int .i32 10,.bool true,.bool true,.bool true,.int .i64 h] (0,0) _ rfl (cuSet_at ⟨10,true,true,true,h⟩ H2.out.2) Tryz.underlying52 rfl (by kernel_rfl)) rfl ?_
 exact⟨by congr 1,H2.out.1.trans (cuSet_below (V:=w9) (Nat.le_refl _) ⟨10,true,true,true,h⟩)⟩
set_option maxRecDepth 100000 in
set_option maxHeartbeats 1000000 in
theorem uac {gp:Nat} {s:ByteArray} {a:Int} {w w0:World} {k v c h:Int} (H:Hid (CuIn gp s a w w0 10 v k c h)) (k3':(k==3)=false) (k6':(k==6)=false) (hc:0<c):CuOut gp s a w ⟨10,true,true,false,h⟩:=by
 unfold CuOut
 obtain⟨a1,H0,CD,CK,CC,CH⟩:=H.out
 have HW0:=Lib.hid a1
 clear a1 H
 go_enter Tryz.func20,Tryz.ntmps20
 go_wp2_with fail
 rw[HW0.out]
 refine CD.out.mono ?_
 rintro e w1 ⟨rfl,hb1⟩
 have hg1:w1.heap[w.heap.size]? = some cuZ:=(hb1.block _ (Array.getElem?_eq_some_iff.1 H0.out.2).1).trans H0.out.2
 have H1:Hid (Below w.heap.size w w1∧w1.heap[w.heap.size]? = some cuZ):=Lib.hid ⟨H0.out.1.trans (hb1.mono H0.out.1.size),hg1⟩
 clear hb1 hg1
 go_wp2_with fail
 refine (CK.out w1 H1.out.1).mono ?_
 rintro e w2 ⟨rfl,hb2⟩
 have H2:=Lib.hid (cu_keep H1.out hb2)
 clear hb2
 go_wp2_with fail
 refine (CC.out w2 H2.out.1).mono ?_
 rintro e w3 ⟨rfl,hb3⟩
 have H3:=Lib.hid (cu_keep H2.out hb3)
 clear hb3
 go_wp2_with fail
 refine (CH.out w3).mono ?_
 rintro e w9 ⟨rfl,hw9⟩
 subst hw9
 have ST:=Lib.hid (cu_store ⟨10,true,true,false,h⟩ H3.out.2)
 go_wp2_with (refine wpList_store_cu rfl rfl rfl rfl rfl ST.out ?_;clear ST)
 (try simp only[Exit.inBlock,Exit.then])
 refine bodyPost_ret (results_cell_row rfl _ _ w.heap.size 52 #[.int .i32 10,.bool true,.bool true,.bool false,.int .i64 h] (0,0) _ rfl (cuSet_at ⟨10,true,true,false,h⟩ H3.out.2) Tryz.underlying52 rfl (by kernel_rfl)) rfl ?_
 exact⟨by congr 1,H3.out.1.trans (cuSet_below (V:=w9) (Nat.le_refl _) ⟨10,true,true,false,h⟩)⟩
set_option maxRecDepth 100000 in
set_option maxHeartbeats 1000000 in
theorem uan {gp:Nat} {s:ByteArray} {a:Int} {w w0:World} {k v c h:Int} (H:Hid (CuIn gp s a w w0 10 v k c h)) (k3':(k==3)=false) (k6':(k==6)=false) (hc:¬0<c):CuOut gp s a w ⟨10,true,false,false,h⟩:=by
 unfold CuOut
 obtain⟨a1,H0,CD,CK,CC,CH⟩:=H.out
 have HW0:=Lib.hid a1
 clear a1 H
 have hc2:decide (0<c)=false:=decide_eq_false hc
 clear hc
 go_enter Tryz.func20,Tryz.ntmps20
 go_wp2_with fail
 rw[HW0.out]
 refine CD.out.mono ?_
 rintro e w1 ⟨rfl,hb1⟩
 have hg1:w1.heap[w.heap.size]? = some cuZ:=(hb1.block _ (Array.getElem?_eq_some_iff.1 H0.out.2).1).trans H0.out.2
 have H1:Hid (Below w.heap.size w w1∧w1.heap[w.heap.size]? = some cuZ):=Lib.hid ⟨H0.out.1.trans (hb1.mono H0.out.1.size),hg1⟩
 clear hb1 hg1
 go_wp2_with fail
 refine (CK.out w1 H1.out.1).mono ?_
 rintro e w2 ⟨rfl,hb2⟩
 have H2:=Lib.hid (cu_keep H1.out hb2)
 clear hb2
 go_wp2_with fail
 refine (CC.out w2 H2.out.1).mono ?_
 rintro e w3 ⟨rfl,hb3⟩
 have H3:=Lib.hid (cu_keep H2.out hb3)
 clear hb3
 go_wp2_with fail
 refine (CH.out w3).mono ?_
 rintro e w9 ⟨rfl,hw9⟩
 subst hw9
 have ST:=Lib.hid (cu_store ⟨10,true,false,false,h⟩ H3.out.2)
 go_wp2_with (refine wpList_store_cu rfl rfl rfl rfl rfl ST.out ?_;clear ST)
 (try simp only[Exit.inBlock,Exit.then])
 refine bodyPost_ret (results_cell_row rfl _ _ w.heap.size 52 #[.int .i32 10,.bool true,.bool false,.bool false,.int .i64 h] (0,0) _ rfl (cuSet_at ⟨10,true,false,false,h⟩ H3.out.2) Tryz.underlying52 rfl (by kernel_rfl)) rfl ?_
 exact⟨by congr 1,H3.out.1.trans (cuSet_below (V:=w9) (Nat.le_refl _) ⟨10,true,false,false,h⟩)⟩
set_option maxRecDepth 100000 in
set_option maxHeartbeats 1000000 in
theorem ub3 {gp:Nat} {s:ByteArray} {a:Int} {w w0:World} {v c h:Int} (H:Hid (CuIn gp s a w w0 13 v 3 c h))  : CuOut gp s a w ⟨13,true,true,false,h⟩:=by
 unfold CuOut
 obtain⟨a1,H0,CD,CK,CC,CH⟩:=H.out
 have HW0:=Lib.hid a1
 clear a1 H
 go_enter Tryz.func20,Tryz.ntmps20
 go_wp2_with fail
 rw[HW0.out]
 refine CD.out.mono ?_
 rintro e w1 ⟨rfl,hb1⟩
 have hg1:w1.heap[w.heap.size]? = some cuZ:=(hb1.block _ (Array.getElem?_eq_some_iff.1 H0.out.2).1).trans H0.out.2
 have H1:Hid (Below w.heap.size w w1∧w1.heap[w.heap.size]? = some cuZ):=Lib.hid ⟨H0.out.1.trans (hb1.mono H0.out.1.size),hg1⟩
 clear hb1 hg1
 go_wp2_with fail
 refine (CK.out w1 H1.out.1).mono ?_
 rintro e w2 ⟨rfl,hb2⟩
 have H2:=Lib.hid (cu_keep H1.out hb2)
 clear hb2
 go_wp2_with fail
 refine (CH.out w2).mono ?_
 rintro e w9 ⟨rfl,hw9⟩
 subst hw9
 have ST:=Lib.hid (cu_store ⟨13,true,true,false,h⟩ H2.out.2)
 go_wp2_with (refine wpList_store_cu rfl rfl rfl rfl rfl ST.out ?_;clear ST)
 (try simp only[Exit.inBlock,Exit.then])
 refine bodyPost_ret (results_cell_row rfl _ _ w.heap.size 52 #[.int .i32 13,.bool true,.bool true,.bool false,.int .i64 h] (0,0) _ rfl (cuSet_at ⟨13,true,true,false,h⟩ H2.out.2) Tryz.underlying52 rfl (by kernel_rfl)) rfl ?_
 exact⟨by congr 1,H2.out.1.trans (cuSet_below (V:=w9) (Nat.le_refl _) ⟨13,true,true,false,h⟩)⟩
set_option maxRecDepth 100000 in
set_option maxHeartbeats 1000000 in
theorem ub6 {gp:Nat} {s:ByteArray} {a:Int} {w w0:World} {v c h:Int} (H:Hid (CuIn gp s a w w0 13 v 6 c h))  : CuOut gp s a w ⟨13,true,true,true,h⟩:=by
 unfold CuOut
 obtain⟨a1,H0,CD,CK,CC,CH⟩:=H.out
 have HW0:=Lib.hid a1
 clear a1 H
 go_enter Tryz.func20,Tryz.ntmps20
 go_wp2_with fail
 rw[HW0.out]
 refine CD.out.mono ?_
 rintro e w1 ⟨rfl,hb1⟩
 have hg1:w1.heap[w.heap.size]? = some cuZ:=(hb1.block _ (Array.getElem?_eq_some_iff.1 H0.out.2).1).trans H0.out.2
 have H1:Hid (Below w.heap.size w w1∧w1.heap[w.heap.size]? = some cuZ):=Lib.hid ⟨H0.out.1.trans (hb1.mono H0.out.1.size),hg1⟩
 clear hb1 hg1
 go_wp2_with fail
 refine (CK.out w1 H1.out.1).mono ?_
 rintro e w2 ⟨rfl,hb2⟩
 have H2:=Lib.hid (cu_keep H1.out hb2)
 clear hb2
 go_wp2_with fail
 refine (CH.out w2).mono ?_
 rintro e w9 ⟨rfl,hw9⟩
 subst hw9
 have ST:=Lib.hid (cu_store ⟨13,true,true,true,h⟩ H2.out.2)
 go_wp2_with (refine wpList_store_cu rfl rfl rfl rfl rfl ST.out ?_;clear ST)
 (try simp only[Exit.inBlock,Exit.then])
 refine bodyPost_ret (results_cell_row rfl _ _ w.heap.size 52 #[.int .i32 13,.bool true,.bool true,.bool true,.int .i64 h] (0,0) _ rfl (cuSet_at ⟨13,true,true,true,h⟩ H2.out.2) Tryz.underlying52 rfl (by kernel_rfl)) rfl ?_
 exact⟨by congr 1,H2.out.1.trans (cuSet_below (V:=w9) (Nat.le_refl _) ⟨13,true,true,true,h⟩)⟩
set_option maxRecDepth 100000 in
set_option maxHeartbeats 1000000 in
theorem ubc {gp:Nat} {s:ByteArray} {a:Int} {w w0:World} {k v c h:Int} (H:Hid (CuIn gp s a w w0 13 v k c h)) (k3':(k==3)=false) (k6':(k==6)=false) (hc:0<c):CuOut gp s a w ⟨13,true,true,false,h⟩:=by
 unfold CuOut
 obtain⟨a1,H0,CD,CK,CC,CH⟩:=H.out
 have HW0:=Lib.hid a1
 clear a1 H
 go_enter Tryz.func20,Tryz.ntmps20
 go_wp2_with fail
 rw[HW0.out]
 refine CD.out.mono ?_
 rintro e w1 ⟨rfl,hb1⟩
 have hg1:w1.heap[w.heap.size]? = some cuZ:=(hb1.block _ (Array.getElem?_eq_some_iff.1 H0.out.2).1).trans H0.out.2
 have H1:Hid (Below w.heap.size w w1∧w1.heap[w.heap.size]? = some cuZ):=Lib.hid ⟨H0.out.1.trans (hb1.mono H0.out.1.size),hg1⟩
 clear hb1 hg1
 go_wp2_with fail
 refine (CK.out w1 H1.out.1).mono ?_
 rintro e w2 ⟨rfl,hb2⟩
 have H2:=Lib.hid (cu_keep H1.out hb2)
 clear hb2
 go_wp2_with fail
 refine (CC.out w2 H2.out.1).mono ?_
 rintro e w3 ⟨rfl,hb3⟩
 have H3:=Lib.hid (cu_keep H2.out hb3)
 clear hb3
 go_wp2_with fail
 refine (CH.out w3).mono ?_
 rintro e w9 ⟨rfl,hw9⟩
 subst hw9
 have ST:=Lib.hid (cu_store ⟨13,true,true,false,h⟩ H3.out.2)
 go_wp2_with (refine wpList_store_cu rfl rfl rfl rfl rfl ST.out ?_;clear ST)
 (try simp only[Exit.inBlock,Exit.then])
 refine bodyPost_ret (results_cell_row rfl _ _ w.heap.size 52 #[.int .i32 13,.bool true,.bool true,.bool false,.int .i64 h] (0,0) _ rfl (cuSet_at ⟨13,true,true,false,h⟩ H3.out.2) Tryz.underlying52 rfl (by kernel_rfl)) rfl ?_
 exact⟨by congr 1,H3.out.1.trans (cuSet_below (V:=w9) (Nat.le_refl _) ⟨13,true,true,false,h⟩)⟩
set_option maxRecDepth 100000 in
set_option maxHeartbeats 1000000 in
theorem ubn {gp:Nat} {s:ByteArray} {a:Int} {w w0:World} {k v c h:Int} (H:Hid (CuIn gp s a w w0 13 v k c h)) (k3':(k==3)=false) (k6':(k==6)=false) (hc:¬0<c):CuOut gp s a w ⟨13,true,false,false,h⟩:=by
 unfold CuOut
 obtain⟨a1,H0,CD,CK,CC,CH⟩:=H.out
 have HW0:=Lib.hid a1
 clear a1 H
 have hc2:decide (0<c)=false:=decide_eq_false hc
 clear hc
 go_enter Tryz.func20,Tryz.ntmps20
 go_wp2_with fail
 rw[HW0.out]
 refine CD.out.mono ?_
 rintro e w1 ⟨rfl,hb1⟩
 have hg1:w1.heap[w.heap.size]? = some cuZ:=(hb1.block _ (Array.getElem?_eq_some_iff.1 H0.out.2).1).trans H0.out.2
 have H1:Hid (Below w.heap.size w w1∧w1.heap[w.heap.size]? = some cuZ):=Lib.hid ⟨H0.out.1.trans (hb1.mono H0.out.1.size),hg1⟩
 clear hb1 hg1
 go_wp2_with fail
 refine (CK.out w1 H1.out.1).mono ?_
 rintro e w2 ⟨rfl,hb2⟩
 have H2:=Lib.hid (cu_keep H1.out hb2)
 clear hb2
 go_wp2_with fail
 refine (CC.out w2 H2.out.1).mono ?_
 rintro e w3 ⟨rfl,hb3⟩
 have H3:=Lib.hid (cu_keep H2.out hb3)
 clear hb3
 go_wp2_with fail
 refine (CH.out w3).mono ?_
 rintro e w9 ⟨rfl,hw9⟩
 subst hw9
 have ST:=Lib.hid (cu_store ⟨13,true,false,false,h⟩ H3.out.2)
 go_wp2_with (refine wpList_store_cu rfl rfl rfl rfl rfl ST.out ?_;clear ST)
 (try simp only[Exit.inBlock,Exit.then])
 refine bodyPost_ret (results_cell_row rfl _ _ w.heap.size 52 #[.int .i32 13,.bool true,.bool false,.bool false,.int .i64 h] (0,0) _ rfl (cuSet_at ⟨13,true,false,false,h⟩ H3.out.2) Tryz.underlying52 rfl (by kernel_rfl)) rfl ?_
 exact⟨by congr 1,H3.out.1.trans (cuSet_below (V:=w9) (Nat.le_refl _) ⟨13,true,false,false,h⟩)⟩
end Go.Proofs.YtgpbaeehajkebaaGreatDoor
