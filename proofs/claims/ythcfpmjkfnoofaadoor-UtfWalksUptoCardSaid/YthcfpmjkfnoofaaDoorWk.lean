/- The walk of UtfWalks. -/
import Derived.Test.YthcfpmjkfnoofaaDoorFw
import Derived.Test.YthcfpmjkfnoofaaDoorK3
import Derived.Test.YthcfpmjkfnoofaaDoorU
import Derived.Test.YthcfpmjkfnoofaaDoorPk0
namespace Go.Proofs.YthcfpmjkfnoofaaDoor
open Go Go.RowKit Go.Kt Go.Shelf
attribute [local go_sem] Oper.semAt_some

/-- A function's value is stored in one cell. -/
theorem run_store_func (P : Program) (w : World) (a : Addr) (m : Mode) (f : Fn) (x c : Array Value) : (store a (.func f x c) m).run P w = stored P w a (.func f x c) m := run_store P w a _ m rfl
attribute [local go_sem] run_store_func
theorem neq_seq2 (f b : Nat) (w : World) : (binOp .eql 29 (.func (.func f) #[] #[.pointer (some ⟨b, 0, none⟩)]) .nilFunc).run Tryd.prog w = .ok (.bool false) w := by kernel_rfl

theorem keep_past {X Y : Nat → Prop} {A B C : World} (h : Keep X A B) (k : Keep Y B C) (hY : ∀ b, Y b → A.heap.size ≤ b) : Keep X A C :=
  ⟨k.os.trans h.os, k.tape.trans h.tape, k.output.trans h.output, Nat.le_trans h.size k.size, fun b hb hX => (k.same b (Nat.lt_of_lt_of_le hb h.size) (fun hy => by have := hY b hy; omega)).trans (h.same b hb hX)⟩

set_option maxRecDepth 100000 in
set_option maxHeartbeats 4000000 in
theorem walks_walk (s : ByteArray) (N : Int) (w : World) (hT : Lib.Utf8Tabs 1 2 w) (h2 : 3 ≤ w.heap.size) (hs : s.size ≤ 1048576) (hN : -9223372036854775808 ≤ N ∧ N ≤ 9223372036854775807) :
    Calls Tryd.prog 3 #[.string s, .int .i64 N] w fun e w' => e = .returned (.bool true) ∧ Below w.heap.size w w' := by
  have HT := Lib.hid hT; clear hT
  have hul := units_len s
  have hfn : ∀ k, Fence.wide.fn k := fun _ => trivial
  have hdep : Fence.wide.depth = none := rfl
  refine (callsIn_wide (n := 0)).1 ?_
  refine callsIn_of_wp_marks Tryd.func3 rfl trivial ?_ rfl
  simp only [Tryd.ntmps3, List.size_toArray, List.length_cons, List.length_nil, Nat.reduceAdd, Nat.reduceSub, Array.replicate_succ, Array.replicate_zero, List.push_toArray, List.append_toArray, List.nil_append, List.cons_append]
  generalize hn : w.heap.size = n at *
  gi_wp2_with fail
  refine (callsIn_wide.2 (works_any _ (tabs_below HT.out h2 (((Below.refl _ w).alloc (by omega) _).alloc (by simp; omega) _)) (by simp; omega))).mono ?_
  rintro e w1 ⟨rfl, hb1⟩
  have hn1 : ((w.alloc (.cells #[.int .i64 N] 3)).alloc (.cells #[.bool false] 4)).heap.size = n + 2 := by simp [hn]
  have b0 : w1.heap[n]? = some (.cells #[.int .i64 N] 3 (0, 0)) := by
    rw [hb1.block n (by omega)]; exact alloc_old (alloc_at hn.symm)
  have b1 : w1.heap[n + 1]? = some (.cells #[.bool false] 4 (0, 0)) := by
    rw [hb1.block (n + 1) (by omega)]; exact alloc_at (by simp [hn])
  have hbw1 : Below n w w1 := (((Below.refl n w).alloc (by omega) _).alloc (by simp; omega) _).trans (hb1.mono (by omega))
  have hz1 : n + 2 ≤ w1.heap.size := by have := hb1.size; omega
  clear hb1 hn1
  gi_wp2_with fail
  refine (callsIn_wide.2 (refPlaces_any s w1 (by omega) (by omega))).mono ?_
  rintro e w2 ⟨ap, cp, rfl, op, hb2⟩
  rw [plI_len] at op ⊢
  have SP := Lib.hid (sl_of_own (k := .i64) op (plI_len _))
  have hAp : Hid (∀ g off, ap = some ⟨g, off, none⟩ → n + 2 ≤ g) := Lib.hid fun g off e => by have := op.2 g (by rw [e]; rfl); omega
  have hz2 := hb2.size
  obtain ⟨V2, hV2⟩ : ∃ V2, w2.alloc (.cells #[.slice ap (units s).length cp] 23) = V2 := ⟨_, rfl⟩
  obtain ⟨p, hp⟩ : ∃ p, w2.heap.size = p := ⟨_, rfl⟩
  have hzV2 : V2.heap.size = p + 1 := by rw [← hV2]; simp [hp]
  have cP2 : V2.heap[p]? = some (.cells #[.slice ap (units s).length cp] 23 (0, 0)) := by rw [← hV2]; exact alloc_at hp.symm
  have hbV2 : Below p w2 V2 := by rw [← hV2]; exact (Below.refl p w2).alloc (by omega) _
  have HV2 := Lib.hid hV2
  have HB1 := Lib.hid (And.intro b0 (And.intro b1 (And.intro hbw1 hb2)))
  clear op hV2 b0 b1 hbw1 hb2
  gi_wp2_with fail
  rw [HV2.out]
  refine (callsIn_wide.2 (refRunes_any s V2 (by omega) (by omega))).mono ?_
  rintro e w3 ⟨ar, cr, rfl, or, hb3⟩
  have hnl := numsI_len s
  rw [hnl] at or ⊢
  have SR := Lib.hid (sl_of_own (k := .i32) or hnl)
  have hAr : Hid (∀ g off, ar = some ⟨g, off, none⟩ → n + 2 ≤ g) := Lib.hid fun g off e => by have := or.2 g (by rw [e]; rfl); omega
  have hz3 := hb3.size
  have HB3 := Lib.hid hb3
  clear or hb3
  obtain ⟨q, hq⟩ : ∃ q, w3.heap.size = q := ⟨_, rfl⟩
  obtain ⟨V4, hV4⟩ : ∃ V4, w3.alloc (.cells #[.slice ar (units s).length cr] 25) = V4 := ⟨_, rfl⟩
  have hzV4 : V4.heap.size = q + 1 := by rw [← hV4]; simp [hq]
  have hbV4 : Below q w3 V4 := by rw [← hV4]; exact (Below.refl q w3).alloc (by omega) _
  have hpq : p < q := by omega
  have hnp : n + 2 ≤ p := by omega
  have hb13 : Below p w2 V4 := hbV2.trans ((HB3.out.mono (by omega)).trans (hbV4.mono (by omega)))
  have f0 : V4.heap[n]? = some (.cells #[.int .i64 N] 3 (0, 0)) := (hb13.block n (by omega)).trans ((HB1.out.2.2.2.block n (by omega)).trans HB1.out.1)
  have f1 : V4.heap[n + 1]? = some (.cells #[.bool false] 4 (0, 0)) := (hb13.block (n + 1) (by omega)).trans ((HB1.out.2.2.2.block (n + 1) (by omega)).trans HB1.out.2.1)
  have f2 : V4.heap[p]? = some (.cells #[.slice ap (units s).length cp] 23 (0, 0)) := (hbV4.block p hpq).trans ((HB3.out.block p (by omega)).trans cP2)
  have f3 : V4.heap[q]? = some (.cells #[.slice ar (units s).length cr] 25 (0, 0)) := by rw [← hV4]; exact alloc_at hq.symm
  have hbw4 : Below n w V4 := HB1.out.2.2.1.trans ((HB1.out.2.2.2.mono (by omega)).trans (hb13.mono (by omega)))
  have SP4 := Lib.hid (SP.out.below (by rw [hp]; exact hb13))
  have SR4 := Lib.hid (SR.out.below (by rw [hq]; exact hbV4))
  have c0 := cell_one f0
  have c0f := frozen_one f0
  have c2 := cell_one f2
  have HV4 := Lib.hid hV4
  have c0' := c0
  have c0f' := c0f
  have c2' := c2
  rw [← hV4] at c0' c0f' c2'
  clear hV4 cP2 hbV2 hbV4 HB1 HB3 SP SR hb13
  gi_wp2_with fail
  rw [HV4.out]
  refine (callsIn_wide.2 (pick_any N ((units s).length + 1) _ hN (by omega) (by omega))).mono ?_
  rintro e w5 ⟨m, hm, rfl, rfl⟩
  clear c0' c0f' c2'
  gi_wp2_with fail
  obtain ⟨V5, hV5⟩ : ∃ V5, V4.setCell ⟨n, 0, none⟩ (.int .i64 m) = V5 := ⟨_, rfl⟩
  have hk5 : Keep (fun b => b = n) V4 V5 := by rw [← hV5]; exact Keep.setCell (X := fun b => b = n) (p := ⟨n, 0, none⟩) (Keep.refl _ _) rfl _
  have hzV5 : V5.heap.size = q + 1 := by rw [← hV5]; simp [hzV4]
  have g0 : V5.heap[n]? = some (.cells #[.int .i64 m] 3 (0, 0)) := by rw [← hV5]; exact set_at f0
  have g1 := hk5.heap f1 (by omega)
  have g2 := hk5.heap f2 (by omega)
  have g3 := hk5.heap f3 (by omega)
  have hbw5 : Below n w V5 := hbw4.trans (hk5.below (by omega) (fun b h => by omega))
  have SP5 := Lib.hid (SP4.out.keep hk5 (fun ao k c e g off eo hg => by injection e with e1 _ _; subst e1; have := hAp.out g off eo; omega))
  have SR5 := Lib.hid (SR4.out.keep hk5 (fun ao k c e g off eo hg => by injection e with e1 _ _; subst e1; have := hAr.out g off eo; omega))
  rw [hV5]
  clear hV5 hk5 f0 f1 f2 f3 SP4 SR4 hbw4 c0 c0f c2 HV4 HV2
  refine (callsIn_wide.2 (utfAll_call s _)).mono ?_
  rintro e w6 ⟨rfl, hw6⟩
  obtain ⟨V7, hV7⟩ : ∃ V7, w6.alloc (.cells #[.func (.func 54) #[] #[.pointer (some ⟨q + 1, 0, none⟩)]] 29) = V7 := ⟨_, rfl⟩
  have HV7 := Lib.hid hV7
  rw [← hw6] at hV7
  have hz6 : w6.heap.size = q + 2 := by rw [← hw6]; simp [hzV5]
  have hz7 : V7.heap.size = q + 3 := by rw [← hV7]; simp [hzV5]
  have h70 : V7.heap[q + 1]? = some (.cells #[.string s] 9 (0, 0)) := by rw [← hV7]; exact alloc_old (alloc_at hzV5.symm)
  have h71 : V7.heap[q + 2]? = some (.cells #[.func (.func 54) #[] #[.pointer (some ⟨q + 1, 0, none⟩)]] 29 (0, 0)) := by rw [← hV7]; exact alloc_at (by simp [hzV5])
  have hb57 : Below (q + 1) V5 V7 := by rw [← hV7]; exact ((Below.refl (q + 1) V5).alloc (by omega) _).alloc (by simp; omega) _
  clear hw6 hV7
  gi_wp2_with fail
  rw [HV7.out]
  refine (callsIn_wide.2 (utfBack_call s _)).mono ?_
  rintro e w8 ⟨rfl, hw8⟩
  obtain ⟨V9, hV9⟩ : ∃ V9, w8.alloc (.cells #[.func (.func 55) #[] #[.pointer (some ⟨q + 3, 0, none⟩)]] 29) = V9 := ⟨_, rfl⟩
  have HV9 := Lib.hid hV9
  rw [← hw8] at hV9
  have hz8 : w8.heap.size = q + 4 := by rw [← hw8]; simp [hz7]
  have hz9 : V9.heap.size = q + 5 := by rw [← hV9]; simp [hz7]
  have b3 : V9.heap[q + 3]? = some (.cells #[.string s] 9 (0, 0)) := by rw [← hV9]; exact alloc_old (alloc_at hz7.symm)
  have b4 : V9.heap[q + 4]? = some (.cells #[.func (.func 55) #[] #[.pointer (some ⟨q + 3, 0, none⟩)]] 29 (0, 0)) := by rw [← hV9]; exact alloc_at (by simp [hz7])
  have hb79 : Below (q + 3) V7 V9 := by rw [← hV9]; exact ((Below.refl (q + 3) V7).alloc (by omega) _).alloc (by simp; omega) _
  have hb59 : Below (q + 1) V5 V9 := hb57.trans (hb79.mono (by omega))
  have d0 := (hb59.block n (by omega)).trans g0
  have d1 := (hb59.block (n + 1) (by omega)).trans g1
  have d2 := (hb59.block p (by omega)).trans g2
  have d3 := (hb59.block q (by omega)).trans g3
  have d4 := (hb79.block (q + 1) (by omega)).trans h70
  have d5 := (hb79.block (q + 2) (by omega)).trans h71
  have SP9 := Lib.hid ((SP5.out.below (by rw [hzV5]; exact hb59)).toG)
  have SR9 := Lib.hid ((SR5.out.below (by rw [hzV5]; exact hb59)).toG)
  have hbw9 : Below n w V9 := hbw5.trans (hb59.mono (by omega))
  have c0 := cell_one d0
  have c2 := cell_one d2
  have c3 := cell_one d3
  have c5 := cell_one d5
  have c6 := cell_one b4
  clear hw8 hV9 hb57 hb79 hb59 g0 g1 g2 g3 h70 h71 SP5 SR5 hbw5
  have cF := Lib.hid (fun (X : World) (hX : Below V9.heap.size V9 X) => forward_any s ap ar cp cr m X (SP9.out.below hX) (SR9.out.below hX) hs)
  have cB := Lib.hid (fun (X : World) (hX : Below V9.heap.size V9 X) => backward_any s ap ar cp cr m X (SP9.out.below hX) (SR9.out.below hX) hs (tabs_below HT.out h2 (hbw9.trans (hX.mono (by omega)))) (by have := hX.size; omega))
  have c0' := c0
  have c2' := c2
  have c3' := c3
  have c5' := c5
  have c6' := c6
  rw [← HV9.out] at c0' c2' c3' c5' c6'
  have hnil := neq_seq2
  gi_wp2_with fail
  rw [HV9.out]
  refine (callsIn_wide.2 (cF.out _ (Below.refl _ _))).mono ?_
  rintro e X1 ⟨rfl, hx1⟩
  clear c0' c2' c3' c5' c6'
  have k0 := cell_one ((hx1.block n (by omega)).trans d0)
  have k2 := cell_one ((hx1.block p (by omega)).trans d2)
  have k3 := cell_one ((hx1.block q (by omega)).trans d3)
  gi_wp2_with fail
  refine (callsIn_wide.2 (cB.out _ hx1)).mono ?_
  rintro e X2 ⟨rfl, hx2⟩
  have hx := hx1.trans (hx2.mono hx1.size)
  have HX := Lib.hid hx
  have hzx := hx.size
  clear k0 k2 k3 hx1 hx2 c0 c2 c3 c5 c6 hx
  gi_wp2_with fail
  obtain ⟨W5, hW5⟩ : ∃ W5, X2 = W5 := ⟨_, rfl⟩
  subst hW5
  have hq0 : q + 5 ≤ X2.heap.size := by omega
  refine rounds_ind (fun m' act w' => 1 ≤ m' ∧ ∃ (T bt : Nat) (Ds : List Nat), (T + m' = 4 ∧ w'.heap[bt]? = some (.cells #[.int .i64 T] 3 (0, 0)) ∧ q + 5 ≤ bt ∧ Ds.Nodup ∧ (∀ D, D ∈ Ds → q + 5 ≤ D ∧ D ≠ bt ∧ w'.heap[D]? = some (.deferred (some []))) ∧ Below V9.heap.size V9 w') ∧
    ∃ (u10 u11 u12 u13 u14 u15 u16 u17 u18 u19 u20 u21 u22 u23 u24 u25 u26 u27 u28 u29 u30 u31 u32 u33 u34 u35 u36 u37 u38 u39 u40 u41 u42 u43 u44 u45 u46 u47 u48 u49 u50 u51 u52 u53 u54 u55 u56 u57 u58 u59 u60 u61 u62 u63 u64 u65 u66 u67 u68 u69 u70 u71 u72 u73 u74 u75 u76 u77 u78 u79 u80 u81 u82 u83 u84 u85 u86 u87 u88 u89 u90 u91 u92 u93 u94 u95 u96 u97 u98 u99 u100 u101 u102 u103 u104 u105 u106 u107 u108 u109 u110 u111 u112 u113 u114 u115 u116 u117 u118 u119 u120 u121 u122 u123 u124 u125 u126 u127 u128 u129 u130 u131 u132 u133 u134 u135 u136 u137 u138 u139 u140 u141 u142 u143 u144 u145 u146 u147 u148 u149 u150 u151 u152 u153 u154 u155 u156 u157 : Value), act = { tmps := #[.string s, .int .i64 N, undef, .pointer (some ⟨n, 0, none⟩), .pointer (some ⟨n + 1, 0, none⟩), .pointer (some ⟨p, 0, none⟩), .pointer (some ⟨q, 0, none⟩), .pointer (some ⟨q + 2, 0, none⟩), .pointer (some ⟨q + 4, 0, none⟩), .pointer (some ⟨bt, 0, none⟩), u10, u11, u12, u13, u14, u15, u16, u17, u18, u19, u20, u21, u22, u23, u24, u25, u26, u27, u28, u29, u30, u31, u32, u33, u34, u35, u36, u37, u38, u39, u40, u41, u42, u43, u44, u45, u46, u47, u48, u49, u50, u51, u52, u53, u54, u55, u56, u57, u58, u59, u60, u61, u62, u63, u64, u65, u66, u67, u68, u69, u70, u71, u72, u73, u74, u75, u76, u77, u78, u79, u80, u81, u82, u83, u84, u85, u86, u87, u88, u89, u90, u91, u92, u93, u94, u95, u96, u97, u98, u99, u100, u101, u102, u103, u104, u105, u106, u107, u108, u109, u110, u111, u112, u113, u114, u115, u116, u117, u118, u119, u120, u121, u122, u123, u124, u125, u126, u127, u128, u129, u130, u131, u132, u133, u134, u135, u136, u137, u138, u139, u140, u141, u142, u143, u144, u145, u146, u147, u148, u149, u150, u151, u152, u153, u154, u155, u156, u157], defers := Ds.map fun D => { target := .collected D, args := #[] } }) ?step (fun a w h => by have := h.1; omega) 4 ?init
  case init =>
    refine ⟨by omega, 0, X2.heap.size, [], ⟨rfl, alloc_at rfl, by omega, List.nodup_nil, fun D h => (by cases h), HX.out.alloc (by omega) _⟩, ?_⟩
    (repeat apply Exists.intro)
    rfl
  case step =>
    rintro m' act w' ⟨_, T, bt, Ds, ⟨hT4, ht, hbt, hnd, hDs, hk⟩, hinv⟩
    obtain ⟨u10, hinv⟩ := hinv; obtain ⟨u11, hinv⟩ := hinv; obtain ⟨u12, hinv⟩ := hinv; obtain ⟨u13, hinv⟩ := hinv; obtain ⟨u14, hinv⟩ := hinv; obtain ⟨u15, hinv⟩ := hinv; obtain ⟨u16, hinv⟩ := hinv; obtain ⟨u17, hinv⟩ := hinv; obtain ⟨u18, hinv⟩ := hinv; obtain ⟨u19, hinv⟩ := hinv; obtain ⟨u20, hinv⟩ := hinv; obtain ⟨u21, hinv⟩ := hinv; obtain ⟨u22, hinv⟩ := hinv; obtain ⟨u23, hinv⟩ := hinv; obtain ⟨u24, hinv⟩ := hinv; obtain ⟨u25, hinv⟩ := hinv; obtain ⟨u26, hinv⟩ := hinv; obtain ⟨u27, hinv⟩ := hinv; obtain ⟨u28, hinv⟩ := hinv; obtain ⟨u29, hinv⟩ := hinv; obtain ⟨u30, hinv⟩ := hinv; obtain ⟨u31, hinv⟩ := hinv; obtain ⟨u32, hinv⟩ := hinv; obtain ⟨u33, hinv⟩ := hinv; obtain ⟨u34, hinv⟩ := hinv; obtain ⟨u35, hinv⟩ := hinv; obtain ⟨u36, hinv⟩ := hinv; obtain ⟨u37, hinv⟩ := hinv; obtain ⟨u38, hinv⟩ := hinv; obtain ⟨u39, hinv⟩ := hinv; obtain ⟨u40, hinv⟩ := hinv; obtain ⟨u41, hinv⟩ := hinv; obtain ⟨u42, hinv⟩ := hinv; obtain ⟨u43, hinv⟩ := hinv; obtain ⟨u44, hinv⟩ := hinv; obtain ⟨u45, hinv⟩ := hinv; obtain ⟨u46, hinv⟩ := hinv; obtain ⟨u47, hinv⟩ := hinv; obtain ⟨u48, hinv⟩ := hinv; obtain ⟨u49, hinv⟩ := hinv; obtain ⟨u50, hinv⟩ := hinv; obtain ⟨u51, hinv⟩ := hinv; obtain ⟨u52, hinv⟩ := hinv; obtain ⟨u53, hinv⟩ := hinv; obtain ⟨u54, hinv⟩ := hinv; obtain ⟨u55, hinv⟩ := hinv; obtain ⟨u56, hinv⟩ := hinv; obtain ⟨u57, hinv⟩ := hinv; obtain ⟨u58, hinv⟩ := hinv; obtain ⟨u59, hinv⟩ := hinv; obtain ⟨u60, hinv⟩ := hinv; obtain ⟨u61, hinv⟩ := hinv; obtain ⟨u62, hinv⟩ := hinv; obtain ⟨u63, hinv⟩ := hinv; obtain ⟨u64, hinv⟩ := hinv; obtain ⟨u65, hinv⟩ := hinv; obtain ⟨u66, hinv⟩ := hinv; obtain ⟨u67, hinv⟩ := hinv; obtain ⟨u68, hinv⟩ := hinv; obtain ⟨u69, hinv⟩ := hinv; obtain ⟨u70, hinv⟩ := hinv; obtain ⟨u71, hinv⟩ := hinv; obtain ⟨u72, hinv⟩ := hinv; obtain ⟨u73, hinv⟩ := hinv; obtain ⟨u74, hinv⟩ := hinv; obtain ⟨u75, hinv⟩ := hinv; obtain ⟨u76, hinv⟩ := hinv; obtain ⟨u77, hinv⟩ := hinv; obtain ⟨u78, hinv⟩ := hinv; obtain ⟨u79, hinv⟩ := hinv; obtain ⟨u80, hinv⟩ := hinv; obtain ⟨u81, hinv⟩ := hinv; obtain ⟨u82, hinv⟩ := hinv; obtain ⟨u83, hinv⟩ := hinv; obtain ⟨u84, hinv⟩ := hinv; obtain ⟨u85, hinv⟩ := hinv; obtain ⟨u86, hinv⟩ := hinv; obtain ⟨u87, hinv⟩ := hinv; obtain ⟨u88, hinv⟩ := hinv; obtain ⟨u89, hinv⟩ := hinv; obtain ⟨u90, hinv⟩ := hinv; obtain ⟨u91, hinv⟩ := hinv; obtain ⟨u92, hinv⟩ := hinv; obtain ⟨u93, hinv⟩ := hinv; obtain ⟨u94, hinv⟩ := hinv; obtain ⟨u95, hinv⟩ := hinv; obtain ⟨u96, hinv⟩ := hinv; obtain ⟨u97, hinv⟩ := hinv; obtain ⟨u98, hinv⟩ := hinv; obtain ⟨u99, hinv⟩ := hinv; obtain ⟨u100, hinv⟩ := hinv; obtain ⟨u101, hinv⟩ := hinv; obtain ⟨u102, hinv⟩ := hinv; obtain ⟨u103, hinv⟩ := hinv; obtain ⟨u104, hinv⟩ := hinv; obtain ⟨u105, hinv⟩ := hinv; obtain ⟨u106, hinv⟩ := hinv; obtain ⟨u107, hinv⟩ := hinv; obtain ⟨u108, hinv⟩ := hinv; obtain ⟨u109, hinv⟩ := hinv; obtain ⟨u110, hinv⟩ := hinv; obtain ⟨u111, hinv⟩ := hinv; obtain ⟨u112, hinv⟩ := hinv; obtain ⟨u113, hinv⟩ := hinv; obtain ⟨u114, hinv⟩ := hinv; obtain ⟨u115, hinv⟩ := hinv; obtain ⟨u116, hinv⟩ := hinv; obtain ⟨u117, hinv⟩ := hinv; obtain ⟨u118, hinv⟩ := hinv; obtain ⟨u119, hinv⟩ := hinv; obtain ⟨u120, hinv⟩ := hinv; obtain ⟨u121, hinv⟩ := hinv; obtain ⟨u122, hinv⟩ := hinv; obtain ⟨u123, hinv⟩ := hinv; obtain ⟨u124, hinv⟩ := hinv; obtain ⟨u125, hinv⟩ := hinv; obtain ⟨u126, hinv⟩ := hinv; obtain ⟨u127, hinv⟩ := hinv; obtain ⟨u128, hinv⟩ := hinv; obtain ⟨u129, hinv⟩ := hinv; obtain ⟨u130, hinv⟩ := hinv; obtain ⟨u131, hinv⟩ := hinv; obtain ⟨u132, hinv⟩ := hinv; obtain ⟨u133, hinv⟩ := hinv; obtain ⟨u134, hinv⟩ := hinv; obtain ⟨u135, hinv⟩ := hinv; obtain ⟨u136, hinv⟩ := hinv; obtain ⟨u137, hinv⟩ := hinv; obtain ⟨u138, hinv⟩ := hinv; obtain ⟨u139, hinv⟩ := hinv; obtain ⟨u140, hinv⟩ := hinv; obtain ⟨u141, hinv⟩ := hinv; obtain ⟨u142, hinv⟩ := hinv; obtain ⟨u143, hinv⟩ := hinv; obtain ⟨u144, hinv⟩ := hinv; obtain ⟨u145, hinv⟩ := hinv; obtain ⟨u146, hinv⟩ := hinv; obtain ⟨u147, hinv⟩ := hinv; obtain ⟨u148, hinv⟩ := hinv; obtain ⟨u149, hinv⟩ := hinv; obtain ⟨u150, hinv⟩ := hinv; obtain ⟨u151, hinv⟩ := hinv; obtain ⟨u152, hinv⟩ := hinv; obtain ⟨u153, hinv⟩ := hinv; obtain ⟨u154, hinv⟩ := hinv; obtain ⟨u155, hinv⟩ := hinv; obtain ⟨u156, hinv⟩ := hinv; obtain ⟨u157, hinv⟩ := hinv
    subst hinv
    have kt := cell_one ht
    have hzk := hk.size
    have e1 := (hk.block (n + 1) (by omega)).trans d1
    have k1 := cell_one e1
    have f1 := frozen_one e1
    by_cases hT3 : T < 3
    · have hT3' : (T : Int) < 3 := by omega
      have e0 := (hk.block n (by omega)).trans d0
      have e2 := (hk.block p (by omega)).trans d2
      have e3 := (hk.block q (by omega)).trans d3
      have e4 := (hk.block (q + 1) (by omega)).trans d4
      have e5 := (hk.block (q + 2) (by omega)).trans d5
      have e6 := (hk.block (q + 3) (by omega)).trans b3
      have e7 := (hk.block (q + 4) (by omega)).trans b4
      obtain ⟨kb, hkb⟩ : ∃ kb, w'.heap.size = kb := ⟨_, rfl⟩
      obtain ⟨W6, hW6⟩ : ∃ W6, w'.alloc (.cells #[.int .i64 0] 3) = W6 := ⟨_, rfl⟩
      have hk6 : Keep (fun _ => False) w' W6 := by rw [← hW6]; exact (Keep.refl _ _).alloc _
      have hz6 : W6.heap.size = kb + 1 := by rw [← hW6]; simp [hkb]
      have hb6 : Below V9.heap.size V9 W6 := hk.trans (hk6.below (X := fun _ => False) (by omega) (fun _ h => h.elim))
      have rk : W6.heap[kb]? = some (.cells #[.int .i64 0] 3 (0, 0)) := by rw [← hW6]; exact alloc_at hkb.symm
      have r0 := hk6.heap e0 (fun h => h)
      have r1 := hk6.heap e1 (fun h => h)
      have r2 := hk6.heap e2 (fun h => h)
      have r3 := hk6.heap e3 (fun h => h)
      have r4 := hk6.heap e4 (fun h => h)
      have r5 := hk6.heap e5 (fun h => h)
      have r6 := hk6.heap e6 (fun h => h)
      have r7 := hk6.heap e7 (fun h => h)
      have rt := hk6.heap ht (fun h => h)
      have hbtk : bt < kb := by have := (Array.getElem?_eq_some_iff.1 ht).1; omega
      have rD : Hid (∀ D, D ∈ Ds → q + 5 ≤ D ∧ D ≠ bt ∧ D < kb ∧ W6.heap[D]? = some (.deferred (some []))) := Lib.hid fun D hD => by
        obtain ⟨h1, h2, h3⟩ := hDs D hD
        exact ⟨h1, h2, by have := (Array.getElem?_eq_some_iff.1 h3).1; omega, hk6.heap h3 (fun h => h)⟩
      have c5 := cell_one r5
      rw [← hW6] at c5
      have HW6 := Lib.hid hW6
      clear hW6
      have HND := Lib.hid hnd
      clear e0 e1 e2 e3 e4 e5 e6 e7 ht hDs hnd k1 f1 hk6
      gi_wp2_with fail
      rw [HW6.out]
      clear c5
      refine loop_out (gf := 54) (lb := #[.pointer (some ⟨q + 1, 0, none⟩)]) (encs := enc2) rfl (enters_of Tryd.func54 (by kernel_rfl) rfl)
        (all_iter s (q + 1) W6 (cell_one r4) (by omega)) (fun _ => rfl) (X := fun b => b = kb)
        (fun b hb => by omega) (fun b hb => by omega) (fun _ _ => rfl) (Nat.le_refl _)
        (fun pre Y W => W.heap[kb]? = some (.cells #[.int .i64 (pre.length : Nat)] 3 (0, 0)))
        (fun c pre Y W => c = .exit 2 ∧ T = 0 ∧ ∃ kv : Nat, W.heap[kb]? = some (.cells #[.int .i64 kv] 3 (0, 0)))
        (fun pre Y W W' hk h => hk.heap h (fun hx => by have := hx.1; omega))
        (fun c pre Y W W' hk h => by obtain ⟨h1, h2, kv, h3⟩ := h; exact ⟨h1, h2, kv, hk.heap h3 (fun hx => by have := hx.1; omega)⟩) rk ?round ?done ?stop
      case round =>
        rintro l hl pre ⟨at', r⟩ Y W hpre hi hkW hY hlt hr
        gi_wp2
        refine ⟨Keep.refl _ _, ?_⟩
        rintro W2 _ hk2 hp2 hr2
        obtain ⟨rest, hrest⟩ := hpre
        have hkl : pre.length < (units s).length := by rw [← hrest]; simp
        have e1 : (plI (units s))[pre.length]? = some (at' : Int) := by rw [← hrest]; simp [plI]
        have e2 : (numsI s)[pre.length]? = some (r : Int) := by
          rw [show numsI s = (units s).map fun p => (p.2 : Int) by simp [numsI, nums_units, List.map_map, Function.comp_def], ← hrest]; simp
        have hB2 : Below V9.heap.size V9 W2 := hb6.trans (hk2.below (by omega) (fun b hb => by omega))
        obtain ⟨A, rfl, q1⟩ := slg_cell SP9.out _ _ e1
        obtain ⟨A', rfl, q2⟩ := slg_cell SR9.out _ _ e2
        have y1 := (hB2.cell (by have := lt_of_cell q1; omega)).trans q1
        have y2 := (hB2.cell (by have := lt_of_cell q2; omega)).trans q2
        have x0 := cell_one (hk2.heap r0 (by omega))
        have x2 := cell_one (hk2.heap r2 (by omega))
        have x3 := cell_one (hk2.heap r3 (by omega))
        have xt := cell_one (hk2.heap rt (by omega))
        have xk := cell_one hp2
        have xf := frozen_one hp2
        have HP2 := Lib.hid (And.intro hp2 (And.intro hk2 hB2))
        have HR2 := Lib.hid hr2
        have HR4 := Lib.hid (And.intro r4 (And.intro r5 (And.intro r6 r7)))
        clear hp2 hr2 hr hi hrest hkW r0 r1 r2 r3 r4 r5 r6 r7 rk rt q1 q2 e1 e2 hB2 hk2
        generalize (units s).length = R at *
        generalize hpk : pre.length = k at *
        rcases (by omega : T = 0 ∨ T = 1 ∨ T = 2) with rfl | rfl | rfl
        · gi_wp2_with fail
          · exact ⟨Y, Keep.setCell (X := fun b => b = kb ∨ Y b) (p := ⟨kb, 0, none⟩) (Keep.refl _ _) (.inl rfl) _, fun b h => .inl h, rfl, k + 1, set_at (u := .int .i64 ((k : Int) + 1)) HP2.out.1⟩
          · exact ⟨Y, Keep.setCell (X := fun b => b = kb ∨ Y b) (p := ⟨kb, 0, none⟩) (Keep.refl _ _) (.inl rfl) _, fun b h => .inl h, by have := set_at (u := .int .i64 ((k : Int) + 1)) HP2.out.1; simpa [hpk] using this⟩
        · have x5 := cell_one (HP2.out.2.1.heap HR4.out.2.1 (by omega))
          have x7 := cell_one (HP2.out.2.1.heap HR4.out.2.2.2 (by omega))
          by_cases hk3 : (k : Int) + 1 ≤ 3
          · obtain ⟨V, hV⟩ : ∃ V, (W2.setCell ⟨kb, 0, none⟩ (.int .i64 ((k : Int) + 1))).alloc (.cells #[.int .i64 0] 3) = V := ⟨_, rfl⟩
            obtain ⟨mb, hmb⟩ : ∃ mb, W2.heap.size = mb := ⟨_, rfl⟩
            have hkV : Keep (fun b => b = kb) W2 V := by rw [← hV]; exact (Keep.setCell (X := fun b => b = kb) (p := ⟨kb, 0, none⟩) (Keep.refl _ _) rfl _).alloc _
            have hmV : V.heap[mb]? = some (.cells #[.int .i64 0] 3 (0, 0)) := by rw [← hV]; exact alloc_at (by simp [hmb])
            have hzV : V.heap.size = mb + 1 := by rw [← hV]; simp [hmb]
            have hkbV : V.heap[kb]? = some (.cells #[.int .i64 ((k : Int) + 1)] 3 (0, 0)) := by rw [← hV]; exact alloc_old (set_at HP2.out.1)
            have hkbm : kb < mb := by have := (Array.getElem?_eq_some_iff.1 HP2.out.1).1; omega
            have v4 := hkV.heap (HP2.out.2.1.heap HR4.out.1 (by omega)) (by omega)
            have v5 := hkV.heap (HP2.out.2.1.heap HR4.out.2.1 (by omega)) (by omega)
            have v6 := hkV.heap (HP2.out.2.1.heap HR4.out.2.2.1 (by omega)) (by omega)
            have v7 := hkV.heap (HP2.out.2.1.heap HR4.out.2.2.2 (by omega)) (by omega)
            have hlm : l < mb := by obtain ⟨r, hr⟩ := HR2.out; have := (Array.getElem?_eq_some_iff.1 hr).1; omega
            have hrV : ∃ r, V.heap[l]? = some (.loop r) := by obtain ⟨r, hr⟩ := HR2.out; exact ⟨r, hkV.heap hr (by omega)⟩
            have z5 := cell_one v5
            rw [← hV] at z5
            have HV := Lib.hid hV
            have HHV := Lib.hid (And.intro hkV (And.intro hkbV (And.intro v6 (And.intro v7 hrV))))
            clear hV x5 x7 v5 v6 v7 hkV hkbV
            gi_wp2_with fail
            rw [HV.out]
            clear z5
            refine loop_in (l₀ := l) hrV (gf := 54) (lb := #[.pointer (some ⟨q + 1, 0, none⟩)]) (encs := enc2) rfl (enters_of Tryd.func54 (by kernel_rfl) rfl)
              (all_iter s (q + 1) V (cell_one v4) (by omega)) (fun _ => rfl) (X := fun b => b = mb)
              (fun b hb => by omega) (fun b hb => by omega) (fun _ _ => rfl) (Nat.le_refl _)
              (fun pre Y W => W.heap[mb]? = some (.cells #[.int .i64 (pre.length : Nat)] 3 (0, 0))) (fun _ _ _ _ => False)
              (fun pre Y W W' hk h => hk.heap h (fun hx => by have := hx.1; omega)) (fun _ _ _ _ _ _ h => h) hmV ?round1 ?done1 (fun _ _ _ _ _ h => h.elim)
            case round1 =>
              rintro l' hl' pre' ⟨at2, r2⟩ Y' W' hpre' hi' hk' hY' hlt' hr'
              gi_wp2
              refine ⟨Keep.refl _ _, ?_⟩
              rintro W3 _ hk3' hp3 hr3
              have hkl3 : pre'.length < s.size := by obtain ⟨rest', h'⟩ := hpre'; have := units_len s; rw [← h'] at this; simp at this; omega
              have xm := cell_one hp3
              have xmf := frozen_one hp3
              have HP3 := Lib.hid hp3
              clear hp3 hr3 hr' hi' hk' hpre' hrV hmV v4 x0 x2 x3 xt xk xf y1 y2
              gi_wp2_with fail
              exact ⟨Y', Keep.setCell (X := fun b => b = mb ∨ Y' b) (p := ⟨mb, 0, none⟩) (Keep.refl _ _) (.inl rfl) _, fun b h => .inl h, by have := set_at (u := .int .i64 ((pre'.length : Int) + 1)) HP3.out; simpa using this⟩
            case done1 =>
              rintro Y1 W1' hi1 hY1 hk1
              have hkW1 : Keep (fun b => b = kb) W2 W1' := keep_past HHV.out.1 hk1 (fun b hb => by omega)
              have u6 := hk1.heap HHV.out.2.2.1 (by omega)
              have u7 := cell_one (hk1.heap HHV.out.2.2.2.1 (by omega))
              have hr1 : ∃ r, W1'.heap[l]? = some (.loop r) := by obtain ⟨r, hr⟩ := HHV.out.2.2.2.2; exact ⟨r, hk1.heap hr (by omega)⟩
              have hT1 : Lib.Utf8Tabs 1 2 W1' := tabs_below HT.out h2 (hbw9.trans ((HP2.out.2.2.mono (by omega)).trans (hkW1.below (by omega) (fun b hb => by omega))))
              have hzW1 : mb + 1 ≤ W1'.heap.size := by have := hk1.size; omega
              have HW1 := Lib.hid (And.intro hkW1 (hk1.heap HHV.out.2.1 (by omega)))
              have HT1 := Lib.hid hT1
              clear hk1 hkW1 hT1 x0 x2 x3 xt xk xf y1 y2 v4 hrV hmV
              gi_wp2_with fail
              refine loop_in (l₀ := l) hr1 (gf := 55) (lb := #[.pointer (some ⟨q + 3, 0, none⟩)]) (encs := enc2) rfl (enters_of Tryd.func55 (by kernel_rfl) rfl)
                (back_iter s (q + 3) W1' (cell_one u6) (by omega) HT1.out (by omega)) (fun _ => rfl) (X := fun b => b = mb)
                (fun b hb => by omega) (fun b hb => by omega) (fun _ _ => rfl) (Nat.le_refl _)
                (fun pre Y W => ∃ kk : Nat, kk + pre.length = (units s).length ∧ W.heap[mb]? = some (.cells #[.int .i64 (kk : Nat)] 3 (0, 0))) (fun _ _ _ _ => False)
                (fun pre Y W W' hk h => by obtain ⟨kk, h0, h1⟩ := h; exact ⟨kk, h0, hk.heap h1 (fun hx => by have := hx.1; omega)⟩) (fun _ _ _ _ _ _ h => h) ⟨_, rfl, hi1⟩ ?round2 ?done2 (fun _ _ _ _ _ h => h.elim)
              case round2 =>
                rintro l' hl' pre' ⟨at2, r2⟩ Y' W' hpre' hi' hk' hY' hlt' hr'
                gi_wp2
                refine ⟨Keep.refl _ _, ?_⟩
                rintro W3 _ hk3' ⟨kk, hkk, hp3⟩ hr3
                obtain ⟨jj, rfl⟩ : ∃ jj, kk = jj + 1 := ⟨kk - 1, by obtain ⟨rest', h'⟩ := hpre'; have := congrArg List.length h'; simp at this; omega⟩
                have hjs : jj < s.size := by have := units_len s; omega
                have xm : W3.cell? ⟨mb, 0, none⟩ = some (.int .i64 ((jj : Int) + 1)) := by have := cell_one hp3; simpa using this
                have xmf := frozen_one hp3
                have HP3 := Lib.hid (And.intro hp3 hkk)
                clear hp3 hr3 hr' hi' hk' hpre' hr1 u6 u7 hkk hi1
                gi_wp2_with fail
                exact ⟨Y', Keep.setCell (X := fun b => b = mb ∨ Y' b) (p := ⟨mb, 0, none⟩) (Keep.refl _ _) (.inl rfl) _, fun b h => .inl h, jj, by have := HP3.out.2; simp only [List.length_append, List.length_cons, List.length_nil]; omega, set_at (u := .int .i64 (jj : Int)) HP3.out.1⟩
              case done2 =>
                rintro Y3 W3 ⟨kk, hkk, hp3⟩ hY3 hk3'
                obtain rfl : kk = 0 := by rw [List.length_reverse] at hkk; omega
                have hkW3 : Keep (fun b => b = kb) W2 W3 := keep_past HW1.out.1 hk3' (fun b hb => by omega)
                have xm := cell_one hp3
                have HK3 := Lib.hid (And.intro hkW3 (hk3'.heap HW1.out.2 (by omega)))
                clear hp3 hk3' hkW3 hr1 u6 u7 hi1
                gi_wp2_with fail
                exact ⟨Y, HK3.out.1.weaken (fun _ _ h => .inl h), fun b h => .inl h, by have := HK3.out.2; simpa [hpk] using this⟩
          · gi_wp2_with fail
            exact ⟨Y, Keep.setCell (X := fun b => b = kb ∨ Y b) (p := ⟨kb, 0, none⟩) (Keep.refl _ _) (.inl rfl) _, fun b h => .inl h, by have := set_at (u := .int .i64 ((k : Int) + 1)) HP2.out.1; simpa [hpk] using this⟩
        · gi_wp2_with fail
          exact ⟨Y, Keep.setCell (X := fun b => b = kb ∨ Y b) (p := ⟨kb, 0, none⟩) (Keep.refl _ _) (.inl rfl) _, fun b h => .inl h, by have := set_at (u := .int .i64 ((k : Int) + 1)) HP2.out.1; simpa [hpk] using this⟩
      case done =>
        rintro D Y W hD hDd hkk hY hkW
        obtain ⟨kv, hkv⟩ : ∃ kv, (units s).length = kv := ⟨_, rfl⟩
        have HTk : Hid (T = 0 ∨ kv = (units s).length) := Lib.hid (.inr hkv.symm)
        have hkk : W.heap[kb]? = some (.cells #[.int .i64 (kv : Nat)] 3 (0, 0)) := by rw [← hkv]; exact hkk
        clear hkv
        have p0 := hkW.heap r0 (by omega)
        have p1 := hkW.heap r1 (by omega)
        have p2 := hkW.heap r2 (by omega)
        have p3 := hkW.heap r3 (by omega)
        have p6 := hkW.heap r6 (by omega)
        have p7 := hkW.heap r7 (by omega)
        have pt := hkW.heap rt (by omega)
        have hzW := hkW.size
        obtain ⟨jb, hjb⟩ : ∃ jb, W.heap.size = jb := ⟨_, rfl⟩
        obtain ⟨U, hU⟩ : ∃ U, W.alloc (.cells #[.int .i64 ((units s).length : Nat)] 3) = U := ⟨_, rfl⟩
        have hkU : Keep (fun _ => False) W U := by rw [← hU]; exact (Keep.refl _ _).alloc _
        have hzU : U.heap.size = jb + 1 := by rw [← hU]; simp [hjb]
        have hjU : U.heap[jb]? = some (.cells #[.int .i64 ((units s).length : Nat)] 3 (0, 0)) := by rw [← hU]; exact alloc_at hjb.symm
        have hDj : D < jb := by have := (Array.getElem?_eq_some_iff.1 hDd).1; omega
        have hbU : Below V9.heap.size V9 U := (hb6.trans (hkW.below (by omega) (fun b hb => by omega))).trans (hkU.below (by omega) (fun _ h => h.elim))
        have HTU : Hid (Lib.Utf8Tabs 1 2 U) := Lib.hid (tabs_below HT.out h2 (hbw9.trans (hbU.mono (by omega))))
        have i0 := hkU.heap p0 (fun h => h)
        have i2 := hkU.heap p2 (fun h => h)
        have i3 := hkU.heap p3 (fun h => h)
        have i6 := hkU.heap p6 (fun h => h)
        have it := hkU.heap pt (fun h => h)
        have ik := hkU.heap hkk (fun h => h)
        have hfin : Hid (∀ (D2 : Nat) (W3 : World), U.heap.size ≤ D2 → W3.heap[D2]? = some (.deferred (some [])) → Keep (fun x => x = jb) U W3 →
            (T + 1 + m' = 4 ∧ (W3.alloc (.cells #[.int .i64 ((T : Int) + 1)] 3)).heap[W3.heap.size]? = some (.cells #[.int .i64 ((T + 1 : Nat) : Int)] 3 (0, 0)) ∧ q + 5 ≤ W3.heap.size ∧ (D2 :: D :: Ds).Nodup ∧
              (∀ D', D' ∈ D2 :: D :: Ds → q + 5 ≤ D' ∧ D' ≠ W3.heap.size ∧ (W3.alloc (.cells #[.int .i64 ((T : Int) + 1)] 3)).heap[D']? = some (.deferred (some []))) ∧ Below V9.heap.size V9 (W3.alloc (.cells #[.int .i64 ((T : Int) + 1)] 3)))) := Lib.hid (by
          intro D2 W3 hD2 hDd2 hk3
          have hz3 := hk3.size
          have hD2l : D2 < W3.heap.size := (Array.getElem?_eq_some_iff.1 hDd2).1
          have hb3 : Below V9.heap.size V9 W3 := hbU.trans (hk3.below (by omega) (fun b hb => by omega))
          refine ⟨by omega, alloc_at rfl, by omega, List.nodup_cons.2 ⟨?_, List.nodup_cons.2 ⟨fun h => by have := (rD.out D h).2.2.1; omega, HND.out⟩⟩, fun D' hD' => ?_, hb3.alloc (by omega) _⟩
          · intro h
            rcases List.mem_cons.1 h with h | h
            · omega
            · have := (rD.out D2 h).2.2.1; omega
          · rcases List.mem_cons.1 hD' with rfl | hD'
            · exact ⟨by omega, by omega, alloc_old hDd2⟩
            · rcases List.mem_cons.1 hD' with rfl | hD'
              · exact ⟨by omega, by omega, alloc_old (hk3.heap (hkU.heap hDd (fun h => h)) (by omega))⟩
              · obtain ⟨h1, h2', h3, h4⟩ := rD.out D' hD'
                exact ⟨h1, by omega, alloc_old (hk3.heap (hkU.heap (hkW.heap h4 (by omega)) (fun h => h)) (by omega))⟩)
        have c2 := cell_one p2
        have c7 := cell_one p7
        have c7' := cell_one (hkU.heap p7 (fun h => h))
        rw [← hU] at c7'
        have HU := Lib.hid hU
        clear hU hkU hkW p0 p1 p2 p3 p6 p7 pt r0 r1 r2 r3 r4 r5 r6 r7 rt rk hkk hDd hY
        gi_wp2_with fail
        rw [HU.out]
        clear c2 c7 c7'
        refine loop_out (gf := 55) (lb := #[.pointer (some ⟨q + 3, 0, none⟩)]) (encs := enc2) rfl (enters_of Tryd.func55 (by kernel_rfl) rfl)
          (back_iter s (q + 3) U (cell_one i6) (by omega) HTU.out (by omega)) (fun _ => rfl) (X := fun b => b = jb)
          (fun b hb => by omega) (fun b hb => by omega) (fun _ _ => rfl) (Nat.le_refl _)
          (fun pre Y W => ∃ kk : Nat, kk + pre.length = (units s).length ∧ W.heap[jb]? = some (.cells #[.int .i64 (kk : Nat)] 3 (0, 0)))
          (fun c pre Y W => c = .exit 8 ∧ T = 0 ∧ ∃ jv : Nat, W.heap[jb]? = some (.cells #[.int .i64 jv] 3 (0, 0)))
          (fun pre Y W W' hk h => by obtain ⟨kk, h0, h1⟩ := h; exact ⟨kk, h0, hk.heap h1 (fun hx => by have := hx.1; omega)⟩)
          (fun c pre Y W W' hk h => by obtain ⟨h1, h2, jv, h3⟩ := h; exact ⟨h1, h2, jv, hk.heap h3 (fun hx => by have := hx.1; omega)⟩) ⟨_, rfl, hjU⟩ ?round3 ?done3 ?stop3
        case round3 =>
          rintro l hl pre ⟨at', r⟩ Y W3 hpre hi hkW3 hY3 hlt hr
          gi_wp2
          refine ⟨Keep.refl _ _, ?_⟩
          rintro W2 _ hk2 ⟨kk, hkk2, hp2⟩ hr2
          obtain ⟨rest, hrest⟩ := hpre
          have hUn : units s = rest.reverse ++ (at', r) :: pre.reverse := by
            rw [← List.reverse_reverse (units s), ← hrest]; simp
          obtain ⟨j, hj⟩ : ∃ j, rest.length = j := ⟨_, rfl⟩
          have hRl : (units s).length = j + 1 + pre.length := by rw [hUn]; simp; omega
          obtain rfl : kk = j + 1 := by omega
          have hjR : j < (units s).length := by omega
          have e1 : (plI (units s))[j]? = some (at' : Int) := by rw [hUn]; simp [plI, hj]
          have e2 : (numsI s)[j]? = some (r : Int) := by
            rw [show numsI s = (units s).map fun p => (p.2 : Int) by simp [numsI, nums_units, List.map_map, Function.comp_def], hUn]; simp [hj]
          have hB2 : Below V9.heap.size V9 W2 := hbU.trans (hk2.below (by omega) (fun b hb => by omega))
          obtain ⟨A, rfl, q1⟩ := slg_cell SP9.out _ _ e1
          obtain ⟨A', rfl, q2⟩ := slg_cell SR9.out _ _ e2
          have y1 := (hB2.cell (by have := lt_of_cell q1; omega)).trans q1
          have y2 := (hB2.cell (by have := lt_of_cell q2; omega)).trans q2
          have x0 := cell_one (hk2.heap i0 (by omega))
          have x2 := cell_one (hk2.heap i2 (by omega))
          have x3 := cell_one (hk2.heap i3 (by omega))
          have xt := cell_one (hk2.heap it (by omega))
          have xj : W2.cell? ⟨jb, 0, none⟩ = some (.int .i64 ((j : Int) + 1)) := by have := cell_one hp2; simpa using this
          have xf := frozen_one hp2
          have HP2 := Lib.hid (And.intro hp2 (And.intro hkk2 hRl))
          have hj0 : (((j : Int) + 1) == 0) = false := by simp; omega
          clear hp2 hr2 hr hi hrest hkW3 i0 i2 i3 i6 it ik q1 q2 e1 e2 hB2 hk2 hUn hj hkk2 hRl hY3 hjU
          generalize (units s).length = R at *
          rcases (by omega : T = 0 ∨ T = 1 ∨ T = 2) with rfl | rfl | rfl
          · gi_wp2_with fail
            · exact ⟨Y, Keep.setCell (X := fun b => b = jb ∨ Y b) (p := ⟨jb, 0, none⟩) (Keep.refl _ _) (.inl rfl) _, fun b h => .inl h, rfl, j, set_at (u := .int .i64 (j : Int)) HP2.out.1⟩
            · exact ⟨Y, Keep.setCell (X := fun b => b = jb ∨ Y b) (p := ⟨jb, 0, none⟩) (Keep.refl _ _) (.inl rfl) _, fun b h => .inl h, j, by have := HP2.out.2.2; simp only [List.length_append, List.length_cons, List.length_nil]; omega, set_at (u := .int .i64 (j : Int)) HP2.out.1⟩
          all_goals
            gi_wp2_with fail
            exact ⟨Y, Keep.setCell (X := fun b => b = jb ∨ Y b) (p := ⟨jb, 0, none⟩) (Keep.refl _ _) (.inl rfl) _, fun b h => .inl h, j, by have := HP2.out.2.2; simp only [List.length_append, List.length_cons, List.length_nil]; omega, set_at (u := .int .i64 (j : Int)) HP2.out.1⟩
        case done3 =>
          rintro D2 Y3 W3 hD2 hDd2 ⟨kk, hkk2, hj3⟩ hY3 hkW3
          obtain rfl : kk = 0 := by rw [List.length_reverse] at hkk2; omega
          have HF := Lib.hid (hfin.out D2 W3 (by omega) hDd2 hkW3)
          have x2 := cell_one (hkW3.heap i2 (by omega))
          have xt := cell_one (hkW3.heap it (by omega))
          have xk := cell_one (hkW3.heap ik (by omega))
          have xj := cell_one hj3
          clear i0 i2 i3 i6 it ik hkW3 hfin hDd2 hj3 hY3 hjU hkk2
          rcases (by omega : T = 0 ∨ 1 ≤ T) with hT0 | hT1
          · subst hT0
            gi_wp2_with fail
            refine ⟨by omega, 1, W3.heap.size, D2 :: D :: Ds, HF.out, ?_⟩
            (repeat apply Exists.intro)
            rfl
          · have hkv : kv = (units s).length := HTk.out.resolve_left (by omega)
            subst hkv
            have hTp : (0 : Int) < T := by omega
            have hne : (((units s).length : Int) != (units s).length) = false := by simp
            gi_wp2_with fail
            refine ⟨by omega, T + 1, W3.heap.size, D2 :: D :: Ds, HF.out, ?_⟩
            (repeat apply Exists.intro)
            rfl
        case stop3 =>
          rintro D2 c pre Y3 W3 hD2 hDd2 hpre ⟨rfl, hT0, jv, hj3⟩ hY3 hkW3
          have HF := Lib.hid (hfin.out D2 W3 (by omega) hDd2 hkW3)
          have x2 := cell_one (hkW3.heap i2 (by omega))
          have xt := cell_one (hkW3.heap it (by omega))
          have xk := cell_one (hkW3.heap ik (by omega))
          have xj := cell_one hj3
          clear i0 i2 i3 i6 it ik hkW3 hfin hDd2 hj3 hY3 hjU hpre
          subst hT0
          gi_wp2_with fail
          refine ⟨by omega, 1, W3.heap.size, D2 :: D :: Ds, HF.out, ?_⟩
          (repeat apply Exists.intro)
          rfl
      case stop =>
        rintro D c pre Y W hD hDd hpre ⟨rfl, hTz, kv, hkk⟩ hY hkW
        have HTk : Hid (T = 0 ∨ kv = (units s).length) := Lib.hid (.inl hTz)
        have HTz := Lib.hid hTz
        clear hTz hpre
        have p0 := hkW.heap r0 (by omega)
        have p1 := hkW.heap r1 (by omega)
        have p2 := hkW.heap r2 (by omega)
        have p3 := hkW.heap r3 (by omega)
        have p6 := hkW.heap r6 (by omega)
        have p7 := hkW.heap r7 (by omega)
        have pt := hkW.heap rt (by omega)
        have hzW := hkW.size
        obtain ⟨jb, hjb⟩ : ∃ jb, W.heap.size = jb := ⟨_, rfl⟩
        obtain ⟨U, hU⟩ : ∃ U, W.alloc (.cells #[.int .i64 ((units s).length : Nat)] 3) = U := ⟨_, rfl⟩
        have hkU : Keep (fun _ => False) W U := by rw [← hU]; exact (Keep.refl _ _).alloc _
        have hzU : U.heap.size = jb + 1 := by rw [← hU]; simp [hjb]
        have hjU : U.heap[jb]? = some (.cells #[.int .i64 ((units s).length : Nat)] 3 (0, 0)) := by rw [← hU]; exact alloc_at hjb.symm
        have hDj : D < jb := by have := (Array.getElem?_eq_some_iff.1 hDd).1; omega
        have hbU : Below V9.heap.size V9 U := (hb6.trans (hkW.below (by omega) (fun b hb => by omega))).trans (hkU.below (by omega) (fun _ h => h.elim))
        have HTU : Hid (Lib.Utf8Tabs 1 2 U) := Lib.hid (tabs_below HT.out h2 (hbw9.trans (hbU.mono (by omega))))
        have i0 := hkU.heap p0 (fun h => h)
        have i2 := hkU.heap p2 (fun h => h)
        have i3 := hkU.heap p3 (fun h => h)
        have i6 := hkU.heap p6 (fun h => h)
        have it := hkU.heap pt (fun h => h)
        have ik := hkU.heap hkk (fun h => h)
        have hfin : Hid (∀ (D2 : Nat) (W3 : World), U.heap.size ≤ D2 → W3.heap[D2]? = some (.deferred (some [])) → Keep (fun x => x = jb) U W3 →
            (T + 1 + m' = 4 ∧ (W3.alloc (.cells #[.int .i64 ((T : Int) + 1)] 3)).heap[W3.heap.size]? = some (.cells #[.int .i64 ((T + 1 : Nat) : Int)] 3 (0, 0)) ∧ q + 5 ≤ W3.heap.size ∧ (D2 :: D :: Ds).Nodup ∧
              (∀ D', D' ∈ D2 :: D :: Ds → q + 5 ≤ D' ∧ D' ≠ W3.heap.size ∧ (W3.alloc (.cells #[.int .i64 ((T : Int) + 1)] 3)).heap[D']? = some (.deferred (some []))) ∧ Below V9.heap.size V9 (W3.alloc (.cells #[.int .i64 ((T : Int) + 1)] 3)))) := Lib.hid (by
          intro D2 W3 hD2 hDd2 hk3
          have hz3 := hk3.size
          have hD2l : D2 < W3.heap.size := (Array.getElem?_eq_some_iff.1 hDd2).1
          have hb3 : Below V9.heap.size V9 W3 := hbU.trans (hk3.below (by omega) (fun b hb => by omega))
          refine ⟨by omega, alloc_at rfl, by omega, List.nodup_cons.2 ⟨?_, List.nodup_cons.2 ⟨fun h => by have := (rD.out D h).2.2.1; omega, HND.out⟩⟩, fun D' hD' => ?_, hb3.alloc (by omega) _⟩
          · intro h
            rcases List.mem_cons.1 h with h | h
            · omega
            · have := (rD.out D2 h).2.2.1; omega
          · rcases List.mem_cons.1 hD' with rfl | hD'
            · exact ⟨by omega, by omega, alloc_old hDd2⟩
            · rcases List.mem_cons.1 hD' with rfl | hD'
              · exact ⟨by omega, by omega, alloc_old (hk3.heap (hkU.heap hDd (fun h => h)) (by omega))⟩
              · obtain ⟨h1, h2', h3, h4⟩ := rD.out D' hD'
                exact ⟨h1, by omega, alloc_old (hk3.heap (hkU.heap (hkW.heap h4 (by omega)) (fun h => h)) (by omega))⟩)
        have c2 := cell_one p2
        have c7 := cell_one p7
        have c7' := cell_one (hkU.heap p7 (fun h => h))
        rw [← hU] at c7'
        have HU := Lib.hid hU
        clear hU hkU hkW p0 p1 p2 p3 p6 p7 pt r0 r1 r2 r3 r4 r5 r6 r7 rt rk hkk hDd hY
        gi_wp2_with fail
        rw [HU.out]
        clear c2 c7 c7'
        refine loop_out (gf := 55) (lb := #[.pointer (some ⟨q + 3, 0, none⟩)]) (encs := enc2) rfl (enters_of Tryd.func55 (by kernel_rfl) rfl)
          (back_iter s (q + 3) U (cell_one i6) (by omega) HTU.out (by omega)) (fun _ => rfl) (X := fun b => b = jb)
          (fun b hb => by omega) (fun b hb => by omega) (fun _ _ => rfl) (Nat.le_refl _)
          (fun pre Y W => ∃ kk : Nat, kk + pre.length = (units s).length ∧ W.heap[jb]? = some (.cells #[.int .i64 (kk : Nat)] 3 (0, 0)))
          (fun c pre Y W => c = .exit 8 ∧ T = 0 ∧ ∃ jv : Nat, W.heap[jb]? = some (.cells #[.int .i64 jv] 3 (0, 0)))
          (fun pre Y W W' hk h => by obtain ⟨kk, h0, h1⟩ := h; exact ⟨kk, h0, hk.heap h1 (fun hx => by have := hx.1; omega)⟩)
          (fun c pre Y W W' hk h => by obtain ⟨h1, h2, jv, h3⟩ := h; exact ⟨h1, h2, jv, hk.heap h3 (fun hx => by have := hx.1; omega)⟩) ⟨_, rfl, hjU⟩ ?round3 ?done3 ?stop3
        case round3 =>
          rintro l hl pre ⟨at', r⟩ Y W3 hpre hi hkW3 hY3 hlt hr
          gi_wp2
          refine ⟨Keep.refl _ _, ?_⟩
          rintro W2 _ hk2 ⟨kk, hkk2, hp2⟩ hr2
          obtain ⟨rest, hrest⟩ := hpre
          have hUn : units s = rest.reverse ++ (at', r) :: pre.reverse := by
            rw [← List.reverse_reverse (units s), ← hrest]; simp
          obtain ⟨j, hj⟩ : ∃ j, rest.length = j := ⟨_, rfl⟩
          have hRl : (units s).length = j + 1 + pre.length := by rw [hUn]; simp; omega
          obtain rfl : kk = j + 1 := by omega
          have hjR : j < (units s).length := by omega
          have e1 : (plI (units s))[j]? = some (at' : Int) := by rw [hUn]; simp [plI, hj]
          have e2 : (numsI s)[j]? = some (r : Int) := by
            rw [show numsI s = (units s).map fun p => (p.2 : Int) by simp [numsI, nums_units, List.map_map, Function.comp_def], hUn]; simp [hj]
          have hB2 : Below V9.heap.size V9 W2 := hbU.trans (hk2.below (by omega) (fun b hb => by omega))
          obtain ⟨A, rfl, q1⟩ := slg_cell SP9.out _ _ e1
          obtain ⟨A', rfl, q2⟩ := slg_cell SR9.out _ _ e2
          have y1 := (hB2.cell (by have := lt_of_cell q1; omega)).trans q1
          have y2 := (hB2.cell (by have := lt_of_cell q2; omega)).trans q2
          have x0 := cell_one (hk2.heap i0 (by omega))
          have x2 := cell_one (hk2.heap i2 (by omega))
          have x3 := cell_one (hk2.heap i3 (by omega))
          have xt := cell_one (hk2.heap it (by omega))
          have xj : W2.cell? ⟨jb, 0, none⟩ = some (.int .i64 ((j : Int) + 1)) := by have := cell_one hp2; simpa using this
          have xf := frozen_one hp2
          have HP2 := Lib.hid (And.intro hp2 (And.intro hkk2 hRl))
          have hj0 : (((j : Int) + 1) == 0) = false := by simp; omega
          clear hp2 hr2 hr hi hrest hkW3 i0 i2 i3 i6 it ik q1 q2 e1 e2 hB2 hk2 hUn hj hkk2 hRl hY3 hjU
          generalize (units s).length = R at *
          rcases (by omega : T = 0 ∨ T = 1 ∨ T = 2) with rfl | rfl | rfl
          · gi_wp2_with fail
            · exact ⟨Y, Keep.setCell (X := fun b => b = jb ∨ Y b) (p := ⟨jb, 0, none⟩) (Keep.refl _ _) (.inl rfl) _, fun b h => .inl h, rfl, j, set_at (u := .int .i64 (j : Int)) HP2.out.1⟩
            · exact ⟨Y, Keep.setCell (X := fun b => b = jb ∨ Y b) (p := ⟨jb, 0, none⟩) (Keep.refl _ _) (.inl rfl) _, fun b h => .inl h, j, by have := HP2.out.2.2; simp only [List.length_append, List.length_cons, List.length_nil]; omega, set_at (u := .int .i64 (j : Int)) HP2.out.1⟩
          all_goals
            gi_wp2_with fail
            exact ⟨Y, Keep.setCell (X := fun b => b = jb ∨ Y b) (p := ⟨jb, 0, none⟩) (Keep.refl _ _) (.inl rfl) _, fun b h => .inl h, j, by have := HP2.out.2.2; simp only [List.length_append, List.length_cons, List.length_nil]; omega, set_at (u := .int .i64 (j : Int)) HP2.out.1⟩
        case done3 =>
          rintro D2 Y3 W3 hD2 hDd2 ⟨kk, hkk2, hj3⟩ hY3 hkW3
          obtain rfl : kk = 0 := by rw [List.length_reverse] at hkk2; omega
          have HF := Lib.hid (hfin.out D2 W3 (by omega) hDd2 hkW3)
          have x2 := cell_one (hkW3.heap i2 (by omega))
          have xt := cell_one (hkW3.heap it (by omega))
          have xk := cell_one (hkW3.heap ik (by omega))
          have xj := cell_one hj3
          clear i0 i2 i3 i6 it ik hkW3 hfin hDd2 hj3 hY3 hjU hkk2
          rcases (by omega : T = 0 ∨ 1 ≤ T) with hT0 | hT1
          · subst hT0
            gi_wp2_with fail
            refine ⟨by omega, 1, W3.heap.size, D2 :: D :: Ds, HF.out, ?_⟩
            (repeat apply Exists.intro)
            rfl
          · have hkv : kv = (units s).length := HTk.out.resolve_left (by omega)
            subst hkv
            have hTp : (0 : Int) < T := by omega
            have hne : (((units s).length : Int) != (units s).length) = false := by simp
            gi_wp2_with fail
            refine ⟨by omega, T + 1, W3.heap.size, D2 :: D :: Ds, HF.out, ?_⟩
            (repeat apply Exists.intro)
            rfl
        case stop3 =>
          rintro D2 c pre Y3 W3 hD2 hDd2 hpre ⟨rfl, hT0, jv, hj3⟩ hY3 hkW3
          have HF := Lib.hid (hfin.out D2 W3 (by omega) hDd2 hkW3)
          have x2 := cell_one (hkW3.heap i2 (by omega))
          have xt := cell_one (hkW3.heap it (by omega))
          have xk := cell_one (hkW3.heap ik (by omega))
          have xj := cell_one hj3
          clear i0 i2 i3 i6 it ik hkW3 hfin hDd2 hj3 hY3 hjU hpre
          subst hT0
          gi_wp2_with fail
          refine ⟨by omega, 1, W3.heap.size, D2 :: D :: Ds, HF.out, ?_⟩
          (repeat apply Exists.intro)
          rfl
    · have hT3' : 3 ≤ (T : Int) := by omega
      have Hnd := Lib.hid hnd
      have HDs' := Lib.hid hDs
      have hbw' := Lib.hid (hbw9.trans (hk.mono (by omega)))
      clear hDs hnd
      gi_wp2_with fail
      refine leaves_marks (Ds := Ds) Hnd.out (fun D hD => set_old (HDs'.out D hD).2.2 (by have := (HDs'.out D hD).1; omega)) (fun W' hk' => ?_)
      have hDs' := HDs'.out
      refine ⟨_, results_cell_one (g := n + 1) rfl _ _ _ rfl (cell_one (hk'.heap (set_at (u := .bool true) e1) (fun h => by have := (hDs' (n + 1) h).1; omega))) Tryd.isAgg4, rfl, ?_⟩
      exact (hbw'.out.setCell (by simp) _).trans (hk'.below (by simp; omega) (fun D h => by have := (hDs' D h).1; omega))
end Go.Proofs.YthcfpmjkfnoofaaDoor
