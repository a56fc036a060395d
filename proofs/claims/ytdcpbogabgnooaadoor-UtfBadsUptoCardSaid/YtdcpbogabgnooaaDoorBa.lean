/- The walk of UtfBads. -/
import Derived.Test.YtdcpbogabgnooaaDoorX
import Derived.Test.YtdcpbogabgnooaaDoorU
import Derived.Test.YtdcpbogabgnooaaDoorK3
namespace Go.Proofs.YtdcpbogabgnooaaDoor
open Go Go.RowKit Go.Kt Go.Shelf
attribute [local go_sem] Oper.semAt_some

/-- A number below n out of any. -/
theorem pick_any (k : Int) (n : Nat) (w : World) (hk : -9223372036854775808 ≤ k ∧ k ≤ 9223372036854775807) (hn : 1 ≤ n) (hn2 : n ≤ 9223372036854775807) :
    Calls Tryd.prog 26 #[.int .i64 k, .int .i64 n] w fun e w' => ∃ m : Nat, m < n ∧ e = .returned (.int .i64 m) ∧ w = w' := by
  have h1 : decide ((n : Int) < 1) = false := by simp; omega
  have hz : ((n : Int) == 0) = false := by simp; omega
  go_enter Tryd.func26, Tryd.ntmps26
  go_wp2
  · have t1 : k.tmod n < n := Int.tmod_lt_of_pos _ (by omega)
    have t2 : -(n : Int) < k.tmod n := Int.lt_tmod_of_pos _ (by omega)
    go_ret
    obtain ⟨m, hm⟩ := Int.eq_ofNat_of_zero_le (show 0 ≤ k.tmod n + n by omega)
    have e1 : wrap64 (k.tmod n + n) = (m : Int) := by rw [hm]; unfold wrap64; omega
    rw [e1]
    exact ⟨m, by omega, rfl, rfl⟩
  · have t1 : k.tmod n < n := Int.tmod_lt_of_pos _ (by omega)
    have t3 : 0 ≤ k.tmod n := by assumption
    go_ret
    obtain ⟨m, hm⟩ := Int.eq_ofNat_of_zero_le t3
    rw [hm]
    exact ⟨m, by omega, rfl, rfl⟩

theorem neq_func47 (f b : Nat) (w : World) : (binOp .eql 47 (.func (.func f) #[] #[.pointer (some ⟨b, 0, none⟩)]) .nilFunc).run Tryd.prog w = .ok (.bool false) w := by kernel_rfl

set_option maxRecDepth 100000 in
set_option maxHeartbeats 1000000 in
theorem bads_walk (s : ByteArray) (a : Int) (w : World) (hT : Lib.Utf8Tabs 0 1 w) (h2 : 2 ≤ w.heap.size) (hs : s.size ≤ 1048576) (ha : -9223372036854775808 ≤ a ∧ a ≤ 9223372036854775807) :
    Calls Tryd.prog 8 #[.string s, .int .i64 a] w fun e w' => e = .returned (.bool true) ∧ Below w.heap.size w w' := by
  have HT := Lib.hid hT; clear hT
  have hfn : ∀ k, Fence.wide.fn k := fun _ => trivial
  have hdep : Fence.wide.depth = none := rfl
  refine (callsIn_wide (n := 0)).1 ?_
  refine callsIn_of_wp_marks Tryd.func8 rfl trivial ?_ rfl
  simp only [Tryd.ntmps8, List.size_toArray, List.length_cons, List.length_nil, Nat.reduceAdd, Nat.reduceSub, Array.replicate_succ, Array.replicate_zero, List.push_toArray, List.append_toArray, List.nil_append, List.cons_append]
  gi_wp2_with fail
  refine (callsIn_wide.2 (works_any _ (tabs_below HT.out h2 (((Below.refl _ w).alloc (Nat.le_refl _) _).alloc (by simp) _)) (by simp))).mono ?_
  rintro e w1 ⟨rfl, hb1⟩
  generalize hn : w.heap.size = n at *
  have hn1 : ((w.alloc (.cells #[.int .i64 a] 3)).alloc (.cells #[.bool false] 4)).heap.size = n + 2 := by simp [hn]
  have b0 : w1.heap[n]? = some (.cells #[.int .i64 a] 3 (0, 0)) := by
    rw [hb1.block n (by omega)]; exact alloc_old (alloc_at hn.symm)
  have b1 : w1.heap[n + 1]? = some (.cells #[.bool false] 4 (0, 0)) := by
    rw [hb1.block (n + 1) (by omega)]; exact alloc_at (by simp [hn])
  have hbw : Below n w w1 := (((Below.refl n w).alloc (by omega) _).alloc (by simp; omega) _).trans (hb1.mono (by omega))
  have hz1 : n + 2 ≤ w1.heap.size := by have := hb1.size; omega
  clear hb1 hn1
  gi_wp2_with fail
  refine (callsIn_wide.2 (refBad_any s w1 (by omega))).mono ?_
  rintro e w2 ⟨v, rfl, hown, hb2⟩
  obtain ⟨R, hR⟩ : ∃ R, bads s = R := ⟨_, rfl⟩
  have hRl : R.length ≤ s.size := by rw [← hR]; exact bads_len s
  rw [hR] at hown
  have HR := Lib.hid hR
  clear hR
  obtain ⟨ao, cap, rfl, _, hread⟩ := piece_slice hown
  clear hown
  have c0 : w2.heap[n]? = some (.cells #[.int .i64 a] 3 (0, 0)) := (hb2.block n (by omega)).trans b0
  have c1 : w2.heap[n + 1]? = some (.cells #[.bool false] 4 (0, 0)) := (hb2.block _ (by omega)).trans b1
  have hz2 : n + 2 ≤ w2.heap.size := by have := hb2.size; omega
  have hbw2 : Below n w w2 := hbw.trans (hb2.mono (by omega))
  clear b0 b1 hbw hb2
  have Hread := Lib.hid hread
  clear hread
  generalize hb : w2.heap.size = b at *
  have e0 : (w2.alloc (.cells #[.slice ao R.length cap] 44)).heap[n]? = some (.cells #[.int .i64 a] 3 (0, 0)) := alloc_old c0
  have e1 : (w2.alloc (.cells #[.slice ao R.length cap] 44)).heap[n + 1]? = some (.cells #[.bool false] 4 (0, 0)) := alloc_old c1
  have e2 : (w2.alloc (.cells #[.slice ao R.length cap] 44)).heap[b]? = some (.cells #[.slice ao R.length cap] 44 (0, 0)) := alloc_at hb.symm
  have hbw3 : Below n w (w2.alloc (.cells #[.slice ao R.length cap] 44)) := hbw2.alloc (by omega) _
  have hk3 : Keep (fun _ => False) w2 (w2.alloc (.cells #[.slice ao R.length cap] 44)) := (Keep.refl _ w2).alloc _
  have hz3 : (w2.alloc (.cells #[.slice ao R.length cap] 44)).heap.size = b + 1 := by simp [hb]
  have hnb : n ≠ b := by omega
  have d0 := cell_one e0
  have d0f := frozen_one e0
  have d2 := cell_one e2
  gi_wp2_with fail
  generalize w2.alloc (.cells #[.slice ao R.length cap] 44) = W3 at *
  refine (callsIn_wide.2 (pick_any a (R.length + 1) _ ha (by omega) (by omega))).mono ?_
  rintro e w3 ⟨m, hm, rfl, rfl⟩
  gi_wp2_with fail
  have f0 := set_at (u := .int .i64 m) e0
  have f1 := set_old (u := .int .i64 m) (o := 0) e1 (show n + 1 ≠ n by omega)
  have f2 := set_old (u := .int .i64 m) (o := 0) e2 hnb.symm
  have hbw4 : Below n w (W3.setCell ⟨n, 0, none⟩ (.int .i64 m)) := hbw3.setCell (by simp) _
  have hk4 : Keep (fun b => b = n) w2 (W3.setCell ⟨n, 0, none⟩ (.int .i64 m)) := Keep.setCell (X := fun b => b = n) (p := ⟨n, 0, none⟩) (hk3.weaken (fun _ _ h => h.elim)) rfl _
  have hz4 : (W3.setCell ⟨n, 0, none⟩ (.int .i64 m)).heap.size = b + 1 := by simp [hz3]
  generalize W3.setCell ⟨n, 0, none⟩ (.int .i64 m) = W4 at *
  clear e0 e1 e2 hk3 hz3 d0 d0f d2 hbw3
  refine (callsIn_wide.2 (utfBad_call s _)).mono ?_
  rintro e W5 ⟨rfl, rfl⟩
  gi_wp2_with fail
  have g0 : (W4.alloc (.cells #[.string s] 9)).heap[n]? = some (.cells #[.int .i64 m] 3 (0, 0)) := alloc_old f0
  have g1 : (W4.alloc (.cells #[.string s] 9)).heap[n + 1]? = some (.cells #[.bool false] 4 (0, 0)) := alloc_old f1
  have g2 : (W4.alloc (.cells #[.string s] 9)).heap[b]? = some (.cells #[.slice ao R.length cap] 44 (0, 0)) := alloc_old f2
  have g3 : (W4.alloc (.cells #[.string s] 9)).heap[b + 1]? = some (.cells #[.string s] 9 (0, 0)) := alloc_at hz4.symm
  have hz5 : (W4.alloc (.cells #[.string s] 9)).heap.size = b + 2 := by simp [hz4]
  have hbw5 : Below n w (W4.alloc (.cells #[.string s] 9)) := hbw4.alloc (by omega) _
  have hk5 : Keep (fun b => b = n) w2 (W4.alloc (.cells #[.string s] 9)) := hk4.alloc _
  generalize W4.alloc (.cells #[.string s] 9) = W5 at *
  rw [neq_func47]
  clear f0 f1 f2 hk4 hz4 hbw4
  gi_wp2_with fail
  refine rounds_ind (fun m' act w' => 1 ≤ m' ∧ ∃ (T bt : Nat) (Ds : List Nat), (T + m' = 4 ∧ w'.heap[bt]? = some (.cells #[.int .i64 T] 3 (0, 0)) ∧ b + 2 ≤ bt ∧ Ds.Nodup ∧ (∀ D, D ∈ Ds → b + 2 ≤ D ∧ D ≠ bt ∧ w'.heap[D]? = some (.deferred (some []))) ∧ Keep (fun _ => False) W5 w') ∧
    ∃ (u8 u9 u10 u11 u12 u13 u14 u15 u16 u17 u18 u19 u20 u21 u22 u23 u24 u25 u26 u27 u28 u29 u30 u31 u32 u33 u34 u35 u36 u37 u38 u39 u40 u41 u42 u43 u44 u45 u46 u47 u48 u49 u50 u51 u52 u53 u54 u55 u56 u57 u58 u59 u60 u61 u62 u63 u64 u65 u66 u67 u68 u69 u70 u71 u72 u73 u74 u75 : Value), act = { tmps := #[.string s, .int .i64 a, undef, .pointer (some ⟨n, 0, none⟩), .pointer (some ⟨n + 1, 0, none⟩), .pointer (some ⟨b, 0, none⟩), .func (.func 59) #[] #[.pointer (some ⟨b + 1, 0, none⟩)], .pointer (some ⟨bt, 0, none⟩), u8, u9, u10, u11, u12, u13, u14, u15, u16, u17, u18, u19, u20, u21, u22, u23, u24, u25, u26, u27, u28, u29, u30, u31, u32, u33, u34, u35, u36, u37, u38, u39, u40, u41, u42, u43, u44, u45, u46, u47, u48, u49, u50, u51, u52, u53, u54, u55, u56, u57, u58, u59, u60, u61, u62, u63, u64, u65, u66, u67, u68, u69, u70, u71, u72, u73, u74, u75], defers := Ds.map fun D => { target := .collected D, args := #[] } }) ?step (fun a w h => by have := h.1; omega) 4 ?init
  case init =>
    refine ⟨by omega, 0, b + 2, [], ⟨rfl, alloc_at hz5.symm, by omega, List.nodup_nil, fun D h => (by cases h), (Keep.refl _ _).alloc _⟩, ?_⟩
    (repeat apply Exists.intro)
    rfl
  case step =>
    rintro m' act w' ⟨_, T, bt, Ds, ⟨hT4, ht, hbt, hnd, hDs, hk⟩, hinv⟩
    obtain ⟨u8, hinv⟩ := hinv; obtain ⟨u9, hinv⟩ := hinv; obtain ⟨u10, hinv⟩ := hinv; obtain ⟨u11, hinv⟩ := hinv; obtain ⟨u12, hinv⟩ := hinv; obtain ⟨u13, hinv⟩ := hinv; obtain ⟨u14, hinv⟩ := hinv; obtain ⟨u15, hinv⟩ := hinv; obtain ⟨u16, hinv⟩ := hinv; obtain ⟨u17, hinv⟩ := hinv; obtain ⟨u18, hinv⟩ := hinv; obtain ⟨u19, hinv⟩ := hinv; obtain ⟨u20, hinv⟩ := hinv; obtain ⟨u21, hinv⟩ := hinv; obtain ⟨u22, hinv⟩ := hinv; obtain ⟨u23, hinv⟩ := hinv; obtain ⟨u24, hinv⟩ := hinv; obtain ⟨u25, hinv⟩ := hinv; obtain ⟨u26, hinv⟩ := hinv; obtain ⟨u27, hinv⟩ := hinv; obtain ⟨u28, hinv⟩ := hinv; obtain ⟨u29, hinv⟩ := hinv; obtain ⟨u30, hinv⟩ := hinv; obtain ⟨u31, hinv⟩ := hinv; obtain ⟨u32, hinv⟩ := hinv; obtain ⟨u33, hinv⟩ := hinv; obtain ⟨u34, hinv⟩ := hinv; obtain ⟨u35, hinv⟩ := hinv; obtain ⟨u36, hinv⟩ := hinv; obtain ⟨u37, hinv⟩ := hinv; obtain ⟨u38, hinv⟩ := hinv; obtain ⟨u39, hinv⟩ := hinv; obtain ⟨u40, hinv⟩ := hinv; obtain ⟨u41, hinv⟩ := hinv; obtain ⟨u42, hinv⟩ := hinv; obtain ⟨u43, hinv⟩ := hinv; obtain ⟨u44, hinv⟩ := hinv; obtain ⟨u45, hinv⟩ := hinv; obtain ⟨u46, hinv⟩ := hinv; obtain ⟨u47, hinv⟩ := hinv; obtain ⟨u48, hinv⟩ := hinv; obtain ⟨u49, hinv⟩ := hinv; obtain ⟨u50, hinv⟩ := hinv; obtain ⟨u51, hinv⟩ := hinv; obtain ⟨u52, hinv⟩ := hinv; obtain ⟨u53, hinv⟩ := hinv; obtain ⟨u54, hinv⟩ := hinv; obtain ⟨u55, hinv⟩ := hinv; obtain ⟨u56, hinv⟩ := hinv; obtain ⟨u57, hinv⟩ := hinv; obtain ⟨u58, hinv⟩ := hinv; obtain ⟨u59, hinv⟩ := hinv; obtain ⟨u60, hinv⟩ := hinv; obtain ⟨u61, hinv⟩ := hinv; obtain ⟨u62, hinv⟩ := hinv; obtain ⟨u63, hinv⟩ := hinv; obtain ⟨u64, hinv⟩ := hinv; obtain ⟨u65, hinv⟩ := hinv; obtain ⟨u66, hinv⟩ := hinv; obtain ⟨u67, hinv⟩ := hinv; obtain ⟨u68, hinv⟩ := hinv; obtain ⟨u69, hinv⟩ := hinv; obtain ⟨u70, hinv⟩ := hinv; obtain ⟨u71, hinv⟩ := hinv; obtain ⟨u72, hinv⟩ := hinv; obtain ⟨u73, hinv⟩ := hinv; obtain ⟨u74, hinv⟩ := hinv; obtain ⟨u75, hinv⟩ := hinv
    subst hinv
    have q0 := hk.heap g0 (fun h => h)
    have q1 := hk.heap g1 (fun h => h)
    have q2 := hk.heap g2 (fun h => h)
    have q3 := hk.heap g3 (fun h => h)
    have k0 := cell_one q0
    have k1 := cell_one q1
    have k2 := cell_one q2
    have k3 := cell_one q3
    have kt := cell_one ht
    have f1 := frozen_one q1
    by_cases hT3 : T < 3
    · have hT3' : (T : Int) < 3 := by omega
      gi_wp2_with fail
      obtain ⟨W6, hW6⟩ : ∃ W6, w'.alloc (.cells #[.int .i64 0] 3) = W6 := ⟨_, rfl⟩
      rw [hW6]
      obtain ⟨kb, hkb⟩ : ∃ kb, w'.heap.size = kb := ⟨_, rfl⟩
      have hbkb : b + 2 ≤ kb := by have := hk.size; omega
      have hk6 : Keep (fun _ => False) w' W6 := by rw [← hW6]; exact (Keep.refl _ _).alloc _
      have hk56 := hk.trans hk6
      have hz6 : W6.heap.size = kb + 1 := by rw [← hW6]; simp [hkb]
      have r0 := hk6.heap q0 (fun h => h)
      have r1 := hk6.heap q1 (fun h => h)
      have r2 := hk6.heap q2 (fun h => h)
      have r3 := hk6.heap q3 (fun h => h)
      have rt := hk6.heap ht (fun h => h)
      have rk : W6.heap[kb]? = some (.cells #[.int .i64 0] 3 (0, 0)) := by rw [← hW6]; exact alloc_at hkb.symm
      have hbtk : bt < kb := by have := (Array.getElem?_eq_some_iff.1 ht).1; omega
      have rD : ∀ D, D ∈ Ds → b + 2 ≤ D ∧ D ≠ bt ∧ D < kb ∧ W6.heap[D]? = some (.deferred (some [])) := fun D hD => by
        obtain ⟨h1, h2, h3⟩ := hDs D hD
        exact ⟨h1, h2, by have := (Array.getElem?_eq_some_iff.1 h3).1; omega, hk6.heap h3 (fun h => h)⟩
      have hT6 : Lib.Utf8Tabs 0 1 W6 := tabs_below HT.out h2 (hbw5.trans (hk56.below (by omega) (fun _ h => h.elim)))
      have hread6 : Hid (R = [] ∨ ∃ g, ao = some ⟨g, 0, none⟩ ∧ g < b ∧ g ≠ n ∧ ∀ (i : Nat) (p : Nat × Nat), R[i]? = some p → W6.cell? ⟨g, i * 2, none⟩ = some (.int .i64 p.1) ∧ W6.cell? ⟨g, i * 2 + 1, none⟩ = some (.int .i64 p.2)) := Lib.hid (by
        rcases Hread.out with h | ⟨g, h1, h2, h3⟩
        · exact .inl h
        · refine (Nat.eq_zero_or_pos R.length).elim (fun h => .inl (List.eq_nil_of_length_eq_zero h)) fun hpos => .inr ⟨g, h1, ?_, by omega, fun i p hp => ?_⟩
          · have := lt_of_cell (h3 0 _ (List.getElem?_eq_getElem hpos)).1
            simp only at this; omega
          · obtain ⟨c1, c2⟩ := h3 i p hp
            rw [Nat.mul_comm 2 i] at c1 c2
            exact ⟨hk56.cell (hk5.cell c1 (by show ¬ g = n; omega)) (fun h => h), hk56.cell (hk5.cell c2 (by show ¬ g = n; omega)) (fun h => h)⟩)
      have HD := Lib.hid (And.intro hnd rD)
      have HT6 := Lib.hid hT6
      clear hT6 rD hDs hnd hW6 q0 q1 q2 q3 k0 k1 k2 k3 kt f1
      have hfin : Hid (∀ (D : Nat) (Y : Nat → Prop) (W : World), kb < D → W.heap[D]? = some (.deferred (some [])) → Keep (fun x => x = kb) W6 W →
          (T + 1 + m' = 4 ∧ (W.alloc (.cells #[.int .i64 ((T : Int) + 1)] 3)).heap[W.heap.size]? = some (.cells #[.int .i64 ((T + 1 : Nat) : Int)] 3 (0, 0)) ∧ b + 2 ≤ W.heap.size ∧ (D :: Ds).Nodup ∧
            (∀ D', D' ∈ D :: Ds → b + 2 ≤ D' ∧ D' ≠ W.heap.size ∧ (W.alloc (.cells #[.int .i64 ((T : Int) + 1)] 3)).heap[D']? = some (.deferred (some []))) ∧ Keep (fun _ => False) W5 (W.alloc (.cells #[.int .i64 ((T : Int) + 1)] 3)))) := Lib.hid (by
        intro D Y W hD hDd hkW
        have hzW := hkW.size
        obtain ⟨nd, rd⟩ := HD.out
        refine ⟨by omega, alloc_at rfl, by omega, List.nodup_cons.2 ⟨fun h => by have := (rd D h).2.2.1; omega, nd⟩, fun D' hD' => ?_, ?_⟩
        · rcases List.mem_cons.1 hD' with rfl | hD'
          · exact ⟨by omega, by have := (Array.getElem?_eq_some_iff.1 hDd).1; omega, alloc_old hDd⟩
          · obtain ⟨h1, h2, h3, h4⟩ := rd D' hD'
            exact ⟨h1, by omega, alloc_old (hkW.heap h4 (by omega))⟩
        · refine Keep.alloc ?_ _
          exact ⟨hkW.os.trans hk56.os, hkW.tape.trans hk56.tape, hkW.output.trans hk56.output, Nat.le_trans hk56.size hkW.size, fun x hx _ => (hkW.same x (Nat.lt_of_lt_of_le hx hk56.size) (by
            have := hk.size
            have : W5.heap.size = b + 2 := hz5
            omega)).trans (hk56.same x hx (fun h => h))⟩)
      refine loop_out (gf := 59) (lb := #[.pointer (some ⟨b + 1, 0, none⟩)]) (encs := encP) rfl (enters_of Tryd.func59 (by kernel_rfl) rfl)
        (bad_iter s (b + 1) W6 (cell_one r3) (by omega) HT6.out (by omega)) (fun _ => rfl) (X := fun x => x = kb)
        (fun x hx => by omega) (fun x hx => by omega) (fun _ _ => rfl) (Nat.le_refl _)
        (fun pre Y W => W.heap[kb]? = some (.cells #[.int .i64 (pre.length : Nat)] 3 (0, 0)) ∧ (T = 1 → pre = [] ∨ pre.length < m))
        (fun c pre Y W => c = .exit 2 ∧ T = 1 ∧ ∃ kv : Nat, W.heap[kb]? = some (.cells #[.int .i64 kv] 3 (0, 0)) ∧ m ≤ kv)
        (fun pre Y W W' hk h => ⟨hk.heap h.1 (fun hx => by have := hx.1; omega), h.2⟩)
        (fun c pre Y W W' hk h => by obtain ⟨h1, h2, kv, h3, h4⟩ := h; exact ⟨h1, h2, kv, hk.heap h3 (fun hx => by have := hx.1; omega), h4⟩) ⟨rk, fun _ => .inl rfl⟩ ?round ?done ?stop
      case round =>
        rintro l hl pre ⟨at', wide⟩ Y W hpre hi hkW hY hlt hr
        gi_wp2
        refine ⟨Keep.refl _ _, ?_⟩
        rintro W2 _ hk2 ⟨hk', hlt1⟩ hr2
        obtain ⟨rest, hrest⟩ := hpre
        rw [HR.out] at hrest
        have hp : R[pre.length]? = some (at', wide) := by rw [← hrest]; simp
        have hlen : pre.length < R.length := (List.getElem?_eq_some_iff.1 hp).1
        obtain ⟨g, rfl, hgb, hgn, hcells⟩ : ∃ g, ao = some ⟨g, 0, none⟩ ∧ g < b ∧ g ≠ n ∧ ∀ (i : Nat) (p : Nat × Nat), R[i]? = some p → W6.cell? ⟨g, i * 2, none⟩ = some (.int .i64 p.1) ∧ W6.cell? ⟨g, i * 2 + 1, none⟩ = some (.int .i64 p.2) := by
          rcases hread6.out with h | h
          · subst h; simp at hlen
          · exact h
        obtain ⟨c1, c2⟩ := hcells _ _ hp
        have p0 := hk2.heap r0 (by omega)
        have p2 := hk2.heap r2 (by omega)
        have pt := hk2.heap rt (by omega)
        have k0 := cell_one p0
        have k2 := cell_one p2
        have kt := cell_one pt
        have kk := cell_one hk'
        have kf := frozen_one hk'
        have c1' := hk2.cell c1 (by show ¬ g = kb; omega)
        have c2' := hk2.cell c2 (by show ¬ g = kb; omega)
        simp only at c1' c2'
        have e1 : ((at' : Int) != at') = false := by simp
        have e2 : ((wide : Int) != wide) = false := by simp
        have hcl : (pre.length : Int) < R.length := by omega
        have H1 := Lib.hid (And.intro hk2 (And.intro hrest hlt1))
        clear hcells c1 c2 r0 r1 r2 r3 rt rk hrest hlt1 hk2 hp
        gi_wp2_with fail
        · exact ⟨Y, Keep.setCell (p := ⟨kb, 0, none⟩) (Keep.refl _ _) (.inl rfl) _, fun b h => .inl h, rfl, by omega, pre.length + 1, set_at (u := .int .i64 ((pre.length : Int) + 1)) hk', by omega⟩
        · exact ⟨Y, Keep.setCell (p := ⟨kb, 0, none⟩) (Keep.refl _ _) (.inl rfl) _, fun b h => .inl h, by have := set_at (u := .int .i64 ((pre.length : Int) + 1)) hk'; simpa using this, fun _ => .inr (by simp; omega)⟩
        · exact ⟨Y, Keep.setCell (p := ⟨kb, 0, none⟩) (Keep.refl _ _) (.inl rfl) _, fun b h => .inl h, by have := set_at (u := .int .i64 ((pre.length : Int) + 1)) hk'; simpa using this, fun h => by omega⟩
      case done =>
        rintro D Y W hD hDd ⟨hkk, hT1⟩ hY hkW
        rw [HR.out] at hkk hT1
        have p0 := hkW.heap r0 (by omega)
        have p1 := hkW.heap r1 (by omega)
        have p2 := hkW.heap r2 (by omega)
        have pt := hkW.heap rt (by omega)
        have k0 := cell_one p0
        have k2 := cell_one p2
        have kt := cell_one pt
        have kk := cell_one hkk
        have hcl : ((R.length : Int) != R.length) = false := by simp
        have HF := Lib.hid (hfin.out D Y W (by omega) hDd hkW)
        clear r0 r1 r2 r3 rt rk hfin
        gi_wp2_with fail
        refine ⟨by omega, T + 1, W.heap.size, D :: Ds, HF.out, ?_⟩
        (repeat apply Exists.intro)
        rfl
      case stop =>
        rintro D c pre Y W hD hDd hpre ⟨rfl, hT1, kv, hkk, hmk⟩ hY hkW
        have p0 := hkW.heap r0 (by omega)
        have p1 := hkW.heap r1 (by omega)
        have p2 := hkW.heap r2 (by omega)
        have pt := hkW.heap rt (by omega)
        have k0 := cell_one p0
        have k2 := cell_one p2
        have kt := cell_one pt
        have kk := cell_one hkk
        have HF := Lib.hid (hfin.out D Y W (by omega) hDd hkW)
        have hT1' : (T : Int) = 1 := by omega
        have hmk' : (m : Int) ≤ kv := by omega
        clear r0 r1 r2 r3 rt rk hfin
        subst hT1
        gi_wp2_with fail
        all_goals
          refine ⟨by omega, 2, W.heap.size, D :: Ds, HF.out, ?_⟩
          (repeat apply Exists.intro)
          rfl
    · have hT3' : 3 ≤ (T : Int) := by omega
      obtain ⟨W6, hW6⟩ : ∃ W6, w'.setCell ⟨n + 1, 0, none⟩ (.bool true) = W6 := ⟨_, rfl⟩
      have hk6 : Keep (fun x => x = n + 1) w' W6 := by rw [← hW6]; exact Keep.setCell (X := fun x => x = n + 1) (p := ⟨n + 1, 0, none⟩) (Keep.refl _ _) rfl _
      have r1 : W6.heap[n + 1]? = some (.cells #[.bool true] 4 (0, 0)) := by rw [← hW6]; exact set_at q1
      have hD6 := Lib.hid (fun D hD => (hk6.heap (hDs D hD).2.2 (by have := (hDs D hD).1; omega)))
      have Hnd := Lib.hid hnd
      have HDs' := Lib.hid hDs
      clear hDs hnd
      gi_wp2_with fail
      refine leaves_marks (Ds := Ds) Hnd.out (fun D hD => hD6.out D hD) (fun W' hk' => ?_)
      have hDs' := HDs'.out
      refine ⟨_, results_cell_one (g := n + 1) rfl _ _ _ rfl (cell_one (hk'.heap r1 (fun h => by have := (hDs' (n + 1) h).1; omega))) Tryd.isAgg4, rfl, ?_⟩
      rw [hn]
      have h1 := hbw5.trans (hk.below (X := fun _ => False) (by omega) (fun _ h => h.elim))
      exact (h1.trans (hk6.below (by have := hk.size; omega) (fun _ h => by omega))).trans (hk'.below (by have := hk.size; have := hk6.size; omega) (fun D h => by have := (hDs' D h).1; omega))

theorem bads_c (s : ByteArray) (a : Int) (w : World) (hT : Lib.Utf8Tabs 0 1 w) (h2 : 2 ≤ w.heap.size) (_ : s.size ≤ 140737488351232) (ha : -9223372036854775808 ≤ a ∧ a ≤ 9223372036854775807)
    (hB : s.size + 1 + (1 + 0) ≤ 1048576) : Calls Tryd.prog 8 #[.string s, .int .i64 a] w fun e w' => e = .returned (.bool true) ∧ Below w.heap.size w w' := bads_walk s a w hT h2 (by omega) ha
end Go.Proofs.YtdcpbogabgnooaaDoor
