/- The walk of RangesBack (written by gen_hi.py). -/
import Derived.Test.YtjbkpcdpdifpnaaGreatDoorHj
import Derived.Test.YtjbkpcdpdifpnaaGreatDoorHf
import Derived.Test.YtjbkpcdpdifpnaaGreatDoorNu
import Derived.Test.YtjbkpcdpdifpnaaGreatDoorK9
namespace Go.Proofs.YtjbkpcdpdifpnaaGreatDoor
open Go Go.RowKit Go.Kt Go.Kt.Rg
attribute [local go_sem] Oper.semAt_some

theorem lss32_no (X : World) (x y : Operand) (a b : Int) (hh : b ≤ a) : (do eqGuard .lss 21 x y (.int .i32 a) (.int .i32 b); binOp .lss 21 (.int .i32 a) (.int .i32 b) : Sem Value).run Tryz.prog X = .ok (.bool false) X := by
  have h : ¬ a < b := by omega
  go_simp
theorem leq32_no (X : World) (x y : Operand) (a b : Int) (hh : b < a) : (do eqGuard .leq 21 x y (.int .i32 a) (.int .i32 b); binOp .leq 21 (.int .i32 a) (.int .i32 b) : Sem Value).run Tryz.prog X = .ok (.bool false) X := by
  have h : ¬ a ≤ b := by omega
  go_simp
theorem gtr64_no (X : World) (x y : Operand) : (do eqGuard .gtr 3 x y (.int .i64 ((0 : Nat) : Int)) (.int .i64 0); binOp .gtr 3 (.int .i64 ((0 : Nat) : Int)) (.int .i64 0) : Sem Value).run Tryz.prog X = .ok (.bool false) X := by go_simp
theorem gtr64_yes (X : World) (x y : Operand) (j : Nat) : (do eqGuard .gtr 3 x y (.int .i64 ((j : Int) + 1)) (.int .i64 0); binOp .gtr 3 (.int .i64 ((j : Int) + 1)) (.int .i64 0) : Sem Value).run Tryz.prog X = .ok (.bool true) X := by
  have h : (0 : Int) < (j : Int) + 1 := by omega
  go_simp
theorem sub64_one (X : World) (x y : Operand) (j : Nat) (h : (j : Int) ≤ 1112192) : (do eqGuard .sub 3 x y (.int .i64 ((j : Int) + 1)) (.int .i64 1); binOp .sub 3 (.int .i64 ((j : Int) + 1)) (.int .i64 1) : Sem Value).run Tryz.prog X = .ok (.int .i64 (j : Nat)) X := by
  have h2 : IntKind.i64.wrap (j : Int) = (j : Int) := IntWalk.i64_in _ (by omega)
  go_simp
theorem add32_one (X : World) (x y : Operand) (a : Int) (h : 0 ≤ a) (h1 : a ≤ 1114367) : (do eqGuard .add 21 x y (.int .i32 a) (.int .i32 1); binOp .add 21 (.int .i32 a) (.int .i32 1) : Sem Value).run Tryz.prog X = .ok (.int .i32 (a + 1)) X := by
  have h2 : IntKind.i32.wrap (a + 1) = a + 1 := by rw [IntKind.wrap_i32]; omega
  go_simp
theorem eqnil_yes (X : World) (x : Operand) : (do eqGuard .eql 38 x (.const .nilIface) .nilIface .nilIface; binOp .eql 38 .nilIface .nilIface : Sem Value).run Tryz.prog X = .ok (.bool true) X := by go_simp
theorem eql64_yes (X : World) (x y : Operand) (z : Int) : (do eqGuard .eql 3 x y (.int .i64 z) (.int .i64 z); binOp .eql 3 (.int .i64 z) (.int .i64 z) : Sem Value).run Tryz.prog X = .ok (.bool true) X := by go_simp
theorem eql64_no (X : World) (x y : Operand) (a b : Int) (h : a < b) : (do eqGuard .eql 3 x y (.int .i64 a) (.int .i64 b); binOp .eql 3 (.int .i64 a) (.int .i64 b) : Sem Value).run Tryz.prog X = .ok (.bool false) X := by
  have h2 : (a == b) = false := by rw [beq_eq_false_iff_ne]; omega
  go_simp
theorem gtr64_far (X : World) (x y : Operand) (a b : Int) (h : b < a) : (do eqGuard .gtr 3 x y (.int .i64 a) (.int .i64 b); binOp .gtr 3 (.int .i64 a) (.int .i64 b) : Sem Value).run Tryz.prog X = .ok (.bool true) X := by go_simp
theorem SetAt.keep1 {l : List Run} {b n : Nat} {A B : World} {u : Bool} {T : TypeId} (h : SetAt l b A) (hk : Keep (fun x => x = n) A B) (hn : A.heap[n]? = some (.cells #[.bool u] T (0, 0))) : SetAt l b B := by
  have hcell : ∀ o v, A.cell? ⟨n, o, none⟩ = some v → v = .bool u := fun o v h => by
    rw [Lib.cell_of_heap hn] at h
    cases o with
    | zero => simpa using h.symm
    | succ o => simp at h
  obtain ⟨v, h1, ao, cap, rfl, h2⟩ := h
  have hbn : ¬ b = n := fun e => by subst e; cases hcell _ _ h1
  refine ⟨_, hk.cell h1 hbn, ao, cap, rfl, ?_⟩
  rcases h2 with h2 | ⟨g, rfl, h2⟩
  · exact .inl h2
  · refine .inr ⟨g, rfl, fun i x hx => ?_⟩
    have h3 := h2 i x hx
    have hgn : ¬ g = n := fun e => by subst e; cases hcell _ _ h3.1
    exact ⟨hk.cell h3.1 hgn, hk.cell h3.2 hgn⟩
theorem spa_of_spg {W : World} {v : Value} {l : List (Int × Int)} (h : SpG W v l) : SpA W v l := by
  obtain ⟨ao, cap, rfl, h⟩ := h
  refine ⟨ao, cap, rfl, ?_⟩
  rcases h with h | ⟨g, off, rfl, h⟩
  · exact .inl h
  · refine .inr ⟨_, rfl, fun i x hx => ?_⟩
    rw [Addr.add_lit, Addr.add_lit]
    exact h i x hx
def pB0 (A B : Addr) (N cp _ca b : Nat) (lo up : Int) (jx : Nat) (v : Value) (_W : World) : Prop := match jx with
  | 0 => v = .slice (some A) N cp
  | 1 => v = .int .i64 ((0 : Nat) : Int)
  | 2 => v = .pointer (some B)
  | 3 => v = .pointer (some ⟨B.block, B.off + 1, none⟩)
  | 4 => v = .int .i32 up
  | 5 => v = .slice (some A) N cp
  | 6 => v = .int .i64 ((0 : Nat) : Int)
  | 7 => v = .pointer (some B)
  | 8 => v = .pointer (some B)
  | 9 => v = .int .i32 lo
  | 10 => v = .bool false
  | 11 => v = .bool false
  | 12 => v = ptrV b
  | 13 => v = .slice (some A) N cp
  | 14 => v = .int .i64 ((0 : Nat) : Int)
  | 15 => v = .pointer (some B)
  | 16 => v = .pointer (some B)
  | 17 => v = .int .i32 lo
  | 18 => v = .bool true
  | 19 => v = .bool false
  | 20 => v = .bool false
  | 21 => v = .bool false
  | 22 => v = ptrV b
  | 23 => v = .slice (some A) N cp
  | 24 => v = .int .i64 ((0 : Nat) : Int)
  | 25 => v = .pointer (some B)
  | 26 => v = .pointer (some ⟨B.block, B.off + 1, none⟩)
  | 27 => v = .int .i32 up
  | 28 => v = .bool true
  | 29 => v = .bool false
  | 30 => v = .bool false
  | 31 => v = .bool false
  | 32 => v = .int .i64 ((0 : Nat) : Int)
  | 33 => v = .bool false
  | 34 => v = .bool false
  | 35 => v = undef
  | 36 => v = undef
  | 37 => v = undef
  | 38 => v = undef
  | 39 => v = undef
  | 40 => v = undef
  | 41 => v = undef
  | 42 => v = undef
  | 43 => v = undef
  | 44 => v = undef
  | 45 => v = undef
  | 46 => v = undef
  | 47 => v = undef
  | 48 => v = .bool false
  | 49 => v = .bool false
  | _ => True
def pB1 (A B C : Addr) (N cp _ca b j : Nat) (lo up hi0 : Int) (jx : Nat) (v : Value) (_W : World) : Prop := match jx with
  | 0 => v = .slice (some A) N cp
  | 1 => v = .int .i64 ((j : Int) + 1)
  | 2 => v = .pointer (some B)
  | 3 => v = .pointer (some ⟨B.block, B.off + 1, none⟩)
  | 4 => v = .int .i32 up
  | 5 => v = .slice (some A) N cp
  | 6 => v = .int .i64 ((j : Int) + 1)
  | 7 => v = .pointer (some B)
  | 8 => v = .pointer (some B)
  | 9 => v = .int .i32 lo
  | 10 => v = .bool false
  | 11 => v = .bool false
  | 12 => v = ptrV b
  | 13 => v = .slice (some A) N cp
  | 14 => v = .int .i64 ((j : Int) + 1)
  | 15 => v = .pointer (some B)
  | 16 => v = .pointer (some B)
  | 17 => v = .int .i32 lo
  | 18 => v = .bool true
  | 19 => v = .bool false
  | 20 => v = .bool false
  | 21 => v = .bool false
  | 22 => v = ptrV b
  | 23 => v = .slice (some A) N cp
  | 24 => v = .int .i64 ((j : Int) + 1)
  | 25 => v = .pointer (some B)
  | 26 => v = .pointer (some ⟨B.block, B.off + 1, none⟩)
  | 27 => v = .int .i32 up
  | 28 => v = .bool true
  | 29 => v = .bool false
  | 30 => v = .bool false
  | 31 => v = .bool false
  | 32 => v = .int .i64 ((j : Int) + 1)
  | 33 => v = .bool true
  | 34 => v = .bool true
  | 35 => v = .slice (some A) N cp
  | 36 => v = .int .i64 ((j : Int) + 1)
  | 37 => v = .pointer (some B)
  | 38 => v = .pointer (some B)
  | 39 => v = .int .i32 lo
  | 40 => v = .slice (some A) N cp
  | 41 => v = .int .i64 ((j : Int) + 1)
  | 42 => v = .int .i64 (j : Nat)
  | 43 => v = .pointer (some C)
  | 44 => v = .pointer (some ⟨C.block, C.off + 1, none⟩)
  | 45 => v = .int .i32 hi0
  | 46 => v = .int .i32 (hi0 + 1)
  | 47 => v = .bool false
  | 48 => v = .bool false
  | 49 => v = .bool false
  | _ => True
def pL0 (n _ca _cn b d : Nat) (z : Int) (jx : Nat) (v : Value) (W : World) : Prop := match jx with
  | 0 => v = .nilIface
  | 1 => v = .bool true
  | 2 => v = .bool true
  | 3 => v = ptrV b
  | 4 => v = ptrV d
  | 5 => v = .bool true
  | 6 => v = .bool true
  | 7 => v = .bool true
  | 8 => v = .int .i64 z
  | 9 => v = ptrV b
  | 10 => v = .int .i64 z
  | 11 => v = .bool true
  | 12 => v = .bool true
  | 13 => v = undef
  | 14 => v = undef
  | 15 => v = undef
  | 16 => v = undef
  | 17 => v = undef
  | 18 => v = undef
  | 19 => v = undef
  | 20 => v = undef
  | 21 => v = .bool true
  | 22 => v = .bool true
  | 23 => (fun _ W => W.heap[n]? = some (.cells #[.bool true] 4 (0, 0))) v W
  | _ => True
def pL1 (n _ca _cn b d : Nat) (z K : Int) (jx : Nat) (v : Value) (W : World) : Prop := match jx with
  | 0 => v = .nilIface
  | 1 => v = .bool true
  | 2 => v = .bool true
  | 3 => v = ptrV b
  | 4 => v = ptrV d
  | 5 => v = .bool true
  | 6 => v = .bool true
  | 7 => v = .bool true
  | 8 => v = .int .i64 z
  | 9 => v = ptrV b
  | 10 => v = .int .i64 K
  | 11 => v = .bool false
  | 12 => v = .bool false
  | 13 => v = .int .i64 1000
  | 14 => v = .bool true
  | 15 => v = .bool true
  | 16 => v = ptrV b
  | 17 => v = .int .i64 K
  | 18 => v = .int .i64 z
  | 19 => v = .bool true
  | 20 => v = .bool true
  | 21 => v = .bool true
  | 22 => v = .bool true
  | 23 => (fun _ W => W.heap[n]? = some (.cells #[.bool true] 4 (0, 0))) v W
  | _ => True

set_option maxRecDepth 100000 in
set_option maxHeartbeats 8000000 in
theorem rback_c (v : Value) (l : List (Int × Int)) (w : World) (hE : PEnv w) (h1 : SpA w v l) (k1 : Runy l) (m1 : l.length ≤ 9223372036854775807) :
    Calls Tryz.prog 8 #[v] w fun e w' => e = .returned (.bool true) ∧ Below w.heap.size w w' := by
  have HE : Hid (∀ V, Below w.heap.size w V → PEnv V) := Lib.hid fun V hb => hE.below hb
  have C0 : Hid (∀ V, Below w.heap.size w V → Calls Tryz.prog 23 #[v] V fun e w' => ∃ s b, e = .returned (ptrV b) ∧ SetAt s b w' ∧ Canon s ∧ Below V.heap.size V w') := Lib.hid fun V hV => some_any l v V (h1.below hV) (hE.below hV).1.1 m1 k1
  have hfn : ∀ k, Fence.wide.fn k := fun _ => trivial
  have hdep : Fence.wide.depth = none := rfl
  clear hE h1 k1 m1
  refine (callsIn_wide (n := 0)).1 ?_
  refine callsIn_of_wp_marks Tryz.func8 rfl trivial ?_ rfl
  simp only [Tryz.ntmps8, List.size_toArray, List.length_cons, List.length_nil, Nat.reduceAdd, Nat.reduceSub, Array.replicate_succ, Array.replicate_zero, List.push_toArray, List.append_toArray, List.nil_append, List.cons_append]
  obtain ⟨n, hn⟩ : ∃ n, w.heap.size = n := ⟨_, rfl⟩
  have HWN := Lib.hid hn
  obtain ⟨V0, hV0⟩ : ∃ V0, w.alloc (.cells #[.bool false] 4) = V0 := ⟨_, rfl⟩
  have hb0 : Below n w V0 := by rw [← hV0]; exact (Below.refl _ _).alloc (by omega) _
  have r0 : V0.heap[n]? = some (.cells #[.bool false] 4 (0, 0)) := by rw [← hV0]; exact alloc_at hn.symm
  rw [hn] at C0 HE
  have CA := Lib.hid (C0.out V0 hb0)
  have HV0 := Lib.hid (And.intro hV0 hn)
  have H0 := Lib.hid (And.intro hb0 r0)
  clear hV0 hb0 r0 C0 hn
  gi_wp2_with fail
  rw [HV0.out.1, HV0.out.2]
  refine (callsIn_wide.2 CA.out).mono ?_
  rintro e V1 ⟨R, b, rfl, hR, hC, hb1⟩
  have HC := Lib.hid hC
  have hlen := canon_len hC (Int.le_refl _)
  have hN : R.length ≤ 1112192 := by unfold allN at hlen; omega
  have hz0 : V0.heap.size = n + 1 := by rw [← HV0.out.1]; simp [HV0.out.2]
  have hbw1 : Below n w V1 := H0.out.1.trans (hb1.mono (by omega))
  have r1 : V1.heap[n]? = some (.cells #[.bool false] 4 (0, 0)) := (hb1.block n (by omega)).trans H0.out.2
  obtain ⟨ca, hca⟩ : ∃ ca, V1.heap.size = ca := ⟨_, rfl⟩
  have hnca : n < ca := by have := hb1.size; omega
  obtain ⟨V2, hV2⟩ : ∃ V2, V1.alloc (.cells #[ptrV b] 36) = V2 := ⟨_, rfl⟩
  have hb2 : Below ca V1 V2 := by rw [← hV2]; exact (Below.refl _ _).alloc (by omega) _
  have c2 : V2.heap[ca]? = some (.cells #[ptrV b] 36 (0, 0)) := by rw [← hV2]; exact alloc_at hca.symm
  have r2 : V2.heap[n]? = some (.cells #[.bool false] 4 (0, 0)) := (hb2.block n hnca).trans r1
  have hS2 : SetAt R b V2 := hR.below (by rw [hca]; exact hb2)
  have hbw2 : Below n w V2 := hbw1.trans (hb2.mono (by omega))
  have hz2 : V2.heap.size = ca + 1 := by rw [← hV2]; simp [hca]
  have HV2 := Lib.hid (And.intro hV2 hca)
  have H2 := Lib.hid (And.intro hbw2 (And.intro r2 (And.intro c2 hS2)))
  -- what each world behind V2 has
  have KEEP : Hid (∀ V, Below (ca + 1) V2 V → Below n w V ∧ V.heap[n]? = some (.cells #[.bool false] 4 (0, 0)) ∧ V.cell? ⟨ca, 0, none⟩ = some (ptrV b) ∧ SetAt R b V ∧ PEnv V) := Lib.hid fun V hb => by
    have h := H2.out
    have q1 := h.1.trans (hb.mono (by omega))
    exact ⟨q1, (hb.block n (by omega)).trans h.2.1, cell_one ((hb.block ca (by omega)).trans h.2.2.1), h.2.2.2.below (by rw [hz2]; exact hb), HE.out V q1⟩
  clear hC hlen hR hb1 hz0 hbw1 r1 hV2 hca hb2 c2 r2 hS2 hbw2 CA H0 HV0
  have hc0 : V2.cell? ⟨ca, 0, none⟩ = some (ptrV b) := (KEEP.out V2 (Below.refl _ _)).2.2.1
  gi_wp2_with fail
  rw [HV2.out.2, HV2.out.1]
  gi_wp2_with fail
  refine (callsIn_wide.2 (rworks_any V2 (KEEP.out V2 (Below.refl _ _)).2.2.2.2.1)).mono ?_
  rintro e V3 ⟨rfl, hb3⟩
  have hk3 : Below (ca + 1) V2 V3 := by rw [← hz2]; exact hb3
  have HK3 := Lib.hid hk3
  have hc3 := (KEEP.out V3 hk3).2.2.1
  clear hb3 hk3 hc0
  obtain ⟨S, hS⟩ : ∃ S : ByteArray, (⟨(91 :: printL (spansL R) ++ [93]).toArray⟩ : ByteArray) = S := ⟨_, rfl⟩
  have hSz : S.size ≤ 27 * 1112192 + 2 := by
    rw [← hS, size_mk]
    have h1 := printL_len (spansL R)
    have h2 : (spansL R).length = R.length := by simp [spansL]
    simp only [List.length_append, List.length_cons, List.length_nil]; omega
  have CP : Hid (∀ V, Below (ca + 1) V2 V → Calls Tryz.prog 25 #[ptrV b] V fun e w' => e = .returned (.string S) ∧ Below V.heap.size V w') := Lib.hid fun V hb => by
    have k := KEEP.out V hb
    rw [← hS]
    exact rPrint_any R b V k.2.2.2.1 HC.out k.2.2.2.2.1.1 k.2.2.2.2.1.2.1 k.2.2.2.2.1.2.2
  have CQ : Hid (∀ V, Below (ca + 1) V2 V → Calls Tryz.prog 24 #[.string S] V fun e w' => ∃ c, e = .returned (.tuple #[ptrV c, .nilIface]) ∧ SetAt R c w' ∧ Below V.heap.size V w') := Lib.hid fun V hb => by
    refine (rparse_any S V (by omega) (KEEP.out V hb).2.2.2.2).mono ?_
    rintro e w' ⟨h, hb2⟩
    unfold PrOut at h
    rw [show S.data.toList = 91 :: printL (spansL R) ++ [93] by rw [← hS], prL_back HC.out] at h
    obtain ⟨c, h1, h2⟩ := h
    exact ⟨c, h1, h2, hb2⟩
  have CE : Hid (∀ V c, Below (ca + 1) V2 V → SetAt R c V → Calls Tryz.prog 26 #[ptrV b, ptrV c] V fun e w' => e = .returned (.bool true) ∧ Below V.heap.size V w') := Lib.hid fun V c hb hc => by
    have k := KEEP.out V hb
    exact same_yes R b c V k.2.2.2.1 hc HC.out k.2.2.2.2.1
  have NX : Hid (∀ V V', Below (ca + 1) V2 V → Below V.heap.size V V' → Below (ca + 1) V2 V') := Lib.hid fun V V' hb hb' => hb.trans (hb'.mono (by have := hb.size; omega))
  clear hS hSz
  gi_wp2_with fail
  refine (callsIn_wide.2 (CP.out V3 HK3.out)).mono ?_
  rintro e V4 ⟨rfl, hb4⟩
  have HK4 := Lib.hid (NX.out _ _ HK3.out hb4)
  clear hb4 hc3
  gi_wp2_with fail
  refine (callsIn_wide.2 (CQ.out V4 HK4.out)).mono ?_
  rintro e V5 ⟨c, rfl, hc5, hb5⟩
  have HK5 := Lib.hid (NX.out _ _ HK4.out hb5)
  have CE5 := Lib.hid (CE.out V5 c HK5.out hc5)
  have hc0 := (KEEP.out V5 HK5.out).2.2.1
  clear hb5 hc5
  gi_wp2_with fail
  refine (callsIn_wide.2 CE5.out).mono ?_
  rintro e V6 ⟨rfl, hb6⟩
  have HK6 := Lib.hid (NX.out _ _ HK5.out hb6)
  have hc6 := (KEEP.out V6 HK6.out).2.2.1
  clear hb6 hc0
  gi_wp2_with fail
  refine (callsIn_wide.2 (rSpans_any R b V6 (KEEP.out V6 HK6.out).2.2.2.1 HC.out (KEEP.out V6 HK6.out).2.2.2.2.1.1)).mono ?_
  rintro e V7 ⟨ao, cp, rfl, ho, hb7⟩
  have hsl : (spansL R).length = R.length := by simp [spansL]
  have hg7 := spg_of_own ho hsl.symm
  have HK7 := Lib.hid (NX.out _ _ HK6.out hb7)
  have HG7 := Lib.hid hg7
  have CO : Hid (Calls Tryz.prog 15 #[.slice ao R.length cp] V7 fun e w' => ∃ d, e = .returned (.tuple #[ptrV d, .nilIface]) ∧ SetAt R d w' ∧ Below V7.heap.size V7 w') := Lib.hid (by
    refine (rof_any (spansL R) _ V7 hg7 (KEEP.out V7 HK7.out).2.2.2.2.1.1 (by omega) (spans_run HC.out)).mono ?_
    rintro e w' ⟨hh, hb⟩
    rcases hh with ⟨k, y, hy, hbad, _, _⟩ | ⟨_, d, he, hs⟩
    · exact absurd (spans_good HC.out y (List.mem_of_getElem? hy)) hbad
    · rw [spans_nums HC.out, canonOf_self HC.out] at hs
      exact ⟨d, he, hs, hb⟩)
  clear hb7 ho hsl hg7 hc6
  gi_wp2_with fail
  refine (callsIn_wide.2 CO.out).mono ?_
  rintro e V8 ⟨d, rfl, hd8, hb8⟩
  have HK8 := Lib.hid (NX.out _ _ HK7.out hb8)
  have hA8 : SpA V8 (.slice ao R.length cp) (spansL R) := (spa_of_spg HG7.out).below hb8
  obtain ⟨cn, hcn⟩ : ∃ cn, V8.heap.size = cn := ⟨_, rfl⟩
  have hcan : ca + 1 ≤ cn := by have := HK8.out.size; omega
  obtain ⟨V9, hV9⟩ : ∃ V9, V8.alloc (.cells #[.int .i64 0] 3) = V9 := ⟨_, rfl⟩
  have hb9 : Below cn V8 V9 := by rw [← hV9]; exact (Below.refl _ _).alloc (by omega) _
  have n9 : V9.heap[cn]? = some (.cells #[.int .i64 0] 3 (0, 0)) := by rw [← hV9]; exact alloc_at hcn.symm
  have hz9 : V9.heap.size = cn + 1 := by rw [← hV9]; simp [hcn]
  -- what each world has that keeps what lay below cn
  have KP : Hid (∀ V, Below cn V8 V → Below n w V ∧ V.heap[n]? = some (.cells #[.bool false] 4 (0, 0)) ∧ V.cell? ⟨ca, 0, none⟩ = some (ptrV b) ∧ SetAt R b V ∧ PEnv V ∧ SetAt R d V ∧ SpA V (.slice ao R.length cp) (spansL R) ∧ Below (ca + 1) V2 V) := Lib.hid fun V hb => by
    have hb' : Below V8.heap.size V8 V := by rw [hcn]; exact hb
    have k := KEEP.out V (HK8.out.trans (hb.mono (by omega)))
    exact ⟨k.1, k.2.1, k.2.2.1, k.2.2.2.1, k.2.2.2.2, hd8.below hb', hA8.below hb', HK8.out.trans (hb.mono (by omega))⟩
  have HV9 := Lib.hid (And.intro hV9 hcn)
  have H9 := Lib.hid (And.intro hb9 n9)
  clear hb8 hd8 hA8 hV9 hcn hb9 n9
  gi_wp2_with fail
  rw [HV9.out.2, HV9.out.1]
  gi_wp2_with fail
  obtain ⟨N, hNN⟩ : ∃ N, R.length = N := ⟨_, rfl⟩
  have HNN := Lib.hid hNN
  rw [hNN] at hN KP ⊢
  clear hNN
  gi_loopw [9] (fun x wr => ∃ i : Nat, x = .int .i64 i ∧ i ≤ N ∧ wr.heap[cn]? = some (.cells #[.int .i64 0] 3 (0, 0)) ∧ Below cn V8 wr ∧ V9.heap.size ≤ wr.heap.size)
    (fun x _ => N - (RowKit.intOf x).toNat)
  case atStart => exact ⟨0, rfl, by omega, H9.out.2, H9.out.1, Nat.le_refl _⟩
  case round =>
    obtain ⟨i, rfl, hi, hnr, hbr, hzr⟩ := hrel
    have HB := Lib.hid (And.intro hnr (And.intro hbr hzr))
    clear hnr hbr hzr
    by_cases hlt : i < N
    · have hlt' : (i : Int) < N := by omega
      obtain ⟨x, hx⟩ : ∃ x, R[i]? = some x := ⟨_, List.getElem?_eq_getElem (by rw [HNN.out]; exact hlt)⟩
      have hxm := List.mem_of_getElem? hx
      have hxc := canon_mem HC.out x hxm
      have kk := KP.out wr HB.out.2.1
      have hsp := spans_get hx
      have hle := span_up (x := x) (by omega) hxc.2.1 (by have := hxc.2.2; unfold allN at this; exact this)
      have hL := has_lo HC.out hxm
      have hH := has_hi HC.out hxm
      have bl := pntI_bd (n := x.1) (by omega)
      have bh := pntI_bd (n := x.2 - 1) (by omega)
      obtain ⟨ax, cx, e, hcells⟩ := kk.2.2.2.2.2.2.1
      have e1 : ao = ax := by injection e
      subst e1
      clear e
      obtain ⟨A, rfl, hA⟩ : ∃ A : Addr, ao = some A ∧ ∀ (i : Nat) (x : Int × Int), (spansL R)[i]? = some x → wr.cell? (A.add (i * 2)) = some (.int .i32 x.1) ∧ wr.cell? (A.add (i * 2 + 1)) = some (.int .i32 x.2) := by
        rcases hcells with h | h
        · rw [h] at hsp; simp at hsp
        · exact h
      have hcl := hA i _ hsp
      rw [← add_one_more] at hcl
      obtain ⟨lo, hlo⟩ : ∃ lo, pntI x.1 = lo := ⟨_, rfl⟩
      obtain ⟨up, hup⟩ : ∃ up, pntI (x.2 - 1) = up := ⟨_, rfl⟩
      rw [hlo] at hle hL bl hcl
      rw [hup] at hle hH bh hcl
      have hca0 := kk.2.2.1
      have CL : Hid (∀ X : World, Below wr.heap.size wr X → Calls Tryz.prog 27 #[ptrV b, .int .i32 lo] X fun e w' => e = .returned (.bool true) ∧ Below X.heap.size X w') := Lib.hid fun X hX => by
        rw [← hL]; exact rhas_any R b lo X (kk.2.2.2.1.below hX) HC.out (kk.2.2.2.2.1.1.1.next hX) ⟨by omega, by omega⟩
      have CH : Hid (∀ X : World, Below wr.heap.size wr X → Calls Tryz.prog 27 #[ptrV b, .int .i32 up] X fun e w' => e = .returned (.bool true) ∧ Below X.heap.size X w') := Lib.hid fun X hX => by
        rw [← hH]; exact rhas_any R b up X (kk.2.2.2.1.below hX) HC.out (kk.2.2.2.2.1.1.1.next hX) ⟨by omega, by omega⟩
      have hlh : ¬ up < lo := by omega
      have hla : ∀ X : World, Below wr.heap.size wr X → (Instr.loadAt 36 (.pointer (some ⟨ca, 0, none⟩))).run Tryz.prog X = .ok (ptrV b) X := fun X hX => by
        have q := (hX.cell (lt_of_cell hca0)).trans hca0
        go_simp
      obtain ⟨B, hB⟩ : ∃ B, A.add (i * 2) = B := ⟨_, rfl⟩
      have hix0 : ∀ X : World, (Instr.indexAt 25 (.slice (some A) N cp) (.int .i64 (i : Nat))).run Tryz.prog X = .ok (.pointer (some (A.add (i * 2)))) X := fun X => by go_simp
      rw [hB] at hcl hix0
      have hcl2 : wr.cell? ⟨B.block, B.off + 1, none⟩ = some (.int .i32 up) := hcl.2
      have hf0 : ∀ X : World, (Instr.fieldAt 27 (.pointer (some B)) 0).run Tryz.prog X = .ok (.pointer (some B)) X := fun X => by go_simp
      have hf1 : ∀ X : World, (Instr.fieldAt 27 (.pointer (some B)) 1).run Tryz.prog X = .ok (.pointer (some ⟨B.block, B.off + 1, none⟩)) X := fun X => by go_simp
      have hl0 : ∀ X : World, Below wr.heap.size wr X → (Instr.loadAt 21 (.pointer (some B))).run Tryz.prog X = .ok (.int .i32 lo) X := fun X hX => by
        have q := (hX.cell (lt_of_cell hcl.1)).trans hcl.1
        go_simp
      have hl1 : ∀ X : World, Below wr.heap.size wr X → (Instr.loadAt 21 (.pointer (some ⟨B.block, B.off + 1, none⟩))).run Tryz.prog X = .ok (.int .i32 up) X := fun X hX => by
        have q := (hX.cell (lt_of_cell hcl2)).trans hcl2
        go_simp
      have NEXT : Hid (∀ X : World, Below wr.heap.size wr X → X.heap[cn]? = some (.cells #[.int .i64 0] 3 (0, 0)) ∧ Below cn V8 X ∧ V9.heap.size ≤ X.heap.size) := Lib.hid fun X hX => by
        have h := HB.out
        exact ⟨(hX.block cn (by omega)).trans h.1, h.2.1.trans (hX.mono (by omega)), Nat.le_trans h.2.2 hX.size⟩
      have LATER : Hid (∀ j, i = j + 1 → ∃ (hi0 : Int) (C : Addr), (0 ≤ hi0 ∧ hi0 ≤ 1114367) ∧ hi0 + 1 < lo ∧ wr.cell? ⟨C.block, C.off + 1, none⟩ = some (.int .i32 hi0) ∧ ∀ X : World, (Instr.indexAt 25 (.slice (some A) N cp) (.int .i64 (j : Nat))).run Tryz.prog X = .ok (.pointer (some C)) X) := Lib.hid fun j hj => by
        obtain ⟨y, hy⟩ : ∃ y, R[j]? = some y := ⟨_, List.getElem?_eq_getElem (by rw [HNN.out]; omega)⟩
        have hyc := canon_mem HC.out y (List.mem_of_getElem? hy)
        have hlt3 := canon_ix HC.out (show j < i by omega) hy hx
        have hcy := hA j _ (spans_get hy)
        rw [← add_one_more] at hcy
        have hj' : (j : Int) < N := by omega
        have hxu := hxc.2.2
        unfold allN at hxu
        have hap := spans_apart (x := y) (y := x) (by omega) hlt3 (by omega)
        rw [hlo] at hap
        exact ⟨pntI (y.2 - 1), A.add (j * 2), pntI_bd (by omega), hap, hcy.2, fun X => by go_simp⟩
      clear HB kk hcells hA hsp hle hL hH hxc hxm hx hcl hcl2 hB hca0
      rcases Nat.eq_zero_or_pos i with hi0 | hip
      · subst hi0
        have hix := hix0
        gi_wp2_with fail
        refine wpIn_wide.2 ?_
        refine wp_region_guarded (fun X => Below wr.heap.size wr X) (fun U V => Below U.heap.size U V) (pB0 A B N cp ca b lo up) (by kernel_rfl) (by kernel_rfl) (by kernel_rfl) ?hS ?hp ?hs ?hd
        case hS => exact below_drewN (Below.refl _ _) 1
        case hp => exact fun i v U V _ _ _ hv => hv
        case hs =>
          refine GSteps.cons ?_ (GSteps.cons ?_ (GSteps.cons ?_ (GSteps.cons ?_ (GSteps.cons ?_ (GSteps.cons ?_ (GSteps.cons ?_ (GSteps.cons ?_ (GSteps.cons ?_ (GSteps.cons ?_ (GSteps.cons ?_ (GSteps.cons ?_ (GSteps.cons ?_ (GSteps.cons ?_ (GSteps.cons ?_ (GSteps.cons ?_ (GSteps.cons ?_ (GSteps.cons ?_ (GSteps.cons ?_ (GSteps.cons ?_ (GSteps.cons ?_ (GSteps.cons ?_ (GSteps.cons ?_ (GSteps.cons ?_ (GSteps.cons ?_ (GSteps.cons ?_ (GSteps.cons ?_ (GSteps.cons ?_ (GSteps.cons ?_ (GSteps.cons ?_ (GSteps.cons ?_ (GSteps.cons ?_ (GSteps.cons ?_ (GSteps.cons ?_ (GSteps.cons ?_ (GSteps.cons ?_ (GSteps.cons ?_ (GSteps.cons ?_ (GSteps.cons ?_ (GSteps.cons ?_ (GSteps.cons ?_ (GSteps.cons ?_ (GSteps.cons ?_ (GSteps.cons ?_ (GSteps.cons ?_ (GSteps.cons ?_ (GSteps.cons ?_ (GSteps.cons ?_ (GSteps.cons ?_ (GSteps.cons ?_ (GSteps.nil))))))))))))))))))))))))))))))))))))))))))))))))))
          · intro a X hX hL hd
            refine .inl ⟨rfl, ?_⟩
            have e0 : a.eval (.tmp 6) = .slice (some A) N cp := hL.far 6 (by kernel_rfl)
            exact wp_value (exec_move rfl e0) ⟨_, rfl, hX, Below.refl _ _, rfl⟩
          · intro a X hX hL hd
            refine .inl ⟨rfl, ?_⟩
            have e0 : a.eval (.tmp 9) = .int .i64 ((0 : Nat) : Int) := hL.far 9 (by kernel_rfl)
            exact wp_value (exec_move rfl e0) ⟨_, rfl, hX, Below.refl _ _, rfl⟩
          · intro a X hX hL hd
            refine .inl ⟨rfl, ?_⟩
            have e0 : a.eval (.tmp 46) = .slice (some A) N cp := hd 0 46 (by kernel_rfl) (by kernel_rfl)
            have e1 : a.eval (.tmp 47) = .int .i64 ((0 : Nat) : Int) := hd 1 47 (by kernel_rfl) (by kernel_rfl)
            exact wp_value (exec_indexAddr rfl e0 e1 (hix X)) ⟨_, rfl, hX, Below.refl _ _, rfl⟩
          · intro a X hX hL hd
            refine .inl ⟨rfl, ?_⟩
            have e0 : a.eval (.tmp 48) = .pointer (some B) := hd 2 48 (by kernel_rfl) (by kernel_rfl)
            exact wp_value (exec_fieldAddr rfl e0 (hf1 X)) ⟨_, rfl, hX, Below.refl _ _, rfl⟩
          · intro a X hX hL hd
            refine .inl ⟨rfl, ?_⟩
            have e0 : a.eval (.tmp 49) = .pointer (some ⟨B.block, B.off + 1, none⟩) := hd 3 49 (by kernel_rfl) (by kernel_rfl)
            exact wp_value (exec_load rfl e0 (hl1 X hX)) ⟨_, rfl, hX, Below.refl _ _, rfl⟩
          · intro a X hX hL hd
            refine .inl ⟨rfl, ?_⟩
            have e0 : a.eval (.tmp 6) = .slice (some A) N cp := hL.far 6 (by kernel_rfl)
            exact wp_value (exec_move rfl e0) ⟨_, rfl, hX, Below.refl _ _, rfl⟩
          · intro a X hX hL hd
            refine .inl ⟨rfl, ?_⟩
            have e0 : a.eval (.tmp 9) = .int .i64 ((0 : Nat) : Int) := hL.far 9 (by kernel_rfl)
            exact wp_value (exec_move rfl e0) ⟨_, rfl, hX, Below.refl _ _, rfl⟩
          · intro a X hX hL hd
            refine .inl ⟨rfl, ?_⟩
            have e0 : a.eval (.tmp 51) = .slice (some A) N cp := hd 5 51 (by kernel_rfl) (by kernel_rfl)
            have e1 : a.eval (.tmp 52) = .int .i64 ((0 : Nat) : Int) := hd 6 52 (by kernel_rfl) (by kernel_rfl)
            exact wp_value (exec_indexAddr rfl e0 e1 (hix X)) ⟨_, rfl, hX, Below.refl _ _, rfl⟩
          · intro a X hX hL hd
            refine .inl ⟨rfl, ?_⟩
            have e0 : a.eval (.tmp 53) = .pointer (some B) := hd 7 53 (by kernel_rfl) (by kernel_rfl)
            exact wp_value (exec_fieldAddr rfl e0 (hf0 X)) ⟨_, rfl, hX, Below.refl _ _, rfl⟩
          · intro a X hX hL hd
            refine .inl ⟨rfl, ?_⟩
            have e0 : a.eval (.tmp 54) = .pointer (some B) := hd 8 54 (by kernel_rfl) (by kernel_rfl)
            exact wp_value (exec_load rfl e0 (hl0 X hX)) ⟨_, rfl, hX, Below.refl _ _, rfl⟩
          · intro a X hX hL hd
            refine .inl ⟨rfl, ?_⟩
            have e0 : a.eval (.tmp 50) = .int .i32 up := hd 4 50 (by kernel_rfl) (by kernel_rfl)
            have e1 : a.eval (.tmp 55) = .int .i32 lo := hd 9 55 (by kernel_rfl) (by kernel_rfl)
            exact wp_value (exec_binop rfl e0 e1 (lss32_no X _ _ up lo hlh)) ⟨_, rfl, hX, Below.refl _ _, rfl⟩
          · intro a X hX hL hd
            refine .inl ⟨rfl, ?_⟩
            have e0 : a.eval (.tmp 56) = .bool false := hd 10 56 (by kernel_rfl) (by kernel_rfl)
            exact wp_value (exec_move rfl e0) ⟨_, rfl, hX, Below.refl _ _, rfl⟩
          · intro a X hX hL hd
            refine .inl ⟨wanted_true 57 rfl (by kernel_rfl) (hd 11 57 (by kernel_rfl) (by kernel_rfl)), ?_⟩
            have e0 : a.eval (.tmp 3) = .pointer (some ⟨ca, 0, none⟩) := hL.far 3 (by kernel_rfl)
            exact wp_value (exec_load rfl e0 (hla X hX)) ⟨_, rfl, hX, Below.refl _ _, rfl⟩
          · intro a X hX hL hd
            refine .inl ⟨wanted_true 57 rfl (by kernel_rfl) (hd 11 57 (by kernel_rfl) (by kernel_rfl)), ?_⟩
            have e0 : a.eval (.tmp 6) = .slice (some A) N cp := hL.far 6 (by kernel_rfl)
            exact wp_value (exec_move rfl e0) ⟨_, rfl, hX, Below.refl _ _, rfl⟩
          · intro a X hX hL hd
            refine .inl ⟨wanted_true 57 rfl (by kernel_rfl) (hd 11 57 (by kernel_rfl) (by kernel_rfl)), ?_⟩
            have e0 : a.eval (.tmp 9) = .int .i64 ((0 : Nat) : Int) := hL.far 9 (by kernel_rfl)
            exact wp_value (exec_move rfl e0) ⟨_, rfl, hX, Below.refl _ _, rfl⟩
          · intro a X hX hL hd
            refine .inl ⟨wanted_true 57 rfl (by kernel_rfl) (hd 11 57 (by kernel_rfl) (by kernel_rfl)), ?_⟩
            have e0 : a.eval (.tmp 59) = .slice (some A) N cp := hd 13 59 (by kernel_rfl) (by kernel_rfl)
            have e1 : a.eval (.tmp 60) = .int .i64 ((0 : Nat) : Int) := hd 14 60 (by kernel_rfl) (by kernel_rfl)
            exact wp_value (exec_indexAddr rfl e0 e1 (hix X)) ⟨_, rfl, hX, Below.refl _ _, rfl⟩
          · intro a X hX hL hd
            refine .inl ⟨wanted_true 57 rfl (by kernel_rfl) (hd 11 57 (by kernel_rfl) (by kernel_rfl)), ?_⟩
            have e0 : a.eval (.tmp 61) = .pointer (some B) := hd 15 61 (by kernel_rfl) (by kernel_rfl)
            exact wp_value (exec_fieldAddr rfl e0 (hf0 X)) ⟨_, rfl, hX, Below.refl _ _, rfl⟩
          · intro a X hX hL hd
            refine .inl ⟨wanted_true 57 rfl (by kernel_rfl) (hd 11 57 (by kernel_rfl) (by kernel_rfl)), ?_⟩
            have e0 : a.eval (.tmp 62) = .pointer (some B) := hd 16 62 (by kernel_rfl) (by kernel_rfl)
            exact wp_value (exec_load rfl e0 (hl0 X hX)) ⟨_, rfl, hX, Below.refl _ _, rfl⟩
          · intro a X hX hL hd
            refine .inl ⟨wanted_true 57 rfl (by kernel_rfl) (hd 11 57 (by kernel_rfl) (by kernel_rfl)), ?_⟩
            have e0 : a.eval (.tmp 58) = ptrV b := hd 12 58 (by kernel_rfl) (by kernel_rfl)
            have e1 : a.eval (.tmp 63) = .int .i32 lo := hd 17 63 (by kernel_rfl) (by kernel_rfl)
            refine wp_enter (exec_call (vs := #[ptrV b, .int .i32 lo]) rfl (by simp only [List.map_toArray, List.map_cons, List.map_nil, e0, e1]) Tryz.func27 rfl rfl) ?_
            refine (CL.out X hX).mono ?_
            rintro e w' ⟨rfl, hb⟩
            exact ⟨_, rfl, _, rfl, hX.trans (hb.mono hX.size), hb, rfl⟩
          · intro a X hX hL hd
            refine .inl ⟨wanted_true 57 rfl (by kernel_rfl) (hd 11 57 (by kernel_rfl) (by kernel_rfl)), ?_⟩
            have e0 : a.eval (.tmp 64) = .bool true := hd 18 64 (by kernel_rfl) (by kernel_rfl)
            exact wp_value (exec_unop rfl e0 rfl) ⟨_, rfl, hX, Below.refl _ _, rfl⟩
          · intro a X hX hL hd
            refine .inl ⟨rfl, ?_⟩
            have e0 : a.eval (.tmp 57) = .bool false := hd 11 57 (by kernel_rfl) (by kernel_rfl)
            have e1 : a.eval (.tmp 65) = .bool false := hd 19 65 (by kernel_rfl) (by kernel_rfl)
            exact wp_value (exec_pick rfl e0 rfl e1) ⟨_, rfl, hX, Below.refl _ _, rfl⟩
          · intro a X hX hL hd
            refine .inl ⟨rfl, ?_⟩
            have e0 : a.eval (.tmp 66) = .bool false := hd 20 66 (by kernel_rfl) (by kernel_rfl)
            exact wp_value (exec_move rfl e0) ⟨_, rfl, hX, Below.refl _ _, rfl⟩
          · intro a X hX hL hd
            refine .inl ⟨wanted_true 67 rfl (by kernel_rfl) (hd 21 67 (by kernel_rfl) (by kernel_rfl)), ?_⟩
            have e0 : a.eval (.tmp 3) = .pointer (some ⟨ca, 0, none⟩) := hL.far 3 (by kernel_rfl)
            exact wp_value (exec_load rfl e0 (hla X hX)) ⟨_, rfl, hX, Below.refl _ _, rfl⟩
          · intro a X hX hL hd
            refine .inl ⟨wanted_true 67 rfl (by kernel_rfl) (hd 21 67 (by kernel_rfl) (by kernel_rfl)), ?_⟩
            have e0 : a.eval (.tmp 6) = .slice (some A) N cp := hL.far 6 (by kernel_rfl)
            exact wp_value (exec_move rfl e0) ⟨_, rfl, hX, Below.refl _ _, rfl⟩
          · intro a X hX hL hd
            refine .inl ⟨wanted_true 67 rfl (by kernel_rfl) (hd 21 67 (by kernel_rfl) (by kernel_rfl)), ?_⟩
            have e0 : a.eval (.tmp 9) = .int .i64 ((0 : Nat) : Int) := hL.far 9 (by kernel_rfl)
            exact wp_value (exec_move rfl e0) ⟨_, rfl, hX, Below.refl _ _, rfl⟩
          · intro a X hX hL hd
            refine .inl ⟨wanted_true 67 rfl (by kernel_rfl) (hd 21 67 (by kernel_rfl) (by kernel_rfl)), ?_⟩
            have e0 : a.eval (.tmp 69) = .slice (some A) N cp := hd 23 69 (by kernel_rfl) (by kernel_rfl)
            have e1 : a.eval (.tmp 70) = .int .i64 ((0 : Nat) : Int) := hd 24 70 (by kernel_rfl) (by kernel_rfl)
            exact wp_value (exec_indexAddr rfl e0 e1 (hix X)) ⟨_, rfl, hX, Below.refl _ _, rfl⟩
          · intro a X hX hL hd
            refine .inl ⟨wanted_true 67 rfl (by kernel_rfl) (hd 21 67 (by kernel_rfl) (by kernel_rfl)), ?_⟩
            have e0 : a.eval (.tmp 71) = .pointer (some B) := hd 25 71 (by kernel_rfl) (by kernel_rfl)
            exact wp_value (exec_fieldAddr rfl e0 (hf1 X)) ⟨_, rfl, hX, Below.refl _ _, rfl⟩
          · intro a X hX hL hd
            refine .inl ⟨wanted_true 67 rfl (by kernel_rfl) (hd 21 67 (by kernel_rfl) (by kernel_rfl)), ?_⟩
            have e0 : a.eval (.tmp 72) = .pointer (some ⟨B.block, B.off + 1, none⟩) := hd 26 72 (by kernel_rfl) (by kernel_rfl)
            exact wp_value (exec_load rfl e0 (hl1 X hX)) ⟨_, rfl, hX, Below.refl _ _, rfl⟩
          · intro a X hX hL hd
            refine .inl ⟨wanted_true 67 rfl (by kernel_rfl) (hd 21 67 (by kernel_rfl) (by kernel_rfl)), ?_⟩
            have e0 : a.eval (.tmp 68) = ptrV b := hd 22 68 (by kernel_rfl) (by kernel_rfl)
            have e1 : a.eval (.tmp 73) = .int .i32 up := hd 27 73 (by kernel_rfl) (by kernel_rfl)
            refine wp_enter (exec_call (vs := #[ptrV b, .int .i32 up]) rfl (by simp only [List.map_toArray, List.map_cons, List.map_nil, e0, e1]) Tryz.func27 rfl rfl) ?_
            refine (CH.out X hX).mono ?_
            rintro e w' ⟨rfl, hb⟩
            exact ⟨_, rfl, _, rfl, hX.trans (hb.mono hX.size), hb, rfl⟩
          · intro a X hX hL hd
            refine .inl ⟨wanted_true 67 rfl (by kernel_rfl) (hd 21 67 (by kernel_rfl) (by kernel_rfl)), ?_⟩
            have e0 : a.eval (.tmp 74) = .bool true := hd 28 74 (by kernel_rfl) (by kernel_rfl)
            exact wp_value (exec_unop rfl e0 rfl) ⟨_, rfl, hX, Below.refl _ _, rfl⟩
          · intro a X hX hL hd
            refine .inl ⟨rfl, ?_⟩
            have e0 : a.eval (.tmp 67) = .bool false := hd 21 67 (by kernel_rfl) (by kernel_rfl)
            have e1 : a.eval (.tmp 75) = .bool false := hd 29 75 (by kernel_rfl) (by kernel_rfl)
            exact wp_value (exec_pick rfl e0 rfl e1) ⟨_, rfl, hX, Below.refl _ _, rfl⟩
          · intro a X hX hL hd
            refine .inl ⟨rfl, ?_⟩
            have e0 : a.eval (.tmp 76) = .bool false := hd 30 76 (by kernel_rfl) (by kernel_rfl)
            exact wp_value (exec_move rfl e0) ⟨_, rfl, hX, Below.refl _ _, rfl⟩
          · intro a X hX hL hd
            refine .inl ⟨wanted_true 77 rfl (by kernel_rfl) (hd 31 77 (by kernel_rfl) (by kernel_rfl)), ?_⟩
            have e0 : a.eval (.tmp 9) = .int .i64 ((0 : Nat) : Int) := hL.far 9 (by kernel_rfl)
            exact wp_value (exec_move rfl e0) ⟨_, rfl, hX, Below.refl _ _, rfl⟩
          · intro a X hX hL hd
            refine .inl ⟨wanted_true 77 rfl (by kernel_rfl) (hd 31 77 (by kernel_rfl) (by kernel_rfl)), ?_⟩
            have e0 : a.eval (.tmp 78) = .int .i64 ((0 : Nat) : Int) := hd 32 78 (by kernel_rfl) (by kernel_rfl)
            exact wp_value (exec_binop rfl e0 rfl (gtr64_no X _ _)) ⟨_, rfl, hX, Below.refl _ _, rfl⟩
          · intro a X hX hL hd
            refine .inl ⟨wanted_true 77 rfl (by kernel_rfl) (hd 31 77 (by kernel_rfl) (by kernel_rfl)), ?_⟩
            have e0 : a.eval (.tmp 79) = .bool false := hd 33 79 (by kernel_rfl) (by kernel_rfl)
            exact wp_value (exec_move rfl e0) ⟨_, rfl, hX, Below.refl _ _, rfl⟩
          · intro a X hX hL hd
            exact .inr ⟨wanted_false (b := false) 80 rfl (by kernel_rfl) (.inl (hd 34 80 (by kernel_rfl) (by kernel_rfl))), Below.refl _ _, rfl⟩
          · intro a X hX hL hd
            exact .inr ⟨wanted_false (b := false) 80 rfl (by kernel_rfl) (.inl (hd 34 80 (by kernel_rfl) (by kernel_rfl))), Below.refl _ _, rfl⟩
          · intro a X hX hL hd
            exact .inr ⟨wanted_false (b := false) 80 rfl (by kernel_rfl) (.inl (hd 34 80 (by kernel_rfl) (by kernel_rfl))), Below.refl _ _, rfl⟩
          · intro a X hX hL hd
            exact .inr ⟨wanted_false (b := false) 80 rfl (by kernel_rfl) (.inl (hd 34 80 (by kernel_rfl) (by kernel_rfl))), Below.refl _ _, rfl⟩
          · intro a X hX hL hd
            exact .inr ⟨wanted_false (b := false) 80 rfl (by kernel_rfl) (.inl (hd 34 80 (by kernel_rfl) (by kernel_rfl))), Below.refl _ _, rfl⟩
          · intro a X hX hL hd
            exact .inr ⟨wanted_false (b := false) 80 rfl (by kernel_rfl) (.inl (hd 34 80 (by kernel_rfl) (by kernel_rfl))), Below.refl _ _, rfl⟩
          · intro a X hX hL hd
            exact .inr ⟨wanted_false (b := false) 80 rfl (by kernel_rfl) (.inl (hd 34 80 (by kernel_rfl) (by kernel_rfl))), Below.refl _ _, rfl⟩
          · intro a X hX hL hd
            exact .inr ⟨wanted_false (b := false) 80 rfl (by kernel_rfl) (.inl (hd 34 80 (by kernel_rfl) (by kernel_rfl))), Below.refl _ _, rfl⟩
          · intro a X hX hL hd
            exact .inr ⟨wanted_false (b := false) 80 rfl (by kernel_rfl) (.inl (hd 34 80 (by kernel_rfl) (by kernel_rfl))), Below.refl _ _, rfl⟩
          · intro a X hX hL hd
            exact .inr ⟨wanted_false (b := false) 80 rfl (by kernel_rfl) (.inl (hd 34 80 (by kernel_rfl) (by kernel_rfl))), Below.refl _ _, rfl⟩
          · intro a X hX hL hd
            exact .inr ⟨wanted_false (b := false) 80 rfl (by kernel_rfl) (.inl (hd 34 80 (by kernel_rfl) (by kernel_rfl))), Below.refl _ _, rfl⟩
          · intro a X hX hL hd
            exact .inr ⟨wanted_false (b := false) 80 rfl (by kernel_rfl) (.inl (hd 34 80 (by kernel_rfl) (by kernel_rfl))), Below.refl _ _, rfl⟩
          · intro a X hX hL hd
            exact .inr ⟨wanted_false (b := false) 80 rfl (by kernel_rfl) (.inl (hd 34 80 (by kernel_rfl) (by kernel_rfl))), Below.refl _ _, rfl⟩
          · intro a X hX hL hd
            refine .inl ⟨wanted_true 77 rfl (by kernel_rfl) (hd 31 77 (by kernel_rfl) (by kernel_rfl)), ?_⟩
            have e0 : a.eval (.tmp 80) = .bool false := hd 34 80 (by kernel_rfl) (by kernel_rfl)
            have e1 : a.eval (.tmp 93) = undef := hd 47 93 (by kernel_rfl) (by kernel_rfl)
            exact wp_value (exec_pick rfl e0 e1 rfl) ⟨_, rfl, hX, Below.refl _ _, rfl⟩
          · intro a X hX hL hd
            refine .inl ⟨rfl, ?_⟩
            have e0 : a.eval (.tmp 77) = .bool false := hd 31 77 (by kernel_rfl) (by kernel_rfl)
            have e1 : a.eval (.tmp 94) = .bool false := hd 48 94 (by kernel_rfl) (by kernel_rfl)
            exact wp_value (exec_pick rfl e0 rfl e1) ⟨_, rfl, hX, Below.refl _ _, rfl⟩
        case hd =>
          intro a X hX hL hd _
          have h95 : a.tmps.getD 95 undef = .bool false := hd 49 95 (by kernel_rfl)
          obtain ⟨f, ha, hf⟩ := hL.out [46, 47, 48, 49, 50, 51, 52, 53, 54, 55, 56, 57, 58, 59, 60, 61, 62, 63, 64, 65, 66, 67, 68, 69, 70, 71, 72, 73, 74, 75, 76, 77, 78, 79, 80, 81, 82, 83, 84, 85, 86, 87, 88, 89, 90, 91, 92, 93, 94, 95] (by kernel_rfl)
          have h95' : f 95 = .bool false := (hf 95).trans h95
          simp only [List.foldl_cons, List.foldl_nil, List.setIfInBounds_toArray, List.set_cons_zero, List.set_cons_succ, h95'] at ha
          clear hf hd hL h95
          subst ha
          have HX' := Lib.hid (NEXT.out X hX)
          clear hX
          gi_wp2_with fail
          go_roundw
          case rel => exact ⟨1, by go_num, by omega, HX'.out.1, HX'.out.2.1, HX'.out.2.2⟩
          case measure => simp [RowKit.intOf]; omega
      · obtain ⟨j, rfl⟩ : ∃ j, i = j + 1 := ⟨i - 1, by omega⟩
        obtain ⟨hi0, C, hh0, hap, hc2, hix2⟩ := LATER.out j rfl
        have hjb : (j : Int) ≤ 1112192 := by omega
        have hix : ∀ X : World, (Instr.indexAt 25 (.slice (some A) N cp) (.int .i64 ((j : Int) + 1))).run Tryz.prog X = .ok (.pointer (some B)) X := fun X => hix0 X
        have hf2 : ∀ X : World, (Instr.fieldAt 27 (.pointer (some C)) 1).run Tryz.prog X = .ok (.pointer (some ⟨C.block, C.off + 1, none⟩)) X := fun X => by go_simp
        have hl2 : ∀ X : World, Below wr.heap.size wr X → (Instr.loadAt 21 (.pointer (some ⟨C.block, C.off + 1, none⟩))).run Tryz.prog X = .ok (.int .i32 hi0) X := fun X hX => by
          have q := (hX.cell (lt_of_cell hc2)).trans hc2
          go_simp
        clear LATER hc2
        gi_wp2_with fail
        refine wpIn_wide.2 ?_
        refine wp_region_guarded (fun X => Below wr.heap.size wr X) (fun U V => Below U.heap.size U V) (pB1 A B C N cp ca b j lo up hi0) (by kernel_rfl) (by kernel_rfl) (by kernel_rfl) ?hS ?hp ?hs ?hd
        case hS => exact below_drewN (Below.refl _ _) 1
        case hp => exact fun i v U V _ _ _ hv => hv
        case hs =>
          refine GSteps.cons ?_ (GSteps.cons ?_ (GSteps.cons ?_ (GSteps.cons ?_ (GSteps.cons ?_ (GSteps.cons ?_ (GSteps.cons ?_ (GSteps.cons ?_ (GSteps.cons ?_ (GSteps.cons ?_ (GSteps.cons ?_ (GSteps.cons ?_ (GSteps.cons ?_ (GSteps.cons ?_ (GSteps.cons ?_ (GSteps.cons ?_ (GSteps.cons ?_ (GSteps.cons ?_ (GSteps.cons ?_ (GSteps.cons ?_ (GSteps.cons ?_ (GSteps.cons ?_ (GSteps.cons ?_ (GSteps.cons ?_ (GSteps.cons ?_ (GSteps.cons ?_ (GSteps.cons ?_ (GSteps.cons ?_ (GSteps.cons ?_ (GSteps.cons ?_ (GSteps.cons ?_ (GSteps.cons ?_ (GSteps.cons ?_ (GSteps.cons ?_ (GSteps.cons ?_ (GSteps.cons ?_ (GSteps.cons ?_ (GSteps.cons ?_ (GSteps.cons ?_ (GSteps.cons ?_ (GSteps.cons ?_ (GSteps.cons ?_ (GSteps.cons ?_ (GSteps.cons ?_ (GSteps.cons ?_ (GSteps.cons ?_ (GSteps.cons ?_ (GSteps.cons ?_ (GSteps.cons ?_ (GSteps.cons ?_ (GSteps.nil))))))))))))))))))))))))))))))))))))))))))))))))))
          · intro a X hX hL hd
            refine .inl ⟨rfl, ?_⟩
            have e0 : a.eval (.tmp 6) = .slice (some A) N cp := hL.far 6 (by kernel_rfl)
            exact wp_value (exec_move rfl e0) ⟨_, rfl, hX, Below.refl _ _, rfl⟩
          · intro a X hX hL hd
            refine .inl ⟨rfl, ?_⟩
            have e0 : a.eval (.tmp 9) = .int .i64 ((j : Int) + 1) := hL.far 9 (by kernel_rfl)
            exact wp_value (exec_move rfl e0) ⟨_, rfl, hX, Below.refl _ _, rfl⟩
          · intro a X hX hL hd
            refine .inl ⟨rfl, ?_⟩
            have e0 : a.eval (.tmp 46) = .slice (some A) N cp := hd 0 46 (by kernel_rfl) (by kernel_rfl)
            have e1 : a.eval (.tmp 47) = .int .i64 ((j : Int) + 1) := hd 1 47 (by kernel_rfl) (by kernel_rfl)
            exact wp_value (exec_indexAddr rfl e0 e1 (hix X)) ⟨_, rfl, hX, Below.refl _ _, rfl⟩
          · intro a X hX hL hd
            refine .inl ⟨rfl, ?_⟩
            have e0 : a.eval (.tmp 48) = .pointer (some B) := hd 2 48 (by kernel_rfl) (by kernel_rfl)
            exact wp_value (exec_fieldAddr rfl e0 (hf1 X)) ⟨_, rfl, hX, Below.refl _ _, rfl⟩
          · intro a X hX hL hd
            refine .inl ⟨rfl, ?_⟩
            have e0 : a.eval (.tmp 49) = .pointer (some ⟨B.block, B.off + 1, none⟩) := hd 3 49 (by kernel_rfl) (by kernel_rfl)
            exact wp_value (exec_load rfl e0 (hl1 X hX)) ⟨_, rfl, hX, Below.refl _ _, rfl⟩
          · intro a X hX hL hd
            refine .inl ⟨rfl, ?_⟩
            have e0 : a.eval (.tmp 6) = .slice (some A) N cp := hL.far 6 (by kernel_rfl)
            exact wp_value (exec_move rfl e0) ⟨_, rfl, hX, Below.refl _ _, rfl⟩
          · intro a X hX hL hd
            refine .inl ⟨rfl, ?_⟩
            have e0 : a.eval (.tmp 9) = .int .i64 ((j : Int) + 1) := hL.far 9 (by kernel_rfl)
            exact wp_value (exec_move rfl e0) ⟨_, rfl, hX, Below.refl _ _, rfl⟩
          · intro a X hX hL hd
            refine .inl ⟨rfl, ?_⟩
            have e0 : a.eval (.tmp 51) = .slice (some A) N cp := hd 5 51 (by kernel_rfl) (by kernel_rfl)
            have e1 : a.eval (.tmp 52) = .int .i64 ((j : Int) + 1) := hd 6 52 (by kernel_rfl) (by kernel_rfl)
            exact wp_value (exec_indexAddr rfl e0 e1 (hix X)) ⟨_, rfl, hX, Below.refl _ _, rfl⟩
          · intro a X hX hL hd
            refine .inl ⟨rfl, ?_⟩
            have e0 : a.eval (.tmp 53) = .pointer (some B) := hd 7 53 (by kernel_rfl) (by kernel_rfl)
            exact wp_value (exec_fieldAddr rfl e0 (hf0 X)) ⟨_, rfl, hX, Below.refl _ _, rfl⟩
          · intro a X hX hL hd
            refine .inl ⟨rfl, ?_⟩
            have e0 : a.eval (.tmp 54) = .pointer (some B) := hd 8 54 (by kernel_rfl) (by kernel_rfl)
            exact wp_value (exec_load rfl e0 (hl0 X hX)) ⟨_, rfl, hX, Below.refl _ _, rfl⟩
          · intro a X hX hL hd
            refine .inl ⟨rfl, ?_⟩
            have e0 : a.eval (.tmp 50) = .int .i32 up := hd 4 50 (by kernel_rfl) (by kernel_rfl)
            have e1 : a.eval (.tmp 55) = .int .i32 lo := hd 9 55 (by kernel_rfl) (by kernel_rfl)
            exact wp_value (exec_binop rfl e0 e1 (lss32_no X _ _ up lo hlh)) ⟨_, rfl, hX, Below.refl _ _, rfl⟩
          · intro a X hX hL hd
            refine .inl ⟨rfl, ?_⟩
            have e0 : a.eval (.tmp 56) = .bool false := hd 10 56 (by kernel_rfl) (by kernel_rfl)
            exact wp_value (exec_move rfl e0) ⟨_, rfl, hX, Below.refl _ _, rfl⟩
          · intro a X hX hL hd
            refine .inl ⟨wanted_true 57 rfl (by kernel_rfl) (hd 11 57 (by kernel_rfl) (by kernel_rfl)), ?_⟩
            have e0 : a.eval (.tmp 3) = .pointer (some ⟨ca, 0, none⟩) := hL.far 3 (by kernel_rfl)
            exact wp_value (exec_load rfl e0 (hla X hX)) ⟨_, rfl, hX, Below.refl _ _, rfl⟩
          · intro a X hX hL hd
            refine .inl ⟨wanted_true 57 rfl (by kernel_rfl) (hd 11 57 (by kernel_rfl) (by kernel_rfl)), ?_⟩
            have e0 : a.eval (.tmp 6) = .slice (some A) N cp := hL.far 6 (by kernel_rfl)
            exact wp_value (exec_move rfl e0) ⟨_, rfl, hX, Below.refl _ _, rfl⟩
          · intro a X hX hL hd
            refine .inl ⟨wanted_true 57 rfl (by kernel_rfl) (hd 11 57 (by kernel_rfl) (by kernel_rfl)), ?_⟩
            have e0 : a.eval (.tmp 9) = .int .i64 ((j : Int) + 1) := hL.far 9 (by kernel_rfl)
            exact wp_value (exec_move rfl e0) ⟨_, rfl, hX, Below.refl _ _, rfl⟩
          · intro a X hX hL hd
            refine .inl ⟨wanted_true 57 rfl (by kernel_rfl) (hd 11 57 (by kernel_rfl) (by kernel_rfl)), ?_⟩
            have e0 : a.eval (.tmp 59) = .slice (some A) N cp := hd 13 59 (by kernel_rfl) (by kernel_rfl)
            have e1 : a.eval (.tmp 60) = .int .i64 ((j : Int) + 1) := hd 14 60 (by kernel_rfl) (by kernel_rfl)
            exact wp_value (exec_indexAddr rfl e0 e1 (hix X)) ⟨_, rfl, hX, Below.refl _ _, rfl⟩
          · intro a X hX hL hd
            refine .inl ⟨wanted_true 57 rfl (by kernel_rfl) (hd 11 57 (by kernel_rfl) (by kernel_rfl)), ?_⟩
            have e0 : a.eval (.tmp 61) = .pointer (some B) := hd 15 61 (by kernel_rfl) (by kernel_rfl)
            exact wp_value (exec_fieldAddr rfl e0 (hf0 X)) ⟨_, rfl, hX, Below.refl _ _, rfl⟩
          · intro a X hX hL hd
            refine .inl ⟨wanted_true 57 rfl (by kernel_rfl) (hd 11 57 (by kernel_rfl) (by kernel_rfl)), ?_⟩
            have e0 : a.eval (.tmp 62) = .pointer (some B) := hd 16 62 (by kernel_rfl) (by kernel_rfl)
            exact wp_value (exec_load rfl e0 (hl0 X hX)) ⟨_, rfl, hX, Below.refl _ _, rfl⟩
          · intro a X hX hL hd
            refine .inl ⟨wanted_true 57 rfl (by kernel_rfl) (hd 11 57 (by kernel_rfl) (by kernel_rfl)), ?_⟩
            have e0 : a.eval (.tmp 58) = ptrV b := hd 12 58 (by kernel_rfl) (by kernel_rfl)
            have e1 : a.eval (.tmp 63) = .int .i32 lo := hd 17 63 (by kernel_rfl) (by kernel_rfl)
            refine wp_enter (exec_call (vs := #[ptrV b, .int .i32 lo]) rfl (by simp only [List.map_toArray, List.map_cons, List.map_nil, e0, e1]) Tryz.func27 rfl rfl) ?_
            refine (CL.out X hX).mono ?_
            rintro e w' ⟨rfl, hb⟩
            exact ⟨_, rfl, _, rfl, hX.trans (hb.mono hX.size), hb, rfl⟩
          · intro a X hX hL hd
            refine .inl ⟨wanted_true 57 rfl (by kernel_rfl) (hd 11 57 (by kernel_rfl) (by kernel_rfl)), ?_⟩
            have e0 : a.eval (.tmp 64) = .bool true := hd 18 64 (by kernel_rfl) (by kernel_rfl)
            exact wp_value (exec_unop rfl e0 rfl) ⟨_, rfl, hX, Below.refl _ _, rfl⟩
          · intro a X hX hL hd
            refine .inl ⟨rfl, ?_⟩
            have e0 : a.eval (.tmp 57) = .bool false := hd 11 57 (by kernel_rfl) (by kernel_rfl)
            have e1 : a.eval (.tmp 65) = .bool false := hd 19 65 (by kernel_rfl) (by kernel_rfl)
            exact wp_value (exec_pick rfl e0 rfl e1) ⟨_, rfl, hX, Below.refl _ _, rfl⟩
          · intro a X hX hL hd
            refine .inl ⟨rfl, ?_⟩
            have e0 : a.eval (.tmp 66) = .bool false := hd 20 66 (by kernel_rfl) (by kernel_rfl)
            exact wp_value (exec_move rfl e0) ⟨_, rfl, hX, Below.refl _ _, rfl⟩
          · intro a X hX hL hd
            refine .inl ⟨wanted_true 67 rfl (by kernel_rfl) (hd 21 67 (by kernel_rfl) (by kernel_rfl)), ?_⟩
            have e0 : a.eval (.tmp 3) = .pointer (some ⟨ca, 0, none⟩) := hL.far 3 (by kernel_rfl)
            exact wp_value (exec_load rfl e0 (hla X hX)) ⟨_, rfl, hX, Below.refl _ _, rfl⟩
          · intro a X hX hL hd
            refine .inl ⟨wanted_true 67 rfl (by kernel_rfl) (hd 21 67 (by kernel_rfl) (by kernel_rfl)), ?_⟩
            have e0 : a.eval (.tmp 6) = .slice (some A) N cp := hL.far 6 (by kernel_rfl)
            exact wp_value (exec_move rfl e0) ⟨_, rfl, hX, Below.refl _ _, rfl⟩
          · intro a X hX hL hd
            refine .inl ⟨wanted_true 67 rfl (by kernel_rfl) (hd 21 67 (by kernel_rfl) (by kernel_rfl)), ?_⟩
            have e0 : a.eval (.tmp 9) = .int .i64 ((j : Int) + 1) := hL.far 9 (by kernel_rfl)
            exact wp_value (exec_move rfl e0) ⟨_, rfl, hX, Below.refl _ _, rfl⟩
          · intro a X hX hL hd
            refine .inl ⟨wanted_true 67 rfl (by kernel_rfl) (hd 21 67 (by kernel_rfl) (by kernel_rfl)), ?_⟩
            have e0 : a.eval (.tmp 69) = .slice (some A) N cp := hd 23 69 (by kernel_rfl) (by kernel_rfl)
            have e1 : a.eval (.tmp 70) = .int .i64 ((j : Int) + 1) := hd 24 70 (by kernel_rfl) (by kernel_rfl)
            exact wp_value (exec_indexAddr rfl e0 e1 (hix X)) ⟨_, rfl, hX, Below.refl _ _, rfl⟩
          · intro a X hX hL hd
            refine .inl ⟨wanted_true 67 rfl (by kernel_rfl) (hd 21 67 (by kernel_rfl) (by kernel_rfl)), ?_⟩
            have e0 : a.eval (.tmp 71) = .pointer (some B) := hd 25 71 (by kernel_rfl) (by kernel_rfl)
            exact wp_value (exec_fieldAddr rfl e0 (hf1 X)) ⟨_, rfl, hX, Below.refl _ _, rfl⟩
          · intro a X hX hL hd
            refine .inl ⟨wanted_true 67 rfl (by kernel_rfl) (hd 21 67 (by kernel_rfl) (by kernel_rfl)), ?_⟩
            have e0 : a.eval (.tmp 72) = .pointer (some ⟨B.block, B.off + 1, none⟩) := hd 26 72 (by kernel_rfl) (by kernel_rfl)
            exact wp_value (exec_load rfl e0 (hl1 X hX)) ⟨_, rfl, hX, Below.refl _ _, rfl⟩
          · intro a X hX hL hd
            refine .inl ⟨wanted_true 67 rfl (by kernel_rfl) (hd 21 67 (by kernel_rfl) (by kernel_rfl)), ?_⟩
            have e0 : a.eval (.tmp 68) = ptrV b := hd 22 68 (by kernel_rfl) (by kernel_rfl)
            have e1 : a.eval (.tmp 73) = .int .i32 up := hd 27 73 (by kernel_rfl) (by kernel_rfl)
            refine wp_enter (exec_call (vs := #[ptrV b, .int .i32 up]) rfl (by simp only [List.map_toArray, List.map_cons, List.map_nil, e0, e1]) Tryz.func27 rfl rfl) ?_
            refine (CH.out X hX).mono ?_
            rintro e w' ⟨rfl, hb⟩
            exact ⟨_, rfl, _, rfl, hX.trans (hb.mono hX.size), hb, rfl⟩
          · intro a X hX hL hd
            refine .inl ⟨wanted_true 67 rfl (by kernel_rfl) (hd 21 67 (by kernel_rfl) (by kernel_rfl)), ?_⟩
            have e0 : a.eval (.tmp 74) = .bool true := hd 28 74 (by kernel_rfl) (by kernel_rfl)
            exact wp_value (exec_unop rfl e0 rfl) ⟨_, rfl, hX, Below.refl _ _, rfl⟩
          · intro a X hX hL hd
            refine .inl ⟨rfl, ?_⟩
            have e0 : a.eval (.tmp 67) = .bool false := hd 21 67 (by kernel_rfl) (by kernel_rfl)
            have e1 : a.eval (.tmp 75) = .bool false := hd 29 75 (by kernel_rfl) (by kernel_rfl)
            exact wp_value (exec_pick rfl e0 rfl e1) ⟨_, rfl, hX, Below.refl _ _, rfl⟩
          · intro a X hX hL hd
            refine .inl ⟨rfl, ?_⟩
            have e0 : a.eval (.tmp 76) = .bool false := hd 30 76 (by kernel_rfl) (by kernel_rfl)
            exact wp_value (exec_move rfl e0) ⟨_, rfl, hX, Below.refl _ _, rfl⟩
          · intro a X hX hL hd
            refine .inl ⟨wanted_true 77 rfl (by kernel_rfl) (hd 31 77 (by kernel_rfl) (by kernel_rfl)), ?_⟩
            have e0 : a.eval (.tmp 9) = .int .i64 ((j : Int) + 1) := hL.far 9 (by kernel_rfl)
            exact wp_value (exec_move rfl e0) ⟨_, rfl, hX, Below.refl _ _, rfl⟩
          · intro a X hX hL hd
            refine .inl ⟨wanted_true 77 rfl (by kernel_rfl) (hd 31 77 (by kernel_rfl) (by kernel_rfl)), ?_⟩
            have e0 : a.eval (.tmp 78) = .int .i64 ((j : Int) + 1) := hd 32 78 (by kernel_rfl) (by kernel_rfl)
            exact wp_value (exec_binop rfl e0 rfl (gtr64_yes X _ _ j)) ⟨_, rfl, hX, Below.refl _ _, rfl⟩
          · intro a X hX hL hd
            refine .inl ⟨wanted_true 77 rfl (by kernel_rfl) (hd 31 77 (by kernel_rfl) (by kernel_rfl)), ?_⟩
            have e0 : a.eval (.tmp 79) = .bool true := hd 33 79 (by kernel_rfl) (by kernel_rfl)
            exact wp_value (exec_move rfl e0) ⟨_, rfl, hX, Below.refl _ _, rfl⟩
          · intro a X hX hL hd
            refine .inl ⟨wanted_true 80 rfl (by kernel_rfl) (hd 34 80 (by kernel_rfl) (by kernel_rfl)), ?_⟩
            have e0 : a.eval (.tmp 6) = .slice (some A) N cp := hL.far 6 (by kernel_rfl)
            exact wp_value (exec_move rfl e0) ⟨_, rfl, hX, Below.refl _ _, rfl⟩
          · intro a X hX hL hd
            refine .inl ⟨wanted_true 80 rfl (by kernel_rfl) (hd 34 80 (by kernel_rfl) (by kernel_rfl)), ?_⟩
            have e0 : a.eval (.tmp 9) = .int .i64 ((j : Int) + 1) := hL.far 9 (by kernel_rfl)
            exact wp_value (exec_move rfl e0) ⟨_, rfl, hX, Below.refl _ _, rfl⟩
          · intro a X hX hL hd
            refine .inl ⟨wanted_true 80 rfl (by kernel_rfl) (hd 34 80 (by kernel_rfl) (by kernel_rfl)), ?_⟩
            have e0 : a.eval (.tmp 81) = .slice (some A) N cp := hd 35 81 (by kernel_rfl) (by kernel_rfl)
            have e1 : a.eval (.tmp 82) = .int .i64 ((j : Int) + 1) := hd 36 82 (by kernel_rfl) (by kernel_rfl)
            exact wp_value (exec_indexAddr rfl e0 e1 (hix X)) ⟨_, rfl, hX, Below.refl _ _, rfl⟩
          · intro a X hX hL hd
            refine .inl ⟨wanted_true 80 rfl (by kernel_rfl) (hd 34 80 (by kernel_rfl) (by kernel_rfl)), ?_⟩
            have e0 : a.eval (.tmp 83) = .pointer (some B) := hd 37 83 (by kernel_rfl) (by kernel_rfl)
            exact wp_value (exec_fieldAddr rfl e0 (hf0 X)) ⟨_, rfl, hX, Below.refl _ _, rfl⟩
          · intro a X hX hL hd
            refine .inl ⟨wanted_true 80 rfl (by kernel_rfl) (hd 34 80 (by kernel_rfl) (by kernel_rfl)), ?_⟩
            have e0 : a.eval (.tmp 84) = .pointer (some B) := hd 38 84 (by kernel_rfl) (by kernel_rfl)
            exact wp_value (exec_load rfl e0 (hl0 X hX)) ⟨_, rfl, hX, Below.refl _ _, rfl⟩
          · intro a X hX hL hd
            refine .inl ⟨wanted_true 80 rfl (by kernel_rfl) (hd 34 80 (by kernel_rfl) (by kernel_rfl)), ?_⟩
            have e0 : a.eval (.tmp 6) = .slice (some A) N cp := hL.far 6 (by kernel_rfl)
            exact wp_value (exec_move rfl e0) ⟨_, rfl, hX, Below.refl _ _, rfl⟩
          · intro a X hX hL hd
            refine .inl ⟨wanted_true 80 rfl (by kernel_rfl) (hd 34 80 (by kernel_rfl) (by kernel_rfl)), ?_⟩
            have e0 : a.eval (.tmp 9) = .int .i64 ((j : Int) + 1) := hL.far 9 (by kernel_rfl)
            exact wp_value (exec_move rfl e0) ⟨_, rfl, hX, Below.refl _ _, rfl⟩
          · intro a X hX hL hd
            refine .inl ⟨wanted_true 80 rfl (by kernel_rfl) (hd 34 80 (by kernel_rfl) (by kernel_rfl)), ?_⟩
            have e0 : a.eval (.tmp 87) = .int .i64 ((j : Int) + 1) := hd 41 87 (by kernel_rfl) (by kernel_rfl)
            exact wp_value (exec_binop rfl e0 rfl (sub64_one X _ _ j hjb)) ⟨_, rfl, hX, Below.refl _ _, rfl⟩
          · intro a X hX hL hd
            refine .inl ⟨wanted_true 80 rfl (by kernel_rfl) (hd 34 80 (by kernel_rfl) (by kernel_rfl)), ?_⟩
            have e0 : a.eval (.tmp 86) = .slice (some A) N cp := hd 40 86 (by kernel_rfl) (by kernel_rfl)
            have e1 : a.eval (.tmp 88) = .int .i64 (j : Nat) := hd 42 88 (by kernel_rfl) (by kernel_rfl)
            exact wp_value (exec_indexAddr rfl e0 e1 (hix2 X)) ⟨_, rfl, hX, Below.refl _ _, rfl⟩
          · intro a X hX hL hd
            refine .inl ⟨wanted_true 80 rfl (by kernel_rfl) (hd 34 80 (by kernel_rfl) (by kernel_rfl)), ?_⟩
            have e0 : a.eval (.tmp 89) = .pointer (some C) := hd 43 89 (by kernel_rfl) (by kernel_rfl)
            exact wp_value (exec_fieldAddr rfl e0 (hf2 X)) ⟨_, rfl, hX, Below.refl _ _, rfl⟩
          · intro a X hX hL hd
            refine .inl ⟨wanted_true 80 rfl (by kernel_rfl) (hd 34 80 (by kernel_rfl) (by kernel_rfl)), ?_⟩
            have e0 : a.eval (.tmp 90) = .pointer (some ⟨C.block, C.off + 1, none⟩) := hd 44 90 (by kernel_rfl) (by kernel_rfl)
            exact wp_value (exec_load rfl e0 (hl2 X hX)) ⟨_, rfl, hX, Below.refl _ _, rfl⟩
          · intro a X hX hL hd
            refine .inl ⟨wanted_true 80 rfl (by kernel_rfl) (hd 34 80 (by kernel_rfl) (by kernel_rfl)), ?_⟩
            have e0 : a.eval (.tmp 91) = .int .i32 hi0 := hd 45 91 (by kernel_rfl) (by kernel_rfl)
            exact wp_value (exec_binop rfl e0 rfl (add32_one X _ _ hi0 hh0.1 hh0.2)) ⟨_, rfl, hX, Below.refl _ _, rfl⟩
          · intro a X hX hL hd
            refine .inl ⟨wanted_true 80 rfl (by kernel_rfl) (hd 34 80 (by kernel_rfl) (by kernel_rfl)), ?_⟩
            have e0 : a.eval (.tmp 85) = .int .i32 lo := hd 39 85 (by kernel_rfl) (by kernel_rfl)
            have e1 : a.eval (.tmp 92) = .int .i32 (hi0 + 1) := hd 46 92 (by kernel_rfl) (by kernel_rfl)
            exact wp_value (exec_binop rfl e0 e1 (leq32_no X _ _ lo (hi0 + 1) hap)) ⟨_, rfl, hX, Below.refl _ _, rfl⟩
          · intro a X hX hL hd
            refine .inl ⟨wanted_true 77 rfl (by kernel_rfl) (hd 31 77 (by kernel_rfl) (by kernel_rfl)), ?_⟩
            have e0 : a.eval (.tmp 80) = .bool true := hd 34 80 (by kernel_rfl) (by kernel_rfl)
            have e1 : a.eval (.tmp 93) = .bool false := hd 47 93 (by kernel_rfl) (by kernel_rfl)
            exact wp_value (exec_pick rfl e0 e1 rfl) ⟨_, rfl, hX, Below.refl _ _, rfl⟩
          · intro a X hX hL hd
            refine .inl ⟨rfl, ?_⟩
            have e0 : a.eval (.tmp 77) = .bool false := hd 31 77 (by kernel_rfl) (by kernel_rfl)
            have e1 : a.eval (.tmp 94) = .bool false := hd 48 94 (by kernel_rfl) (by kernel_rfl)
            exact wp_value (exec_pick rfl e0 rfl e1) ⟨_, rfl, hX, Below.refl _ _, rfl⟩
        case hd =>
          intro a X hX hL hd _
          have h95 : a.tmps.getD 95 undef = .bool false := hd 49 95 (by kernel_rfl)
          obtain ⟨f, ha, hf⟩ := hL.out [46, 47, 48, 49, 50, 51, 52, 53, 54, 55, 56, 57, 58, 59, 60, 61, 62, 63, 64, 65, 66, 67, 68, 69, 70, 71, 72, 73, 74, 75, 76, 77, 78, 79, 80, 81, 82, 83, 84, 85, 86, 87, 88, 89, 90, 91, 92, 93, 94, 95] (by kernel_rfl)
          have h95' : f 95 = .bool false := (hf 95).trans h95
          simp only [List.foldl_cons, List.foldl_nil, List.setIfInBounds_toArray, List.set_cons_zero, List.set_cons_succ, h95'] at ha
          clear hf hd hL h95
          subst ha
          have HX' := Lib.hid (NEXT.out X hX)
          clear hX
          gi_wp2_with fail
          go_roundw
          case rel => exact ⟨j + 1 + 1, by go_num, by omega, HX'.out.1, HX'.out.2.1, HX'.out.2.2⟩
          case measure => simp [RowKit.intOf]; omega
    · have hlt' : ¬ (i : Int) < N := by omega
      have kk := KP.out wr HB.out.2.1
      have hc0 := kk.2.2.1
      gi_wp2_with fail
      refine (callsIn_wide.2 (rall_call b wr)).mono ?_
      rintro e w3 ⟨rfl, hw3⟩
      obtain ⟨bs, hbs⟩ : ∃ bs, wr.heap.size = bs := ⟨_, rfl⟩
      have hzb : cn + 1 ≤ bs := by have h := HB.out.2.2; omega
      have hz3 : w3.heap.size = bs + 1 := by rw [← hw3]; simp [hbs]
      have hb3 : Below bs wr w3 := by rw [← hw3]; exact (Below.refl _ _).alloc (by omega) _
      have c3 : w3.cell? ⟨bs, 0, none⟩ = some (ptrV b) := by rw [← hw3, Lib.cell_of_heap (alloc_at hbs.symm)]; rfl
      have n3 : w3.heap[cn]? = some (.cells #[.int .i64 0] 3 (0, 0)) := (hb3.block cn (by omega)).trans HB.out.1
      have hbV3 : Below cn V8 w3 := HB.out.2.1.trans (hb3.mono (by omega))
      obtain ⟨hbl, g, hg, ao2, cap2, hrow⟩ := set_row (KP.out V8 (Below.refl _ _)).2.2.2.1
      have hcn8 : V8.heap.size = cn := HV9.out.2
      rw [hcn8] at hbl hg hrow
      have hT3 := (KP.out w3 hbV3).2.2.2.2.1.1.1
      have hpt : 0 < n := by have h1 := (HE.out w (Below.refl _ _)).1.1.lt; have h2 := HWN.out; omega
      have hit := rall_iter R bs b g w3 c3 ⟨ao2, cap2, hrow w3 hbV3⟩ HC.out hT3
      have hPL := Lib.hid (ptsL_len HC.out)
      have HIT := Lib.hid hit
      have H3 := Lib.hid (And.intro hbV3 n3)
      rw [hbs]
      clear hw3 hb3 c3 hrow hT3 hit kk hc0 hbV3 HB n3
      gi_wp2_with fail
      refine loop_out2 (gf := 88) (lb := #[.pointer (some ⟨bs, 0, none⟩)]) (encs := encPt) rfl enters_all
        HIT.out (fun _ => rfl) (X := fun x => x = cn)
        (fun x hx => by omega) (fun x hx => ?nd) (fun _ _ => rfl) (Nat.le_refl _)
        (fun pre _ W => W.heap[cn]? = some (.cells #[.int .i64 (pre.length : Nat)] 3 (0, 0)) ∧ pre.length < 1000)
        (fun c pre _ W => c = .exit 2 ∧ W.heap[cn]? = some (.cells #[.int .i64 1000] 3 (0, 0)) ∧ pre.length = 1000)
        (fun pre Y W W' hk h => ⟨hk.heap h.1 (fun hx => by have := hx.1; omega), h.2⟩) (fun _ _ _ h => h)
        (fun c pre Y W W' hk h => ⟨h.1, hk.heap h.2.1 (fun hx => by have := hx.1; omega), h.2.2⟩) ⟨by simpa using H3.out.2, by simp⟩ ?round ?done ?stop
      case nd =>
        have hh : x ≠ cn ∧ x < w3.heap.size := by rcases hx with rfl | rfl | rfl | rfl <;> omega
        exact ⟨hh.1, hh.2⟩
      case round =>
        rintro l' hl' pre x Y W hpre hi2 hk hY hlt2 hr
        simp only [encPt]
        gi_wp2
        refine ⟨Keep.refl _ _, ?_⟩
        rintro W2 _ hk2 ⟨hn2, hl2⟩ hr2
        have hb2 : Below cn V8 W2 := H3.out.1.trans (hk2.below (by omega) (fun b hb => by omega))
        have kk := KP.out W2 hb2
        have hxm : x ∈ ptsL R := by obtain ⟨rest, hrest⟩ := hpre; rw [← hrest]; simp
        have hx1 := has_pts HC.out hxm
        have hx2 := pts_bd HC.out hxm
        have CX : Hid (Calls Tryz.prog 27 #[ptrV b, .int .i32 x] W2 fun e w' => e = .returned (.bool true) ∧ Below W2.heap.size W2 w') := Lib.hid (by
          rw [← hx1]; exact rhas_any R b x W2 kk.2.2.2.1 HC.out kk.2.2.2.2.1.1.1 ⟨by omega, by omega⟩)
        have hc2 := kk.2.2.1
        have hcW : cn < W2.heap.size := (Array.getElem?_eq_some_iff.1 hn2).1
        have HN2 := Lib.hid (And.intro hn2 (And.intro hl2 hcW))
        clear hi2 hk hY hlt2 hr hpre hb2 kk hxm hx1 hn2 hk2 hr2 hl2 hcW
        gi_wp2_with fail
        refine (CallsIn.inRound l' (callsIn_wide.2 CX.out)).mono ?_
        rintro e U ⟨rfl, hbU⟩
        have hnU := (hbU.block cn HN2.out.2.2).trans HN2.out.1
        have x8 := cell_one hnU
        have y8 := frozen_one hnU
        have HU := Lib.hid (And.intro hbU hnU)
        have hl2 := HN2.out.2.1
        obtain ⟨k, hk⟩ : ∃ k, pre.length = k := ⟨_, rfl⟩
        have HKK := Lib.hid hk
        rw [hk] at x8 hl2
        clear hbU hnU hc2 hk
        by_cases h999 : k = 999
        · subst h999
          have x8' : U.cell? ⟨cn, 0, none⟩ = some (.int .i64 999) := x8
          clear x8
          gi_wp2_with fail
          refine ⟨Y, Keep.setCell (X := fun b => b = cn ∨ Y b) (p := ⟨cn, 0, none⟩) (.of_all HU.out.1) (.inl rfl) _, fun b h => .inl h, rfl, set_at (u := .int .i64 1000) HU.out.2, ?_⟩
          rw [List.length_append, HKK.out]; rfl
        · have h9 : (((k : Int) + 1) == 1000) = false := by rw [beq_eq_false_iff_ne]; omega
          gi_wp2_with fail
          refine ⟨Y, Keep.setCell (X := fun b => b = cn ∨ Y b) (p := ⟨cn, 0, none⟩) (.of_all HU.out.1) (.inl rfl) _, fun b h => .inl h, ?_, ?_⟩
          · have := set_at (u := .int .i64 ((k : Int) + 1)) HU.out.2
            rw [List.length_append, HKK.out]
            simpa using this
          · rw [List.length_append, HKK.out]; simp only [List.length_cons, List.length_nil]; omega
      case done =>
        rintro D Y W hD hDd ⟨hnW, hlW⟩ hY hkW
        obtain ⟨z, hz⟩ : ∃ z, cntL R = z := ⟨_, rfl⟩
        have hzl : ((ptsL R).length : Int) = z := by rw [hPL.out, hz]
        rw [hzl] at hnW
        have hbW : Below cn V8 W := H3.out.1.trans (hkW.below (by omega) (fun b hb => by omega))
        have kW := KP.out W hbW
        have hzW := hkW.size
        have hcW := kW.2.2.1
        have HS1 : Hid (∀ X : World, (Keep (fun x => x = n) W X ∧ ∃ u, X.heap[n]? = some (.cells #[.bool u] 4 (0, 0))) → SetAt R b X ∧ SetAt R d X ∧ PEnv X ∧ X.cell? ⟨ca, 0, none⟩ = some (ptrV b) ∧ X.cell? ⟨cn, 0, none⟩ = some (.int .i64 z) ∧ Below n w X) := Lib.hid fun X hX => by
          have hbX : Below n w X := kW.1.trans (hX.1.below (by omega) (fun b hb => by omega))
          exact ⟨kW.2.2.2.1.keep1 hX.1 kW.2.1, kW.2.2.2.2.2.1.keep1 hX.1 kW.2.1, HE.out X hbX, hX.1.cell hcW (by show ¬ ca = n; omega), hX.1.cell (cell_one hnW) (by show ¬ cn = n; omega), hbX⟩
        have hla : ∀ X : World, (Keep (fun x => x = n) W X ∧ ∃ u, X.heap[n]? = some (.cells #[.bool u] 4 (0, 0))) → (Instr.loadAt 36 (.pointer (some ⟨ca, 0, none⟩))).run Tryz.prog X = .ok (ptrV b) X := fun X hX => by
          have q := (HS1.out X hX).2.2.2.1
          go_simp
        have hln : ∀ X : World, (Keep (fun x => x = n) W X ∧ ∃ u, X.heap[n]? = some (.cells #[.bool u] 4 (0, 0))) → (Instr.loadAt 3 (.pointer (some ⟨cn, 0, none⟩))).run Tryz.prog X = .ok (.int .i64 z) X := fun X hX => by
          have q := (HS1.out X hX).2.2.2.2.1
          go_simp
        have hzz := Lib.hid hz
        have hst : ∀ X : World, (Keep (fun x => x = n) W X ∧ ∃ u, X.heap[n]? = some (.cells #[.bool u] 4 (0, 0))) → (Instr.storeAt 4 (.pointer (some ⟨n, 0, none⟩)) (.bool true)).run Tryz.prog X = .ok () (X.setCell ⟨n, 0, none⟩ (.bool true)) := fun X hX => by
          obtain ⟨u, hu⟩ := hX.2
          have q1 := cell_one hu
          have q2 := frozen_one hu
          go_simp
        have CSM : Hid (∀ X : World, (Keep (fun x => x = n) W X ∧ ∃ u, X.heap[n]? = some (.cells #[.bool u] 4 (0, 0))) → Calls Tryz.prog 26 #[ptrV b, ptrV d] X fun e w' => e = .returned (.bool true) ∧ Below X.heap.size X w') := Lib.hid fun X hX => same_yes R b d X (HS1.out X hX).1 (HS1.out X hX).2.1 HC.out (HS1.out X hX).2.2.1.1
        have CCT : Hid (∀ X : World, (Keep (fun x => x = n) W X ∧ ∃ u, X.heap[n]? = some (.cells #[.bool u] 4 (0, 0))) → Calls Tryz.prog 29 #[ptrV b] X fun e w' => e = .returned (.int .i64 z) ∧ Below X.heap.size X w') := Lib.hid fun X hX => by rw [← hz]; exact rcount_any R b X (HS1.out X hX).1 HC.out
        have SNX : Hid (∀ X X' : World, (Keep (fun x => x = n) W X ∧ ∃ u, X.heap[n]? = some (.cells #[.bool u] 4 (0, 0))) → Below X.heap.size X X' → (Keep (fun x => x = n) W X' ∧ ∃ u, X'.heap[n]? = some (.cells #[.bool u] 4 (0, 0)))) := Lib.hid fun X X' hX hb => ⟨hX.1.trans (.of_all hb), hX.2.elim fun u hu => ⟨u, (hb.block n (Array.getElem?_eq_some_iff.1 hu).1).trans hu⟩⟩
        have RNX : Hid (∀ X X' : World, (Keep (fun x => x = n) W X ∧ ∃ u, X.heap[n]? = some (.cells #[.bool u] 4 (0, 0))) → Below X.heap.size X X' → (X.heap[n]? = some (.cells #[.bool true] 4 (0, 0)) → X'.heap[n]? = some (.cells #[.bool true] 4 (0, 0)))) := Lib.hid fun X X' hX hb h => (hb.block n (Array.getElem?_eq_some_iff.1 h).1).trans h
        have SST : Hid (∀ X : World, (Keep (fun x => x = n) W X ∧ ∃ u, X.heap[n]? = some (.cells #[.bool u] 4 (0, 0))) → (Keep (fun x => x = n) W (X.setCell ⟨n, 0, none⟩ (.bool true)) ∧ ∃ u, (X.setCell ⟨n, 0, none⟩ (.bool true)).heap[n]? = some (.cells #[.bool u] 4 (0, 0)))) := Lib.hid fun X hX => ⟨Keep.setCell (p := ⟨n, 0, none⟩) hX.1 rfl _, hX.2.elim fun u hu => ⟨true, set_at (u := .bool true) hu⟩⟩
        have PST : Hid (∀ X : World, (Keep (fun x => x = n) W X ∧ ∃ u, X.heap[n]? = some (.cells #[.bool u] 4 (0, 0))) → (X.setCell ⟨n, 0, none⟩ (.bool true)).heap[n]? = some (.cells #[.bool true] 4 (0, 0))) := Lib.hid fun X hX => hX.2.elim fun u hu => set_at (u := .bool true) hu
        have RST : Hid (∀ X : World, (Keep (fun x => x = n) W X ∧ ∃ u, X.heap[n]? = some (.cells #[.bool u] 4 (0, 0))) → (X.heap[n]? = some (.cells #[.bool true] 4 (0, 0)) → (X.setCell ⟨n, 0, none⟩ (.bool true)).heap[n]? = some (.cells #[.bool true] 4 (0, 0)))) := Lib.hid fun X hX _ => PST.out X hX
        have S0 : Hid (Keep (fun x => x = n) W W.drew ∧ ∃ u, W.drew.heap[n]? = some (.cells #[.bool u] 4 (0, 0))) := Lib.hid ⟨.of_all (show Below W.heap.size W (W.drewN 1) from below_drewN (Below.refl _ _) 1), false, kW.2.1⟩
        have HD := Lib.hid (And.intro hD hDd)
        clear kW hbW hkW hY hnW hDd hcW
        gi_wp2_with fail
        refine wpIn_wide.2 ?_
        refine wp_region_guarded (fun X => Keep (fun x => x = n) W X ∧ ∃ u, X.heap[n]? = some (.cells #[.bool u] 4 (0, 0))) (fun U V => (U.heap[n]? = some (.cells #[.bool true] 4 (0, 0)) → V.heap[n]? = some (.cells #[.bool true] 4 (0, 0)))) (pL0 n ca cn b d z) (by kernel_rfl) (by kernel_rfl) (by kernel_rfl) ?hS ?hp ?hs ?hd
        case hS => exact S0.out
        case hp =>
          intro i v U V _ _ hk hv
          unfold pL0 at hv ⊢
          split at hv <;> first | exact hv | exact hk hv
        case hs =>
          refine GSteps.cons ?_ (GSteps.cons ?_ (GSteps.cons ?_ (GSteps.cons ?_ (GSteps.cons ?_ (GSteps.cons ?_ (GSteps.cons ?_ (GSteps.cons ?_ (GSteps.cons ?_ (GSteps.cons ?_ (GSteps.cons ?_ (GSteps.cons ?_ (GSteps.cons ?_ (GSteps.cons ?_ (GSteps.cons ?_ (GSteps.cons ?_ (GSteps.cons ?_ (GSteps.cons ?_ (GSteps.cons ?_ (GSteps.cons ?_ (GSteps.cons ?_ (GSteps.cons ?_ (GSteps.cons ?_ (GSteps.cons ?_ (GSteps.nil))))))))))))))))))))))))
          · intro a X hX hL hd
            refine .inl ⟨rfl, ?_⟩
            have e0 : a.eval (.tmp 5) = .nilIface := hL.far 5 (by kernel_rfl)
            exact wp_value (exec_move rfl e0) ⟨_, rfl, hX, (fun h => h), rfl⟩
          · intro a X hX hL hd
            refine .inl ⟨rfl, ?_⟩
            have e0 : a.eval (.tmp 107) = .nilIface := hd 0 107 (by kernel_rfl) (by kernel_rfl)
            exact wp_value (exec_binop rfl e0 rfl (eqnil_yes X _)) ⟨_, rfl, hX, (fun h => h), rfl⟩
          · intro a X hX hL hd
            refine .inl ⟨rfl, ?_⟩
            have e0 : a.eval (.tmp 108) = .bool true := hd 1 108 (by kernel_rfl) (by kernel_rfl)
            exact wp_value (exec_move rfl e0) ⟨_, rfl, hX, (fun h => h), rfl⟩
          · intro a X hX hL hd
            refine .inl ⟨wanted_true 109 rfl (by kernel_rfl) (hd 2 109 (by kernel_rfl) (by kernel_rfl)), ?_⟩
            have e0 : a.eval (.tmp 3) = .pointer (some ⟨ca, 0, none⟩) := hL.far 3 (by kernel_rfl)
            exact wp_value (exec_load rfl e0 (hla X hX)) ⟨_, rfl, hX, (fun h => h), rfl⟩
          · intro a X hX hL hd
            refine .inl ⟨wanted_true 109 rfl (by kernel_rfl) (hd 2 109 (by kernel_rfl) (by kernel_rfl)), ?_⟩
            have e0 : a.eval (.tmp 7) = ptrV d := hL.far 7 (by kernel_rfl)
            exact wp_value (exec_move rfl e0) ⟨_, rfl, hX, (fun h => h), rfl⟩
          · intro a X hX hL hd
            refine .inl ⟨wanted_true 109 rfl (by kernel_rfl) (hd 2 109 (by kernel_rfl) (by kernel_rfl)), ?_⟩
            have e0 : a.eval (.tmp 110) = ptrV b := hd 3 110 (by kernel_rfl) (by kernel_rfl)
            have e1 : a.eval (.tmp 111) = ptrV d := hd 4 111 (by kernel_rfl) (by kernel_rfl)
            refine wp_enter (exec_call (vs := #[ptrV b, ptrV d]) rfl (by simp only [List.map_toArray, List.map_cons, List.map_nil, e0, e1]) Tryz.func26 rfl rfl) ?_
            refine (CSM.out X hX).mono ?_
            rintro e w' ⟨rfl, hb⟩
            exact ⟨_, rfl, _, rfl, SNX.out _ _ hX hb, RNX.out _ _ hX hb, rfl⟩
          · intro a X hX hL hd
            refine .inl ⟨rfl, ?_⟩
            have e0 : a.eval (.tmp 109) = .bool true := hd 2 109 (by kernel_rfl) (by kernel_rfl)
            have e1 : a.eval (.tmp 112) = .bool true := hd 5 112 (by kernel_rfl) (by kernel_rfl)
            exact wp_value (exec_pick rfl e0 e1 rfl) ⟨_, rfl, hX, (fun h => h), rfl⟩
          · intro a X hX hL hd
            refine .inl ⟨rfl, ?_⟩
            have e0 : a.eval (.tmp 113) = .bool true := hd 6 113 (by kernel_rfl) (by kernel_rfl)
            exact wp_value (exec_move rfl e0) ⟨_, rfl, hX, (fun h => h), rfl⟩
          · intro a X hX hL hd
            refine .inl ⟨wanted_true 114 rfl (by kernel_rfl) (hd 7 114 (by kernel_rfl) (by kernel_rfl)), ?_⟩
            have e0 : a.eval (.tmp 8) = .pointer (some ⟨cn, 0, none⟩) := hL.far 8 (by kernel_rfl)
            exact wp_value (exec_load rfl e0 (hln X hX)) ⟨_, rfl, hX, (fun h => h), rfl⟩
          · intro a X hX hL hd
            refine .inl ⟨wanted_true 114 rfl (by kernel_rfl) (hd 7 114 (by kernel_rfl) (by kernel_rfl)), ?_⟩
            have e0 : a.eval (.tmp 3) = .pointer (some ⟨ca, 0, none⟩) := hL.far 3 (by kernel_rfl)
            exact wp_value (exec_load rfl e0 (hla X hX)) ⟨_, rfl, hX, (fun h => h), rfl⟩
          · intro a X hX hL hd
            refine .inl ⟨wanted_true 114 rfl (by kernel_rfl) (hd 7 114 (by kernel_rfl) (by kernel_rfl)), ?_⟩
            have e0 : a.eval (.tmp 116) = ptrV b := hd 9 116 (by kernel_rfl) (by kernel_rfl)
            refine wp_enter (exec_call (vs := #[ptrV b]) rfl (by simp only [List.map_toArray, List.map_cons, List.map_nil, e0]) Tryz.func29 rfl rfl) ?_
            refine (CCT.out X hX).mono ?_
            rintro e w' ⟨rfl, hb⟩
            exact ⟨_, rfl, _, rfl, SNX.out _ _ hX hb, RNX.out _ _ hX hb, rfl⟩
          · intro a X hX hL hd
            refine .inl ⟨wanted_true 114 rfl (by kernel_rfl) (hd 7 114 (by kernel_rfl) (by kernel_rfl)), ?_⟩
            have e0 : a.eval (.tmp 115) = .int .i64 z := hd 8 115 (by kernel_rfl) (by kernel_rfl)
            have e1 : a.eval (.tmp 117) = .int .i64 z := hd 10 117 (by kernel_rfl) (by kernel_rfl)
            exact wp_value (exec_binop rfl e0 e1 (eql64_yes X _ _ z)) ⟨_, rfl, hX, (fun h => h), rfl⟩
          · intro a X hX hL hd
            refine .inl ⟨wanted_true 114 rfl (by kernel_rfl) (hd 7 114 (by kernel_rfl) (by kernel_rfl)), ?_⟩
            have e0 : a.eval (.tmp 118) = .bool true := hd 11 118 (by kernel_rfl) (by kernel_rfl)
            exact wp_value (exec_move rfl e0) ⟨_, rfl, hX, (fun h => h), rfl⟩
          · intro a X hX hL hd
            exact .inr ⟨wanted_false (b := true) 119 rfl (by kernel_rfl) (.inl (hd 12 119 (by kernel_rfl) (by kernel_rfl))), (fun h => h), rfl⟩
          · intro a X hX hL hd
            exact .inr ⟨wanted_false (b := true) 119 rfl (by kernel_rfl) (.inl (hd 12 119 (by kernel_rfl) (by kernel_rfl))), (fun h => h), rfl⟩
          · intro a X hX hL hd
            exact .inr ⟨wanted_false (b := true) 119 rfl (by kernel_rfl) (.inl (hd 12 119 (by kernel_rfl) (by kernel_rfl))), (fun h => h), rfl⟩
          · intro a X hX hL hd
            exact .inr ⟨wanted_false (b := false) 122 rfl (by kernel_rfl) (.inr (hd 15 122 (by kernel_rfl) (by kernel_rfl))), (fun h => h), rfl⟩
          · intro a X hX hL hd
            exact .inr ⟨wanted_false (b := false) 122 rfl (by kernel_rfl) (.inr (hd 15 122 (by kernel_rfl) (by kernel_rfl))), (fun h => h), rfl⟩
          · intro a X hX hL hd
            exact .inr ⟨wanted_false (b := false) 122 rfl (by kernel_rfl) (.inr (hd 15 122 (by kernel_rfl) (by kernel_rfl))), (fun h => h), rfl⟩
          · intro a X hX hL hd
            exact .inr ⟨wanted_false (b := false) 122 rfl (by kernel_rfl) (.inr (hd 15 122 (by kernel_rfl) (by kernel_rfl))), (fun h => h), rfl⟩
          · intro a X hX hL hd
            exact .inr ⟨wanted_false (b := true) 119 rfl (by kernel_rfl) (.inl (hd 12 119 (by kernel_rfl) (by kernel_rfl))), (fun h => h), rfl⟩
          · intro a X hX hL hd
            refine .inl ⟨wanted_true 114 rfl (by kernel_rfl) (hd 7 114 (by kernel_rfl) (by kernel_rfl)), ?_⟩
            have e0 : a.eval (.tmp 119) = .bool true := hd 12 119 (by kernel_rfl) (by kernel_rfl)
            have e1 : a.eval (.tmp 127) = undef := hd 20 127 (by kernel_rfl) (by kernel_rfl)
            exact wp_value (exec_pick rfl e0 rfl e1) ⟨_, rfl, hX, (fun h => h), rfl⟩
          · intro a X hX hL hd
            refine .inl ⟨rfl, ?_⟩
            have e0 : a.eval (.tmp 114) = .bool true := hd 7 114 (by kernel_rfl) (by kernel_rfl)
            have e1 : a.eval (.tmp 128) = .bool true := hd 21 128 (by kernel_rfl) (by kernel_rfl)
            exact wp_value (exec_pick rfl e0 e1 rfl) ⟨_, rfl, hX, (fun h => h), rfl⟩
          · intro a X hX hL hd
            refine .inl ⟨rfl, ?_⟩
            have e0 : a.eval (.tmp 2) = .pointer (some ⟨n, 0, none⟩) := hL.far 2 (by kernel_rfl)
            have e1 : a.eval (.tmp 129) = .bool true := hd 22 129 (by kernel_rfl) (by kernel_rfl)
            exact wp_skipped (exec_store rfl e0 e1 (hst X hX)) ⟨undef, rfl, SST.out X hX, RST.out X hX, PST.out X hX⟩
        case hd =>
          intro a X hX hL hd hE2
          obtain ⟨_, hfin⟩ := hE2 23 (of_decide_eq_true (by kernel_rfl))
          obtain ⟨f, ha, hf⟩ := hL.out [107, 108, 109, 110, 111, 112, 113, 114, 115, 116, 117, 118, 119, 120, 121, 122, 123, 124, 125, 126, 127, 128, 129] (by kernel_rfl)
          simp only [List.foldl_cons, List.foldl_nil, List.setIfInBounds_toArray, List.set_cons_zero, List.set_cons_succ] at ha
          clear hf hd hL
          subst ha
          have HF : Hid (X.heap[n]? = some (.cells #[.bool true] 4 (0, 0)) ∧ Keep (fun x => x = n) W X ∧ Below n w X) := Lib.hid ⟨hfin, hX.1, (HS1.out X hX).2.2.2.2.2⟩
          clear hfin hX
          gi_wp2_with fail
          obtain ⟨hD1, hD2⟩ := HD.out
          have hzX := HF.out.2.2.size
          have hnw : n = w.heap.size := HWN.out.symm
          refine leaves_marks (Ds := [D]) (by simp) (fun D' h => by simp at h; subst h; exact HF.out.2.1.heap hD2 (by show ¬ _ = n; omega)) (fun W' hk' => ?_)
          refine ⟨_, results_cell_one (g := n) rfl _ _ _ rfl (cell_one (hk'.heap HF.out.1 (fun h => by simp at h; omega))) Tryz.isAgg4, rfl, ?_⟩
          rw [← hnw]
          exact HF.out.2.2.trans (hk'.below (by omega) (fun b h => by simp at h; omega))
      case stop =>
        rintro D c pre Y W hD hDd hpre ⟨rfl, hnW, hlW⟩ hY hkW
        have hge : (1000 : Int) ≤ cntL R := by
          rw [← hPL.out]
          obtain ⟨rest, hrest⟩ := hpre
          rw [← hrest, List.length_append]
          omega
        clear hpre
        by_cases hex : cntL R = 1000
        · obtain ⟨z, hz⟩ : ∃ z, cntL R = z := ⟨_, rfl⟩
          have hnW' : W.heap[cn]? = some (.cells #[.int .i64 z] 3 (0, 0)) := by rw [← hz, hex]; exact hnW
          clear hnW
          have hnW := hnW'
          clear hnW' hge hex
          have hbW : Below cn V8 W := H3.out.1.trans (hkW.below (by omega) (fun b hb => by omega))
          have kW := KP.out W hbW
          have hzW := hkW.size
          have hcW := kW.2.2.1
          have HS1 : Hid (∀ X : World, (Keep (fun x => x = n) W X ∧ ∃ u, X.heap[n]? = some (.cells #[.bool u] 4 (0, 0))) → SetAt R b X ∧ SetAt R d X ∧ PEnv X ∧ X.cell? ⟨ca, 0, none⟩ = some (ptrV b) ∧ X.cell? ⟨cn, 0, none⟩ = some (.int .i64 z) ∧ Below n w X) := Lib.hid fun X hX => by
            have hbX : Below n w X := kW.1.trans (hX.1.below (by omega) (fun b hb => by omega))
            exact ⟨kW.2.2.2.1.keep1 hX.1 kW.2.1, kW.2.2.2.2.2.1.keep1 hX.1 kW.2.1, HE.out X hbX, hX.1.cell hcW (by show ¬ ca = n; omega), hX.1.cell (cell_one hnW) (by show ¬ cn = n; omega), hbX⟩
          have hla : ∀ X : World, (Keep (fun x => x = n) W X ∧ ∃ u, X.heap[n]? = some (.cells #[.bool u] 4 (0, 0))) → (Instr.loadAt 36 (.pointer (some ⟨ca, 0, none⟩))).run Tryz.prog X = .ok (ptrV b) X := fun X hX => by
            have q := (HS1.out X hX).2.2.2.1
            go_simp
          have hln : ∀ X : World, (Keep (fun x => x = n) W X ∧ ∃ u, X.heap[n]? = some (.cells #[.bool u] 4 (0, 0))) → (Instr.loadAt 3 (.pointer (some ⟨cn, 0, none⟩))).run Tryz.prog X = .ok (.int .i64 z) X := fun X hX => by
            have q := (HS1.out X hX).2.2.2.2.1
            go_simp
          have hzz := Lib.hid hz
          have hst : ∀ X : World, (Keep (fun x => x = n) W X ∧ ∃ u, X.heap[n]? = some (.cells #[.bool u] 4 (0, 0))) → (Instr.storeAt 4 (.pointer (some ⟨n, 0, none⟩)) (.bool true)).run Tryz.prog X = .ok () (X.setCell ⟨n, 0, none⟩ (.bool true)) := fun X hX => by
            obtain ⟨u, hu⟩ := hX.2
            have q1 := cell_one hu
            have q2 := frozen_one hu
            go_simp
          have CSM : Hid (∀ X : World, (Keep (fun x => x = n) W X ∧ ∃ u, X.heap[n]? = some (.cells #[.bool u] 4 (0, 0))) → Calls Tryz.prog 26 #[ptrV b, ptrV d] X fun e w' => e = .returned (.bool true) ∧ Below X.heap.size X w') := Lib.hid fun X hX => same_yes R b d X (HS1.out X hX).1 (HS1.out X hX).2.1 HC.out (HS1.out X hX).2.2.1.1
          have CCT : Hid (∀ X : World, (Keep (fun x => x = n) W X ∧ ∃ u, X.heap[n]? = some (.cells #[.bool u] 4 (0, 0))) → Calls Tryz.prog 29 #[ptrV b] X fun e w' => e = .returned (.int .i64 z) ∧ Below X.heap.size X w') := Lib.hid fun X hX => by rw [← hz]; exact rcount_any R b X (HS1.out X hX).1 HC.out
          have SNX : Hid (∀ X X' : World, (Keep (fun x => x = n) W X ∧ ∃ u, X.heap[n]? = some (.cells #[.bool u] 4 (0, 0))) → Below X.heap.size X X' → (Keep (fun x => x = n) W X' ∧ ∃ u, X'.heap[n]? = some (.cells #[.bool u] 4 (0, 0)))) := Lib.hid fun X X' hX hb => ⟨hX.1.trans (.of_all hb), hX.2.elim fun u hu => ⟨u, (hb.block n (Array.getElem?_eq_some_iff.1 hu).1).trans hu⟩⟩
          have RNX : Hid (∀ X X' : World, (Keep (fun x => x = n) W X ∧ ∃ u, X.heap[n]? = some (.cells #[.bool u] 4 (0, 0))) → Below X.heap.size X X' → (X.heap[n]? = some (.cells #[.bool true] 4 (0, 0)) → X'.heap[n]? = some (.cells #[.bool true] 4 (0, 0)))) := Lib.hid fun X X' hX hb h => (hb.block n (Array.getElem?_eq_some_iff.1 h).1).trans h
          have SST : Hid (∀ X : World, (Keep (fun x => x = n) W X ∧ ∃ u, X.heap[n]? = some (.cells #[.bool u] 4 (0, 0))) → (Keep (fun x => x = n) W (X.setCell ⟨n, 0, none⟩ (.bool true)) ∧ ∃ u, (X.setCell ⟨n, 0, none⟩ (.bool true)).heap[n]? = some (.cells #[.bool u] 4 (0, 0)))) := Lib.hid fun X hX => ⟨Keep.setCell (p := ⟨n, 0, none⟩) hX.1 rfl _, hX.2.elim fun u hu => ⟨true, set_at (u := .bool true) hu⟩⟩
          have PST : Hid (∀ X : World, (Keep (fun x => x = n) W X ∧ ∃ u, X.heap[n]? = some (.cells #[.bool u] 4 (0, 0))) → (X.setCell ⟨n, 0, none⟩ (.bool true)).heap[n]? = some (.cells #[.bool true] 4 (0, 0))) := Lib.hid fun X hX => hX.2.elim fun u hu => set_at (u := .bool true) hu
          have RST : Hid (∀ X : World, (Keep (fun x => x = n) W X ∧ ∃ u, X.heap[n]? = some (.cells #[.bool u] 4 (0, 0))) → (X.heap[n]? = some (.cells #[.bool true] 4 (0, 0)) → (X.setCell ⟨n, 0, none⟩ (.bool true)).heap[n]? = some (.cells #[.bool true] 4 (0, 0)))) := Lib.hid fun X hX _ => PST.out X hX
          have S0 : Hid (Keep (fun x => x = n) W W.drew ∧ ∃ u, W.drew.heap[n]? = some (.cells #[.bool u] 4 (0, 0))) := Lib.hid ⟨.of_all (show Below W.heap.size W (W.drewN 1) from below_drewN (Below.refl _ _) 1), false, kW.2.1⟩
          have HD := Lib.hid (And.intro hD hDd)
          clear kW hbW hkW hY hnW hDd hcW
          gi_wp2_with fail
          refine wpIn_wide.2 ?_
          refine wp_region_guarded (fun X => Keep (fun x => x = n) W X ∧ ∃ u, X.heap[n]? = some (.cells #[.bool u] 4 (0, 0))) (fun U V => (U.heap[n]? = some (.cells #[.bool true] 4 (0, 0)) → V.heap[n]? = some (.cells #[.bool true] 4 (0, 0)))) (pL0 n ca cn b d z) (by kernel_rfl) (by kernel_rfl) (by kernel_rfl) ?hS ?hp ?hs ?hd
          case hS => exact S0.out
          case hp =>
            intro i v U V _ _ hk hv
            unfold pL0 at hv ⊢
            split at hv <;> first | exact hv | exact hk hv
          case hs =>
            refine GSteps.cons ?_ (GSteps.cons ?_ (GSteps.cons ?_ (GSteps.cons ?_ (GSteps.cons ?_ (GSteps.cons ?_ (GSteps.cons ?_ (GSteps.cons ?_ (GSteps.cons ?_ (GSteps.cons ?_ (GSteps.cons ?_ (GSteps.cons ?_ (GSteps.cons ?_ (GSteps.cons ?_ (GSteps.cons ?_ (GSteps.cons ?_ (GSteps.cons ?_ (GSteps.cons ?_ (GSteps.cons ?_ (GSteps.cons ?_ (GSteps.cons ?_ (GSteps.cons ?_ (GSteps.cons ?_ (GSteps.cons ?_ (GSteps.nil))))))))))))))))))))))))
            · intro a X hX hL hd
              refine .inl ⟨rfl, ?_⟩
              have e0 : a.eval (.tmp 5) = .nilIface := hL.far 5 (by kernel_rfl)
              exact wp_value (exec_move rfl e0) ⟨_, rfl, hX, (fun h => h), rfl⟩
            · intro a X hX hL hd
              refine .inl ⟨rfl, ?_⟩
              have e0 : a.eval (.tmp 107) = .nilIface := hd 0 107 (by kernel_rfl) (by kernel_rfl)
              exact wp_value (exec_binop rfl e0 rfl (eqnil_yes X _)) ⟨_, rfl, hX, (fun h => h), rfl⟩
            · intro a X hX hL hd
              refine .inl ⟨rfl, ?_⟩
              have e0 : a.eval (.tmp 108) = .bool true := hd 1 108 (by kernel_rfl) (by kernel_rfl)
              exact wp_value (exec_move rfl e0) ⟨_, rfl, hX, (fun h => h), rfl⟩
            · intro a X hX hL hd
              refine .inl ⟨wanted_true 109 rfl (by kernel_rfl) (hd 2 109 (by kernel_rfl) (by kernel_rfl)), ?_⟩
              have e0 : a.eval (.tmp 3) = .pointer (some ⟨ca, 0, none⟩) := hL.far 3 (by kernel_rfl)
              exact wp_value (exec_load rfl e0 (hla X hX)) ⟨_, rfl, hX, (fun h => h), rfl⟩
            · intro a X hX hL hd
              refine .inl ⟨wanted_true 109 rfl (by kernel_rfl) (hd 2 109 (by kernel_rfl) (by kernel_rfl)), ?_⟩
              have e0 : a.eval (.tmp 7) = ptrV d := hL.far 7 (by kernel_rfl)
              exact wp_value (exec_move rfl e0) ⟨_, rfl, hX, (fun h => h), rfl⟩
            · intro a X hX hL hd
              refine .inl ⟨wanted_true 109 rfl (by kernel_rfl) (hd 2 109 (by kernel_rfl) (by kernel_rfl)), ?_⟩
              have e0 : a.eval (.tmp 110) = ptrV b := hd 3 110 (by kernel_rfl) (by kernel_rfl)
              have e1 : a.eval (.tmp 111) = ptrV d := hd 4 111 (by kernel_rfl) (by kernel_rfl)
              refine wp_enter (exec_call (vs := #[ptrV b, ptrV d]) rfl (by simp only [List.map_toArray, List.map_cons, List.map_nil, e0, e1]) Tryz.func26 rfl rfl) ?_
              refine (CSM.out X hX).mono ?_
              rintro e w' ⟨rfl, hb⟩
              exact ⟨_, rfl, _, rfl, SNX.out _ _ hX hb, RNX.out _ _ hX hb, rfl⟩
            · intro a X hX hL hd
              refine .inl ⟨rfl, ?_⟩
              have e0 : a.eval (.tmp 109) = .bool true := hd 2 109 (by kernel_rfl) (by kernel_rfl)
              have e1 : a.eval (.tmp 112) = .bool true := hd 5 112 (by kernel_rfl) (by kernel_rfl)
              exact wp_value (exec_pick rfl e0 e1 rfl) ⟨_, rfl, hX, (fun h => h), rfl⟩
            · intro a X hX hL hd
              refine .inl ⟨rfl, ?_⟩
              have e0 : a.eval (.tmp 113) = .bool true := hd 6 113 (by kernel_rfl) (by kernel_rfl)
              exact wp_value (exec_move rfl e0) ⟨_, rfl, hX, (fun h => h), rfl⟩
            · intro a X hX hL hd
              refine .inl ⟨wanted_true 114 rfl (by kernel_rfl) (hd 7 114 (by kernel_rfl) (by kernel_rfl)), ?_⟩
              have e0 : a.eval (.tmp 8) = .pointer (some ⟨cn, 0, none⟩) := hL.far 8 (by kernel_rfl)
              exact wp_value (exec_load rfl e0 (hln X hX)) ⟨_, rfl, hX, (fun h => h), rfl⟩
            · intro a X hX hL hd
              refine .inl ⟨wanted_true 114 rfl (by kernel_rfl) (hd 7 114 (by kernel_rfl) (by kernel_rfl)), ?_⟩
              have e0 : a.eval (.tmp 3) = .pointer (some ⟨ca, 0, none⟩) := hL.far 3 (by kernel_rfl)
              exact wp_value (exec_load rfl e0 (hla X hX)) ⟨_, rfl, hX, (fun h => h), rfl⟩
            · intro a X hX hL hd
              refine .inl ⟨wanted_true 114 rfl (by kernel_rfl) (hd 7 114 (by kernel_rfl) (by kernel_rfl)), ?_⟩
              have e0 : a.eval (.tmp 116) = ptrV b := hd 9 116 (by kernel_rfl) (by kernel_rfl)
              refine wp_enter (exec_call (vs := #[ptrV b]) rfl (by simp only [List.map_toArray, List.map_cons, List.map_nil, e0]) Tryz.func29 rfl rfl) ?_
              refine (CCT.out X hX).mono ?_
              rintro e w' ⟨rfl, hb⟩
              exact ⟨_, rfl, _, rfl, SNX.out _ _ hX hb, RNX.out _ _ hX hb, rfl⟩
            · intro a X hX hL hd
              refine .inl ⟨wanted_true 114 rfl (by kernel_rfl) (hd 7 114 (by kernel_rfl) (by kernel_rfl)), ?_⟩
              have e0 : a.eval (.tmp 115) = .int .i64 z := hd 8 115 (by kernel_rfl) (by kernel_rfl)
              have e1 : a.eval (.tmp 117) = .int .i64 z := hd 10 117 (by kernel_rfl) (by kernel_rfl)
              exact wp_value (exec_binop rfl e0 e1 (eql64_yes X _ _ z)) ⟨_, rfl, hX, (fun h => h), rfl⟩
            · intro a X hX hL hd
              refine .inl ⟨wanted_true 114 rfl (by kernel_rfl) (hd 7 114 (by kernel_rfl) (by kernel_rfl)), ?_⟩
              have e0 : a.eval (.tmp 118) = .bool true := hd 11 118 (by kernel_rfl) (by kernel_rfl)
              exact wp_value (exec_move rfl e0) ⟨_, rfl, hX, (fun h => h), rfl⟩
            · intro a X hX hL hd
              exact .inr ⟨wanted_false (b := true) 119 rfl (by kernel_rfl) (.inl (hd 12 119 (by kernel_rfl) (by kernel_rfl))), (fun h => h), rfl⟩
            · intro a X hX hL hd
              exact .inr ⟨wanted_false (b := true) 119 rfl (by kernel_rfl) (.inl (hd 12 119 (by kernel_rfl) (by kernel_rfl))), (fun h => h), rfl⟩
            · intro a X hX hL hd
              exact .inr ⟨wanted_false (b := true) 119 rfl (by kernel_rfl) (.inl (hd 12 119 (by kernel_rfl) (by kernel_rfl))), (fun h => h), rfl⟩
            · intro a X hX hL hd
              exact .inr ⟨wanted_false (b := false) 122 rfl (by kernel_rfl) (.inr (hd 15 122 (by kernel_rfl) (by kernel_rfl))), (fun h => h), rfl⟩
            · intro a X hX hL hd
              exact .inr ⟨wanted_false (b := false) 122 rfl (by kernel_rfl) (.inr (hd 15 122 (by kernel_rfl) (by kernel_rfl))), (fun h => h), rfl⟩
            · intro a X hX hL hd
              exact .inr ⟨wanted_false (b := false) 122 rfl (by kernel_rfl) (.inr (hd 15 122 (by kernel_rfl) (by kernel_rfl))), (fun h => h), rfl⟩
            · intro a X hX hL hd
              exact .inr ⟨wanted_false (b := false) 122 rfl (by kernel_rfl) (.inr (hd 15 122 (by kernel_rfl) (by kernel_rfl))), (fun h => h), rfl⟩
            · intro a X hX hL hd
              exact .inr ⟨wanted_false (b := true) 119 rfl (by kernel_rfl) (.inl (hd 12 119 (by kernel_rfl) (by kernel_rfl))), (fun h => h), rfl⟩
            · intro a X hX hL hd
              refine .inl ⟨wanted_true 114 rfl (by kernel_rfl) (hd 7 114 (by kernel_rfl) (by kernel_rfl)), ?_⟩
              have e0 : a.eval (.tmp 119) = .bool true := hd 12 119 (by kernel_rfl) (by kernel_rfl)
              have e1 : a.eval (.tmp 127) = undef := hd 20 127 (by kernel_rfl) (by kernel_rfl)
              exact wp_value (exec_pick rfl e0 rfl e1) ⟨_, rfl, hX, (fun h => h), rfl⟩
            · intro a X hX hL hd
              refine .inl ⟨rfl, ?_⟩
              have e0 : a.eval (.tmp 114) = .bool true := hd 7 114 (by kernel_rfl) (by kernel_rfl)
              have e1 : a.eval (.tmp 128) = .bool true := hd 21 128 (by kernel_rfl) (by kernel_rfl)
              exact wp_value (exec_pick rfl e0 e1 rfl) ⟨_, rfl, hX, (fun h => h), rfl⟩
            · intro a X hX hL hd
              refine .inl ⟨rfl, ?_⟩
              have e0 : a.eval (.tmp 2) = .pointer (some ⟨n, 0, none⟩) := hL.far 2 (by kernel_rfl)
              have e1 : a.eval (.tmp 129) = .bool true := hd 22 129 (by kernel_rfl) (by kernel_rfl)
              exact wp_skipped (exec_store rfl e0 e1 (hst X hX)) ⟨undef, rfl, SST.out X hX, RST.out X hX, PST.out X hX⟩
          case hd =>
            intro a X hX hL hd hE2
            obtain ⟨_, hfin⟩ := hE2 23 (of_decide_eq_true (by kernel_rfl))
            obtain ⟨f, ha, hf⟩ := hL.out [107, 108, 109, 110, 111, 112, 113, 114, 115, 116, 117, 118, 119, 120, 121, 122, 123, 124, 125, 126, 127, 128, 129] (by kernel_rfl)
            simp only [List.foldl_cons, List.foldl_nil, List.setIfInBounds_toArray, List.set_cons_zero, List.set_cons_succ] at ha
            clear hf hd hL
            subst ha
            have HF : Hid (X.heap[n]? = some (.cells #[.bool true] 4 (0, 0)) ∧ Keep (fun x => x = n) W X ∧ Below n w X) := Lib.hid ⟨hfin, hX.1, (HS1.out X hX).2.2.2.2.2⟩
            clear hfin hX
            gi_wp2_with fail
            obtain ⟨hD1, hD2⟩ := HD.out
            have hzX := HF.out.2.2.size
            have hnw : n = w.heap.size := HWN.out.symm
            refine leaves_marks (Ds := [D]) (by simp) (fun D' h => by simp at h; subst h; exact HF.out.2.1.heap hD2 (by show ¬ _ = n; omega)) (fun W' hk' => ?_)
            refine ⟨_, results_cell_one (g := n) rfl _ _ _ rfl (cell_one (hk'.heap HF.out.1 (fun h => by simp at h; omega))) Tryz.isAgg4, rfl, ?_⟩
            rw [← hnw]
            exact HF.out.2.2.trans (hk'.below (by omega) (fun b h => by simp at h; omega))
        · obtain ⟨K, hK⟩ : ∃ K, cntL R = K := ⟨_, rfl⟩
          obtain ⟨z, hz0⟩ : ∃ z : Int, z = 1000 := ⟨_, rfl⟩
          have hzK : z < K := by omega
          rw [← hz0] at hnW
          have hbW : Below cn V8 W := H3.out.1.trans (hkW.below (by omega) (fun b hb => by omega))
          have kW := KP.out W hbW
          have hzW := hkW.size
          have hcW := kW.2.2.1
          have HS1 : Hid (∀ X : World, (Keep (fun x => x = n) W X ∧ ∃ u, X.heap[n]? = some (.cells #[.bool u] 4 (0, 0))) → SetAt R b X ∧ SetAt R d X ∧ PEnv X ∧ X.cell? ⟨ca, 0, none⟩ = some (ptrV b) ∧ X.cell? ⟨cn, 0, none⟩ = some (.int .i64 z) ∧ Below n w X) := Lib.hid fun X hX => by
            have hbX : Below n w X := kW.1.trans (hX.1.below (by omega) (fun b hb => by omega))
            exact ⟨kW.2.2.2.1.keep1 hX.1 kW.2.1, kW.2.2.2.2.2.1.keep1 hX.1 kW.2.1, HE.out X hbX, hX.1.cell hcW (by show ¬ ca = n; omega), hX.1.cell (cell_one hnW) (by show ¬ cn = n; omega), hbX⟩
          have hla : ∀ X : World, (Keep (fun x => x = n) W X ∧ ∃ u, X.heap[n]? = some (.cells #[.bool u] 4 (0, 0))) → (Instr.loadAt 36 (.pointer (some ⟨ca, 0, none⟩))).run Tryz.prog X = .ok (ptrV b) X := fun X hX => by
            have q := (HS1.out X hX).2.2.2.1
            go_simp
          have hln : ∀ X : World, (Keep (fun x => x = n) W X ∧ ∃ u, X.heap[n]? = some (.cells #[.bool u] 4 (0, 0))) → (Instr.loadAt 3 (.pointer (some ⟨cn, 0, none⟩))).run Tryz.prog X = .ok (.int .i64 z) X := fun X hX => by
            have q := (HS1.out X hX).2.2.2.2.1
            go_simp
          have hln2 : ∀ X : World, (Keep (fun x => x = n) W X ∧ ∃ u, X.heap[n]? = some (.cells #[.bool u] 4 (0, 0))) → (Instr.loadAt 3 (.pointer (some ⟨cn, 0, none⟩))).run Tryz.prog X = .ok (.int .i64 1000) X := fun X hX => by rw [← hz0]; exact hln X hX
          have hst : ∀ X : World, (Keep (fun x => x = n) W X ∧ ∃ u, X.heap[n]? = some (.cells #[.bool u] 4 (0, 0))) → (Instr.storeAt 4 (.pointer (some ⟨n, 0, none⟩)) (.bool true)).run Tryz.prog X = .ok () (X.setCell ⟨n, 0, none⟩ (.bool true)) := fun X hX => by
            obtain ⟨u, hu⟩ := hX.2
            have q1 := cell_one hu
            have q2 := frozen_one hu
            go_simp
          have CSM : Hid (∀ X : World, (Keep (fun x => x = n) W X ∧ ∃ u, X.heap[n]? = some (.cells #[.bool u] 4 (0, 0))) → Calls Tryz.prog 26 #[ptrV b, ptrV d] X fun e w' => e = .returned (.bool true) ∧ Below X.heap.size X w') := Lib.hid fun X hX => same_yes R b d X (HS1.out X hX).1 (HS1.out X hX).2.1 HC.out (HS1.out X hX).2.2.1.1
          have CCT : Hid (∀ X : World, (Keep (fun x => x = n) W X ∧ ∃ u, X.heap[n]? = some (.cells #[.bool u] 4 (0, 0))) → Calls Tryz.prog 29 #[ptrV b] X fun e w' => e = .returned (.int .i64 K) ∧ Below X.heap.size X w') := Lib.hid fun X hX => by rw [← hK]; exact rcount_any R b X (HS1.out X hX).1 HC.out
          have SNX : Hid (∀ X X' : World, (Keep (fun x => x = n) W X ∧ ∃ u, X.heap[n]? = some (.cells #[.bool u] 4 (0, 0))) → Below X.heap.size X X' → (Keep (fun x => x = n) W X' ∧ ∃ u, X'.heap[n]? = some (.cells #[.bool u] 4 (0, 0)))) := Lib.hid fun X X' hX hb => ⟨hX.1.trans (.of_all hb), hX.2.elim fun u hu => ⟨u, (hb.block n (Array.getElem?_eq_some_iff.1 hu).1).trans hu⟩⟩
          have RNX : Hid (∀ X X' : World, (Keep (fun x => x = n) W X ∧ ∃ u, X.heap[n]? = some (.cells #[.bool u] 4 (0, 0))) → Below X.heap.size X X' → (X.heap[n]? = some (.cells #[.bool true] 4 (0, 0)) → X'.heap[n]? = some (.cells #[.bool true] 4 (0, 0)))) := Lib.hid fun X X' hX hb h => (hb.block n (Array.getElem?_eq_some_iff.1 h).1).trans h
          have SST : Hid (∀ X : World, (Keep (fun x => x = n) W X ∧ ∃ u, X.heap[n]? = some (.cells #[.bool u] 4 (0, 0))) → (Keep (fun x => x = n) W (X.setCell ⟨n, 0, none⟩ (.bool true)) ∧ ∃ u, (X.setCell ⟨n, 0, none⟩ (.bool true)).heap[n]? = some (.cells #[.bool u] 4 (0, 0)))) := Lib.hid fun X hX => ⟨Keep.setCell (p := ⟨n, 0, none⟩) hX.1 rfl _, hX.2.elim fun u hu => ⟨true, set_at (u := .bool true) hu⟩⟩
          have PST : Hid (∀ X : World, (Keep (fun x => x = n) W X ∧ ∃ u, X.heap[n]? = some (.cells #[.bool u] 4 (0, 0))) → (X.setCell ⟨n, 0, none⟩ (.bool true)).heap[n]? = some (.cells #[.bool true] 4 (0, 0))) := Lib.hid fun X hX => hX.2.elim fun u hu => set_at (u := .bool true) hu
          have RST : Hid (∀ X : World, (Keep (fun x => x = n) W X ∧ ∃ u, X.heap[n]? = some (.cells #[.bool u] 4 (0, 0))) → (X.heap[n]? = some (.cells #[.bool true] 4 (0, 0)) → (X.setCell ⟨n, 0, none⟩ (.bool true)).heap[n]? = some (.cells #[.bool true] 4 (0, 0)))) := Lib.hid fun X hX _ => PST.out X hX
          have S0 : Hid (Keep (fun x => x = n) W W.drew ∧ ∃ u, W.drew.heap[n]? = some (.cells #[.bool u] 4 (0, 0))) := Lib.hid ⟨.of_all (show Below W.heap.size W (W.drewN 1) from below_drewN (Below.refl _ _) 1), false, kW.2.1⟩
          have HD := Lib.hid (And.intro hD hDd)
          clear kW hbW hkW hY hnW hDd hcW
          gi_wp2_with fail
          refine wpIn_wide.2 ?_
          refine wp_region_guarded (fun X => Keep (fun x => x = n) W X ∧ ∃ u, X.heap[n]? = some (.cells #[.bool u] 4 (0, 0))) (fun U V => (U.heap[n]? = some (.cells #[.bool true] 4 (0, 0)) → V.heap[n]? = some (.cells #[.bool true] 4 (0, 0)))) (pL1 n ca cn b d z K) (by kernel_rfl) (by kernel_rfl) (by kernel_rfl) ?hS ?hp ?hs ?hd
          case hS => exact S0.out
          case hp =>
            intro i v U V _ _ hk hv
            unfold pL1 at hv ⊢
            split at hv <;> first | exact hv | exact hk hv
          case hs =>
            refine GSteps.cons ?_ (GSteps.cons ?_ (GSteps.cons ?_ (GSteps.cons ?_ (GSteps.cons ?_ (GSteps.cons ?_ (GSteps.cons ?_ (GSteps.cons ?_ (GSteps.cons ?_ (GSteps.cons ?_ (GSteps.cons ?_ (GSteps.cons ?_ (GSteps.cons ?_ (GSteps.cons ?_ (GSteps.cons ?_ (GSteps.cons ?_ (GSteps.cons ?_ (GSteps.cons ?_ (GSteps.cons ?_ (GSteps.cons ?_ (GSteps.cons ?_ (GSteps.cons ?_ (GSteps.cons ?_ (GSteps.cons ?_ (GSteps.nil))))))))))))))))))))))))
            · intro a X hX hL hd
              refine .inl ⟨rfl, ?_⟩
              have e0 : a.eval (.tmp 5) = .nilIface := hL.far 5 (by kernel_rfl)
              exact wp_value (exec_move rfl e0) ⟨_, rfl, hX, (fun h => h), rfl⟩
            · intro a X hX hL hd
              refine .inl ⟨rfl, ?_⟩
              have e0 : a.eval (.tmp 107) = .nilIface := hd 0 107 (by kernel_rfl) (by kernel_rfl)
              exact wp_value (exec_binop rfl e0 rfl (eqnil_yes X _)) ⟨_, rfl, hX, (fun h => h), rfl⟩
            · intro a X hX hL hd
              refine .inl ⟨rfl, ?_⟩
              have e0 : a.eval (.tmp 108) = .bool true := hd 1 108 (by kernel_rfl) (by kernel_rfl)
              exact wp_value (exec_move rfl e0) ⟨_, rfl, hX, (fun h => h), rfl⟩
            · intro a X hX hL hd
              refine .inl ⟨wanted_true 109 rfl (by kernel_rfl) (hd 2 109 (by kernel_rfl) (by kernel_rfl)), ?_⟩
              have e0 : a.eval (.tmp 3) = .pointer (some ⟨ca, 0, none⟩) := hL.far 3 (by kernel_rfl)
              exact wp_value (exec_load rfl e0 (hla X hX)) ⟨_, rfl, hX, (fun h => h), rfl⟩
            · intro a X hX hL hd
              refine .inl ⟨wanted_true 109 rfl (by kernel_rfl) (hd 2 109 (by kernel_rfl) (by kernel_rfl)), ?_⟩
              have e0 : a.eval (.tmp 7) = ptrV d := hL.far 7 (by kernel_rfl)
              exact wp_value (exec_move rfl e0) ⟨_, rfl, hX, (fun h => h), rfl⟩
            · intro a X hX hL hd
              refine .inl ⟨wanted_true 109 rfl (by kernel_rfl) (hd 2 109 (by kernel_rfl) (by kernel_rfl)), ?_⟩
              have e0 : a.eval (.tmp 110) = ptrV b := hd 3 110 (by kernel_rfl) (by kernel_rfl)
              have e1 : a.eval (.tmp 111) = ptrV d := hd 4 111 (by kernel_rfl) (by kernel_rfl)
              refine wp_enter (exec_call (vs := #[ptrV b, ptrV d]) rfl (by simp only [List.map_toArray, List.map_cons, List.map_nil, e0, e1]) Tryz.func26 rfl rfl) ?_
              refine (CSM.out X hX).mono ?_
              rintro e w' ⟨rfl, hb⟩
              exact ⟨_, rfl, _, rfl, SNX.out _ _ hX hb, RNX.out _ _ hX hb, rfl⟩
            · intro a X hX hL hd
              refine .inl ⟨rfl, ?_⟩
              have e0 : a.eval (.tmp 109) = .bool true := hd 2 109 (by kernel_rfl) (by kernel_rfl)
              have e1 : a.eval (.tmp 112) = .bool true := hd 5 112 (by kernel_rfl) (by kernel_rfl)
              exact wp_value (exec_pick rfl e0 e1 rfl) ⟨_, rfl, hX, (fun h => h), rfl⟩
            · intro a X hX hL hd
              refine .inl ⟨rfl, ?_⟩
              have e0 : a.eval (.tmp 113) = .bool true := hd 6 113 (by kernel_rfl) (by kernel_rfl)
              exact wp_value (exec_move rfl e0) ⟨_, rfl, hX, (fun h => h), rfl⟩
            · intro a X hX hL hd
              refine .inl ⟨wanted_true 114 rfl (by kernel_rfl) (hd 7 114 (by kernel_rfl) (by kernel_rfl)), ?_⟩
              have e0 : a.eval (.tmp 8) = .pointer (some ⟨cn, 0, none⟩) := hL.far 8 (by kernel_rfl)
              exact wp_value (exec_load rfl e0 (hln X hX)) ⟨_, rfl, hX, (fun h => h), rfl⟩
            · intro a X hX hL hd
              refine .inl ⟨wanted_true 114 rfl (by kernel_rfl) (hd 7 114 (by kernel_rfl) (by kernel_rfl)), ?_⟩
              have e0 : a.eval (.tmp 3) = .pointer (some ⟨ca, 0, none⟩) := hL.far 3 (by kernel_rfl)
              exact wp_value (exec_load rfl e0 (hla X hX)) ⟨_, rfl, hX, (fun h => h), rfl⟩
            · intro a X hX hL hd
              refine .inl ⟨wanted_true 114 rfl (by kernel_rfl) (hd 7 114 (by kernel_rfl) (by kernel_rfl)), ?_⟩
              have e0 : a.eval (.tmp 116) = ptrV b := hd 9 116 (by kernel_rfl) (by kernel_rfl)
              refine wp_enter (exec_call (vs := #[ptrV b]) rfl (by simp only [List.map_toArray, List.map_cons, List.map_nil, e0]) Tryz.func29 rfl rfl) ?_
              refine (CCT.out X hX).mono ?_
              rintro e w' ⟨rfl, hb⟩
              exact ⟨_, rfl, _, rfl, SNX.out _ _ hX hb, RNX.out _ _ hX hb, rfl⟩
            · intro a X hX hL hd
              refine .inl ⟨wanted_true 114 rfl (by kernel_rfl) (hd 7 114 (by kernel_rfl) (by kernel_rfl)), ?_⟩
              have e0 : a.eval (.tmp 115) = .int .i64 z := hd 8 115 (by kernel_rfl) (by kernel_rfl)
              have e1 : a.eval (.tmp 117) = .int .i64 K := hd 10 117 (by kernel_rfl) (by kernel_rfl)
              exact wp_value (exec_binop rfl e0 e1 (eql64_no X _ _ z K hzK)) ⟨_, rfl, hX, (fun h => h), rfl⟩
            · intro a X hX hL hd
              refine .inl ⟨wanted_true 114 rfl (by kernel_rfl) (hd 7 114 (by kernel_rfl) (by kernel_rfl)), ?_⟩
              have e0 : a.eval (.tmp 118) = .bool false := hd 11 118 (by kernel_rfl) (by kernel_rfl)
              exact wp_value (exec_move rfl e0) ⟨_, rfl, hX, (fun h => h), rfl⟩
            · intro a X hX hL hd
              refine .inl ⟨wanted_true 119 rfl (by kernel_rfl) (hd 12 119 (by kernel_rfl) (by kernel_rfl)), ?_⟩
              have e0 : a.eval (.tmp 8) = .pointer (some ⟨cn, 0, none⟩) := hL.far 8 (by kernel_rfl)
              exact wp_value (exec_load rfl e0 (hln2 X hX)) ⟨_, rfl, hX, (fun h => h), rfl⟩
            · intro a X hX hL hd
              refine .inl ⟨wanted_true 119 rfl (by kernel_rfl) (hd 12 119 (by kernel_rfl) (by kernel_rfl)), ?_⟩
              have e0 : a.eval (.tmp 120) = .int .i64 1000 := hd 13 120 (by kernel_rfl) (by kernel_rfl)
              exact wp_value (exec_binop rfl e0 rfl (eql64_yes X _ _ 1000)) ⟨_, rfl, hX, (fun h => h), rfl⟩
            · intro a X hX hL hd
              refine .inl ⟨wanted_true 119 rfl (by kernel_rfl) (hd 12 119 (by kernel_rfl) (by kernel_rfl)), ?_⟩
              have e0 : a.eval (.tmp 121) = .bool true := hd 14 121 (by kernel_rfl) (by kernel_rfl)
              exact wp_value (exec_move rfl e0) ⟨_, rfl, hX, (fun h => h), rfl⟩
            · intro a X hX hL hd
              refine .inl ⟨wanted_true 122 rfl (by kernel_rfl) (hd 15 122 (by kernel_rfl) (by kernel_rfl)), ?_⟩
              have e0 : a.eval (.tmp 3) = .pointer (some ⟨ca, 0, none⟩) := hL.far 3 (by kernel_rfl)
              exact wp_value (exec_load rfl e0 (hla X hX)) ⟨_, rfl, hX, (fun h => h), rfl⟩
            · intro a X hX hL hd
              refine .inl ⟨wanted_true 122 rfl (by kernel_rfl) (hd 15 122 (by kernel_rfl) (by kernel_rfl)), ?_⟩
              have e0 : a.eval (.tmp 123) = ptrV b := hd 16 123 (by kernel_rfl) (by kernel_rfl)
              refine wp_enter (exec_call (vs := #[ptrV b]) rfl (by simp only [List.map_toArray, List.map_cons, List.map_nil, e0]) Tryz.func29 rfl rfl) ?_
              refine (CCT.out X hX).mono ?_
              rintro e w' ⟨rfl, hb⟩
              exact ⟨_, rfl, _, rfl, SNX.out _ _ hX hb, RNX.out _ _ hX hb, rfl⟩
            · intro a X hX hL hd
              refine .inl ⟨wanted_true 122 rfl (by kernel_rfl) (hd 15 122 (by kernel_rfl) (by kernel_rfl)), ?_⟩
              have e0 : a.eval (.tmp 8) = .pointer (some ⟨cn, 0, none⟩) := hL.far 8 (by kernel_rfl)
              exact wp_value (exec_load rfl e0 (hln X hX)) ⟨_, rfl, hX, (fun h => h), rfl⟩
            · intro a X hX hL hd
              refine .inl ⟨wanted_true 122 rfl (by kernel_rfl) (hd 15 122 (by kernel_rfl) (by kernel_rfl)), ?_⟩
              have e0 : a.eval (.tmp 124) = .int .i64 K := hd 17 124 (by kernel_rfl) (by kernel_rfl)
              have e1 : a.eval (.tmp 125) = .int .i64 z := hd 18 125 (by kernel_rfl) (by kernel_rfl)
              exact wp_value (exec_binop rfl e0 e1 (gtr64_far X _ _ K z hzK)) ⟨_, rfl, hX, (fun h => h), rfl⟩
            · intro a X hX hL hd
              refine .inl ⟨wanted_true 119 rfl (by kernel_rfl) (hd 12 119 (by kernel_rfl) (by kernel_rfl)), ?_⟩
              have e0 : a.eval (.tmp 122) = .bool true := hd 15 122 (by kernel_rfl) (by kernel_rfl)
              have e1 : a.eval (.tmp 126) = .bool true := hd 19 126 (by kernel_rfl) (by kernel_rfl)
              exact wp_value (exec_pick rfl e0 e1 rfl) ⟨_, rfl, hX, (fun h => h), rfl⟩
            · intro a X hX hL hd
              refine .inl ⟨wanted_true 114 rfl (by kernel_rfl) (hd 7 114 (by kernel_rfl) (by kernel_rfl)), ?_⟩
              have e0 : a.eval (.tmp 119) = .bool false := hd 12 119 (by kernel_rfl) (by kernel_rfl)
              have e1 : a.eval (.tmp 127) = .bool true := hd 20 127 (by kernel_rfl) (by kernel_rfl)
              exact wp_value (exec_pick rfl e0 rfl e1) ⟨_, rfl, hX, (fun h => h), rfl⟩
            · intro a X hX hL hd
              refine .inl ⟨rfl, ?_⟩
              have e0 : a.eval (.tmp 114) = .bool true := hd 7 114 (by kernel_rfl) (by kernel_rfl)
              have e1 : a.eval (.tmp 128) = .bool true := hd 21 128 (by kernel_rfl) (by kernel_rfl)
              exact wp_value (exec_pick rfl e0 e1 rfl) ⟨_, rfl, hX, (fun h => h), rfl⟩
            · intro a X hX hL hd
              refine .inl ⟨rfl, ?_⟩
              have e0 : a.eval (.tmp 2) = .pointer (some ⟨n, 0, none⟩) := hL.far 2 (by kernel_rfl)
              have e1 : a.eval (.tmp 129) = .bool true := hd 22 129 (by kernel_rfl) (by kernel_rfl)
              exact wp_skipped (exec_store rfl e0 e1 (hst X hX)) ⟨undef, rfl, SST.out X hX, RST.out X hX, PST.out X hX⟩
          case hd =>
            intro a X hX hL hd hE2
            obtain ⟨_, hfin⟩ := hE2 23 (of_decide_eq_true (by kernel_rfl))
            obtain ⟨f, ha, hf⟩ := hL.out [107, 108, 109, 110, 111, 112, 113, 114, 115, 116, 117, 118, 119, 120, 121, 122, 123, 124, 125, 126, 127, 128, 129] (by kernel_rfl)
            simp only [List.foldl_cons, List.foldl_nil, List.setIfInBounds_toArray, List.set_cons_zero, List.set_cons_succ] at ha
            clear hf hd hL
            subst ha
            have HF : Hid (X.heap[n]? = some (.cells #[.bool true] 4 (0, 0)) ∧ Keep (fun x => x = n) W X ∧ Below n w X) := Lib.hid ⟨hfin, hX.1, (HS1.out X hX).2.2.2.2.2⟩
            clear hfin hX
            gi_wp2_with fail
            obtain ⟨hD1, hD2⟩ := HD.out
            have hzX := HF.out.2.2.size
            have hnw : n = w.heap.size := HWN.out.symm
            refine leaves_marks (Ds := [D]) (by simp) (fun D' h => by simp at h; subst h; exact HF.out.2.1.heap hD2 (by show ¬ _ = n; omega)) (fun W' hk' => ?_)
            refine ⟨_, results_cell_one (g := n) rfl _ _ _ rfl (cell_one (hk'.heap HF.out.1 (fun h => by simp at h; omega))) Tryz.isAgg4, rfl, ?_⟩
            rw [← hnw]
            exact HF.out.2.2.trans (hk'.below (by omega) (fun b h => by simp at h; omega))
end Go.Proofs.YtjbkpcdpdifpnaaGreatDoor
