/- The document's has, Has; the law's own told, is (written by gen_rx.py). -/
import Derived.Test.YtjbkpcdpdifpnaaGreatDoorRw
import Derived.Test.YtjbkpcdpdifpnaaGreatDoorRq
import Derived.Test.YtjbkpcdpdifpnaaGreatDoorNu
import Derived.Test.YtjbkpcdpdifpnaaGreatDoorCk2
import Derived.Test.YtjbkpcdpdifpnaaGreatDoorK9
namespace Go.Proofs.YtjbkpcdpdifpnaaGreatDoor
open Go Go.RowKit Go.Kt Go.Kt.Rg
attribute [local go_sem] Oper.semAt_some

theorem told_ok (a : Int) (w : World) : Calls Tryz.prog 18 #[.nilIface, .int .i64 0, .int .i64 a] w fun e w' => e = .returned (.bool true) ∧ Below w.heap.size w w' := by
  go_enter Tryz.func18, Tryz.ntmps18
  go_wp2
  go_ret
  exact ⟨rfl, Below.refl _ _⟩
theorem told_fault (no a : Int) (w : World) (h1 : 1 ≤ no) (h25 : no ≤ 25) (hE : ErrT w) : Calls Tryz.prog 18 #[.iface 96 (fv no 0 a), .int .i64 no, .int .i64 a] w fun e w' => e = .returned (.bool true) ∧ Below w.heap.size w w' := by
  have C := Lib.hid (at_fault no 0 a w h1 h25 hE)
  have n0 : (no == 0) = false := by rw [beq_eq_false_iff_ne]; omega
  clear hE h1 h25
  go_enter Tryz.func18, Tryz.ntmps18
  go_wp2_with fail
  refine C.out.mono ?_
  rintro e w' ⟨rfl, hb⟩
  go_wp2
  go_ret
  exact ⟨rfl, hb⟩

set_option maxRecDepth 100000 in
theorem xhas_any (l : List Run) (v : Value) (k : Int) (w : World) (h : SlR w v (l.map dnR)) (hc : Canon l) :
    Calls Tryz.prog 103 #[.agg #[v], .int .i64 k] w fun e w' => e = .returned (.bool (hasL l k)) ∧ Below w.heap.size w w' := by
  obtain ⟨ao, cap, rfl, hrow⟩ := slr_at h
  have hlen := canon_len hc (Int.le_refl _)
  have hl : l.length ≤ 1112192 := by unfold allN at hlen; omega
  have HR := Lib.hid hrow
  clear h hrow hc hlen
  obtain ⟨n, hn⟩ : ∃ n, l.length = n := ⟨_, rfl⟩
  have HN := Lib.hid hn
  rw [hn] at hl ⊢
  clear hn
  go_enter Tryz.func103, Tryz.ntmps103
  go_wp2
  go_loopw [5] (fun x wr => ∃ i : Nat, x = .int .i64 i ∧ i ≤ n ∧ (∀ (j : Nat) (y : Run), j < i → l[j]? = some y → ¬ (y.1 ≤ k ∧ k < y.2)) ∧ BoxW w (.slice ao n cap) wr) (fun x _ => n - (RowKit.intOf x).toNat)
  case atStart => exact ⟨0, rfl, by omega, fun j y hj => by omega, BoxW.start _ _⟩
  case round =>
    obtain ⟨i, rfl, hi, hno, hb⟩ := hrel
    have c0 := hb.cell
    have HB := Lib.hid hb
    have HNO := Lib.hid hno
    clear hb hno
    by_cases hlt : i < n
    · have hlt' : (i : Int) < n := by omega
      obtain ⟨x, hx⟩ : ∃ x, l[i]? = some x := ⟨_, List.getElem?_eq_getElem (by rw [HN.out]; exact hlt)⟩
      obtain ⟨g, rfl, r1, r2⟩ := HR.out wr HB.out.2.1 i x hx
      obtain ⟨x1, x2⟩ := x
      simp only at r1 r2
      obtain ⟨u, hu⟩ : ∃ u, x2 - 1 = u := ⟨_, rfl⟩
      rw [hu] at r2
      by_cases hin : x1 ≤ k ∧ k ≤ u
      · have HT : Hid (hasL l k = true) := Lib.hid ((hasL_iff l k).2 ⟨(x1, x2), List.mem_of_getElem? hx, by show x1 ≤ k; omega, by show k < x2; omega⟩)
        obtain ⟨h1, h2⟩ := hin
        clear hx hu
        go_wp2
        go_ret
        exact ⟨by rw [HT.out]; rfl, HB.out.2.1⟩
      · have HS : Hid (∀ (j : Nat) (y : Run), j < i + 1 → l[j]? = some y → ¬ (y.1 ≤ k ∧ k < y.2)) := Lib.hid fun j y hj hy => by
          rcases Nat.lt_or_ge j i with h | h
          · exact HNO.out j y h hy
          · obtain rfl : j = i := by omega
            rw [hx] at hy
            cases hy
            simp only
            omega
        by_cases h1 : x1 ≤ k
        · have h2 : ¬ k ≤ u := by omega
          clear hx hu hin
          go_wp2
          go_roundw
          case rel => exact ⟨i + 1, by go_num, by omega, HS.out, HB.out⟩
          case measure => simp [RowKit.intOf]; omega
        · clear hx hu hin
          go_wp2
          go_roundw
          case rel => exact ⟨i + 1, by go_num, by omega, HS.out, HB.out⟩
          case measure => simp [RowKit.intOf]; omega
    · have hlt' : ¬ (i : Int) < n := by omega
      obtain rfl : i = n := by omega
      have HT : Hid (hasL l k = false) := Lib.hid (by
        rw [Bool.eq_false_iff]
        intro h
        obtain ⟨y, hy, h1, h2⟩ := (hasL_iff l k).1 h
        obtain ⟨j, hj, rfl⟩ := List.getElem_of_mem hy
        exact HNO.out j _ (by rw [← HN.out]; exact hj) (List.getElem?_eq_getElem hj) ⟨h1, h2⟩)
      go_wp2
      go_ret
      exact ⟨by rw [HT.out]; rfl, HB.out.2.1⟩
theorem hasB_eq {l : List Run} (_hc : Canon l) (r : Int) : hasB l r = (decide (0 ≤ dNum r) && hasL l (dNum r)) := by
  unfold hasB
  rw [Bool.eq_iff_iff, Bool.and_eq_true, Bool.and_eq_true, decide_eq_true_eq, hasL_iff, memB_iff, dNum_numB]
  by_cases h : (numB r).2 = true
  · rw [if_pos h]
    have := numB_bd r
    exact ⟨fun hh => ⟨by omega, hh.2⟩, fun hh => ⟨h, hh.2⟩⟩
  · rw [if_neg h]
    exact ⟨fun hh => absurd hh.1 h, fun hh => by omega⟩
theorem load_set {W : World} {g : Nat} {v : Value} (h : W.heap[g]? = some (.cells #[v] 44 (0, 0))) : (Instr.loadAt 44 (.pointer (some ⟨g, 0, none⟩))).run Tryz.prog W = .ok (.agg #[v]) W := by
  simp only [Instr.loadAt, Instr.sureAddr, Sem.run_bind, Sem.run_pure, Result.andThen_ok, run_loadVar_row W g _ _ _ _ _ h Tryz.underlying44 rfl (by kernel_rfl)]
theorem geq64_yes (X : World) (x y : Operand) (d : Int) (h : 0 ≤ d) : (do eqGuard .geq 3 x y (.int .i64 d) (.int .i64 0); binOp .geq 3 (.int .i64 d) (.int .i64 0) : Sem Value).run Tryz.prog X = .ok (.bool true) X := by go_simp
theorem geq64_no (X : World) (x y : Operand) (d : Int) (h : ¬ 0 ≤ d) : (do eqGuard .geq 3 x y (.int .i64 d) (.int .i64 0); binOp .geq 3 (.int .i64 d) (.int .i64 0) : Sem Value).run Tryz.prog X = .ok (.bool false) X := by go_simp
def pH1 (_n : Nat) (sv : Value) (r d : Int) (l : List Run) (jx : Nat) (v : Value) (_W : World) : Prop := match jx with
  | 0 => v = .int .i32 r
  | 1 => v = .int .i64 d
  | 2 => v = .bool true
  | 3 => v = .bool true
  | 4 => v = .agg #[sv]
  | 5 => v = .int .i32 r
  | 6 => v = .int .i64 d
  | 7 => v = .bool (hasL l d)
  | 8 => v = .bool (hasL l d)
  | 9 => v = .bool (hasL l d)
  | _ => True
def pH0 (_n : Nat) (_sv : Value) (r d : Int) (_l : List Run) (jx : Nat) (v : Value) (_W : World) : Prop := match jx with
  | 0 => v = .int .i32 r
  | 1 => v = .int .i64 d
  | 2 => v = .bool false
  | 3 => v = .bool false
  | 4 => v = undef
  | 5 => v = undef
  | 6 => v = undef
  | 7 => v = undef
  | 8 => v = .bool false
  | 9 => v = .bool false
  | _ => True
set_option maxRecDepth 100000 in
theorem xHas_any (l : List Run) (sv : Value) (r : Int) (w : World) (h : SlR w sv (l.map dnR)) (hc : Canon l) (h0 : -2147483648 ≤ r) (h1 : r ≤ 2147483647) :
    Calls Tryz.prog 50 #[.agg #[sv], .int .i32 r] w fun e w' => e = .returned (.bool (hasB l r)) ∧ Below w.heap.size w w' := by
  obtain ⟨V0, hV0⟩ : ∃ V0, w.alloc (.cells #[sv] 44) = V0 := ⟨_, rfl⟩
  have hB0 : BoxW w sv V0 := by rw [← hV0]; exact BoxW.start w sv
  have KW : Hid (∀ X, Below (w.heap.size + 1) V0 X → Below w.heap.size w X ∧ BoxW w sv X) := Lib.hid fun X hX => by
    have hbx : BoxW w sv X := ⟨(hX.block _ (by omega)).trans hB0.1, hB0.2.1.trans (hX.mono (by omega)), Nat.le_trans hB0.2.2 hX.size⟩
    exact ⟨hbx.2.1, hbx⟩
  have hla : ∀ X, Below (w.heap.size + 1) V0 X → (Instr.loadAt 44 (.pointer (some ⟨w.heap.size, 0, none⟩))).run Tryz.prog X = .ok (.agg #[sv]) X := fun X hX => load_set (KW.out X hX).2.1
  have hz0 : V0.heap.size = w.heap.size + 1 := by rw [← hV0]; simp
  have SNX : Hid (∀ X Y, Below (w.heap.size + 1) V0 X → Below X.heap.size X Y → Below (w.heap.size + 1) V0 Y) := Lib.hid fun X Y h k => h.trans (k.mono (by have := h.size; omega))
  clear hz0
  have CN := Lib.hid (fun V => xNumber_any r V h0 h1)
  have HE := Lib.hid (hasB_eq hc r)
  have CH : Hid (∀ X, Below (w.heap.size + 1) V0 X → Calls Tryz.prog 103 #[.agg #[sv], .int .i64 (dNum r)] X fun e w' => e = .returned (.bool (hasL l (dNum r))) ∧ Below X.heap.size X w') := Lib.hid fun X hX => xhas_any l sv (dNum r) X (h.below (KW.out X hX).1) hc
  have hvs : ∃ ao cap, sv = .slice ao l.length cap := by obtain ⟨ao, cap, e, _⟩ := slr_at h; exact ⟨ao, cap, e⟩
  obtain ⟨va, vc, rfl⟩ := hvs
  obtain ⟨sv, hsv⟩ : ∃ sv, Value.slice va l.length vc = sv := ⟨_, rfl⟩
  have HV0 := Lib.hid hV0
  have HSV := Lib.hid hsv
  generalize dNum r = d at *
  clear hV0 hB0 h hc h0 h1 hsv
  go_enter Tryz.func50, Tryz.ntmps50
  go_wp2_with fail
  rw [HV0.out]
  rw [HSV.out] at hla CH KW HV0 ⊢
  have S0 : Below (w.heap.size + 1) V0 V0.drew := below_drewN (Below.refl _ _) 1
  by_cases hge : 0 ≤ d
  · have hdd : (decide (0 ≤ d)) = true := by simpa using hge
    refine wp_region_guarded (fun X => Below (w.heap.size + 1) V0 X) (fun U V => Below U.heap.size U V) (pH1 w.heap.size sv r d l) (by kernel_rfl) (by kernel_rfl) (by kernel_rfl) S0 ?hp ?hs ?hd
    case hp =>
      intro i v U V _ _ hk hv
      unfold pH1 at hv ⊢
      split at hv <;> exact hv
    case hs =>
      refine GSteps.cons ?_ (GSteps.cons ?_ (GSteps.cons ?_ (GSteps.cons ?_ (GSteps.cons ?_ (GSteps.cons ?_ (GSteps.cons ?_ (GSteps.cons ?_ (GSteps.cons ?_ (GSteps.cons ?_ (GSteps.nil))))))))))
      · intro a X hX hL hd
        refine .inl ⟨rfl, ?_⟩
        have e0 : a.eval (.tmp 1) = .int .i32 r := hL.far 1 (by kernel_rfl)
        exact wp_value (exec_move rfl e0) ⟨_, rfl, hX, Below.refl _ _, rfl⟩
      · intro a X hX hL hd
        refine .inl ⟨rfl, ?_⟩
        have e0 : a.eval (.tmp 5) = .int .i32 r := hd 0 5 (by kernel_rfl) (by kernel_rfl)
        refine wp_enter (exec_call (vs := #[.int .i32 r]) rfl (by simp only [List.map_toArray, List.map_cons, List.map_nil, e0]) Tryz.func44 rfl rfl) ?_
        refine (CN.out X).mono ?_
        rintro e w' ⟨rfl, rfl⟩
        exact ⟨_, rfl, _, rfl, hX, Below.refl _ _, rfl⟩
      · intro a X hX hL hd
        refine .inl ⟨rfl, ?_⟩
        have e0 : a.eval (.tmp 6) = .int .i64 d := hd 1 6 (by kernel_rfl) (by kernel_rfl)
        exact wp_value (exec_binop rfl e0 rfl (geq64_yes X _ _ d hge)) ⟨_, rfl, hX, Below.refl _ _, rfl⟩
      · intro a X hX hL hd
        refine .inl ⟨rfl, ?_⟩
        have e0 : a.eval (.tmp 7) = .bool true := hd 2 7 (by kernel_rfl) (by kernel_rfl)
        exact wp_value (exec_move rfl e0) ⟨_, rfl, hX, Below.refl _ _, rfl⟩
      · intro a X hX hL hd
        refine .inl ⟨wanted_true 8 rfl (by kernel_rfl) (hd 3 8 (by kernel_rfl) (by kernel_rfl)), ?_⟩
        have e0 : a.eval (.tmp 2) = .pointer (some ⟨w.heap.size, 0, none⟩) := hL.far 2 (by kernel_rfl)
        exact wp_value (exec_load rfl e0 (hla X hX)) ⟨_, rfl, hX, Below.refl _ _, rfl⟩
      · intro a X hX hL hd
        refine .inl ⟨wanted_true 8 rfl (by kernel_rfl) (hd 3 8 (by kernel_rfl) (by kernel_rfl)), ?_⟩
        have e0 : a.eval (.tmp 1) = .int .i32 r := hL.far 1 (by kernel_rfl)
        exact wp_value (exec_move rfl e0) ⟨_, rfl, hX, Below.refl _ _, rfl⟩
      · intro a X hX hL hd
        refine .inl ⟨wanted_true 8 rfl (by kernel_rfl) (hd 3 8 (by kernel_rfl) (by kernel_rfl)), ?_⟩
        have e0 : a.eval (.tmp 10) = .int .i32 r := hd 5 10 (by kernel_rfl) (by kernel_rfl)
        refine wp_enter (exec_call (vs := #[.int .i32 r]) rfl (by simp only [List.map_toArray, List.map_cons, List.map_nil, e0]) Tryz.func44 rfl rfl) ?_
        refine (CN.out X).mono ?_
        rintro e w' ⟨rfl, rfl⟩
        exact ⟨_, rfl, _, rfl, hX, Below.refl _ _, rfl⟩
      · intro a X hX hL hd
        refine .inl ⟨wanted_true 8 rfl (by kernel_rfl) (hd 3 8 (by kernel_rfl) (by kernel_rfl)), ?_⟩
        have e0 : a.eval (.tmp 9) = .agg #[sv] := hd 4 9 (by kernel_rfl) (by kernel_rfl)
        have e1 : a.eval (.tmp 11) = .int .i64 d := hd 6 11 (by kernel_rfl) (by kernel_rfl)
        refine wp_enter (exec_call (vs := #[.agg #[sv], .int .i64 d]) rfl (by simp only [List.map_toArray, List.map_cons, List.map_nil, e0, e1]) Tryz.func103 rfl rfl) ?_
        refine (CH.out X hX).mono ?_
        rintro e w' ⟨rfl, hb⟩
        exact ⟨_, rfl, _, rfl, SNX.out _ _ hX hb, hb, rfl⟩
      · intro a X hX hL hd
        refine .inl ⟨rfl, ?_⟩
        have e0 : a.eval (.tmp 8) = .bool true := hd 3 8 (by kernel_rfl) (by kernel_rfl)
        have e1 : a.eval (.tmp 12) = .bool (hasL l d) := hd 7 12 (by kernel_rfl) (by kernel_rfl)
        exact wp_value (exec_pick rfl e0 e1 rfl) ⟨_, rfl, hX, Below.refl _ _, rfl⟩
      · intro a X hX hL hd
        refine .inl ⟨rfl, ?_⟩
        have e0 : a.eval (.tmp 13) = .bool (hasL l d) := hd 8 13 (by kernel_rfl) (by kernel_rfl)
        exact wp_value (exec_asg rfl e0) ⟨_, rfl, hX, Below.refl _ _, rfl⟩
    case hd =>
      intro a X hX hL hd _
      have h4 : a.tmps.getD 4 undef = .bool (hasL l d) := hd 9 4 (by kernel_rfl)
      obtain ⟨f, ha, hf⟩ := hL.out [5, 6, 7, 8, 9, 10, 11, 12, 13, 4] (by kernel_rfl)
      have h4' : f 4 = .bool (hasL l d) := (hf 4).trans h4
      simp only [List.foldl_cons, List.foldl_nil, List.setIfInBounds_toArray, List.set_cons_zero, List.set_cons_succ, h4'] at ha
      clear hf hd hL h4
      subst ha
      have HX := Lib.hid (KW.out X hX).1
      clear hX S0
      go_wp2_with fail
      go_ret
      exact ⟨by rw [HE.out, hdd, Bool.true_and]; rfl, HX.out⟩
  · have hdd : (decide (0 ≤ d)) = false := by simpa using hge
    refine wp_region_guarded (fun X => Below (w.heap.size + 1) V0 X) (fun U V => Below U.heap.size U V) (pH0 w.heap.size sv r d l) (by kernel_rfl) (by kernel_rfl) (by kernel_rfl) S0 ?hp ?hs ?hd
    case hp =>
      intro i v U V _ _ hk hv
      unfold pH0 at hv ⊢
      split at hv <;> exact hv
    case hs =>
      refine GSteps.cons ?_ (GSteps.cons ?_ (GSteps.cons ?_ (GSteps.cons ?_ (GSteps.cons ?_ (GSteps.cons ?_ (GSteps.cons ?_ (GSteps.cons ?_ (GSteps.cons ?_ (GSteps.cons ?_ (GSteps.nil))))))))))
      · intro a X hX hL hd
        refine .inl ⟨rfl, ?_⟩
        have e0 : a.eval (.tmp 1) = .int .i32 r := hL.far 1 (by kernel_rfl)
        exact wp_value (exec_move rfl e0) ⟨_, rfl, hX, Below.refl _ _, rfl⟩
      · intro a X hX hL hd
        refine .inl ⟨rfl, ?_⟩
        have e0 : a.eval (.tmp 5) = .int .i32 r := hd 0 5 (by kernel_rfl) (by kernel_rfl)
        refine wp_enter (exec_call (vs := #[.int .i32 r]) rfl (by simp only [List.map_toArray, List.map_cons, List.map_nil, e0]) Tryz.func44 rfl rfl) ?_
        refine (CN.out X).mono ?_
        rintro e w' ⟨rfl, rfl⟩
        exact ⟨_, rfl, _, rfl, hX, Below.refl _ _, rfl⟩
      · intro a X hX hL hd
        refine .inl ⟨rfl, ?_⟩
        have e0 : a.eval (.tmp 6) = .int .i64 d := hd 1 6 (by kernel_rfl) (by kernel_rfl)
        exact wp_value (exec_binop rfl e0 rfl (geq64_no X _ _ d hge)) ⟨_, rfl, hX, Below.refl _ _, rfl⟩
      · intro a X hX hL hd
        refine .inl ⟨rfl, ?_⟩
        have e0 : a.eval (.tmp 7) = .bool false := hd 2 7 (by kernel_rfl) (by kernel_rfl)
        exact wp_value (exec_move rfl e0) ⟨_, rfl, hX, Below.refl _ _, rfl⟩
      · intro a X hX hL hd
        exact .inr ⟨wanted_false (b := false) 8 rfl (by kernel_rfl) (.inl (hd 3 8 (by kernel_rfl) (by kernel_rfl))), Below.refl _ _, rfl⟩
      · intro a X hX hL hd
        exact .inr ⟨wanted_false (b := false) 8 rfl (by kernel_rfl) (.inl (hd 3 8 (by kernel_rfl) (by kernel_rfl))), Below.refl _ _, rfl⟩
      · intro a X hX hL hd
        exact .inr ⟨wanted_false (b := false) 8 rfl (by kernel_rfl) (.inl (hd 3 8 (by kernel_rfl) (by kernel_rfl))), Below.refl _ _, rfl⟩
      · intro a X hX hL hd
        exact .inr ⟨wanted_false (b := false) 8 rfl (by kernel_rfl) (.inl (hd 3 8 (by kernel_rfl) (by kernel_rfl))), Below.refl _ _, rfl⟩
      · intro a X hX hL hd
        refine .inl ⟨rfl, ?_⟩
        have e0 : a.eval (.tmp 8) = .bool false := hd 3 8 (by kernel_rfl) (by kernel_rfl)
        have e1 : a.eval (.tmp 12) = undef := hd 7 12 (by kernel_rfl) (by kernel_rfl)
        exact wp_value (exec_pick rfl e0 e1 rfl) ⟨_, rfl, hX, Below.refl _ _, rfl⟩
      · intro a X hX hL hd
        refine .inl ⟨rfl, ?_⟩
        have e0 : a.eval (.tmp 13) = .bool false := hd 8 13 (by kernel_rfl) (by kernel_rfl)
        exact wp_value (exec_asg rfl e0) ⟨_, rfl, hX, Below.refl _ _, rfl⟩
    case hd =>
      intro a X hX hL hd _
      have h4 : a.tmps.getD 4 undef = .bool false := hd 9 4 (by kernel_rfl)
      obtain ⟨f, ha, hf⟩ := hL.out [5, 6, 7, 8, 9, 10, 11, 12, 13, 4] (by kernel_rfl)
      have h4' : f 4 = .bool false := (hf 4).trans h4
      simp only [List.foldl_cons, List.foldl_nil, List.setIfInBounds_toArray, List.set_cons_zero, List.set_cons_succ, h4'] at ha
      clear hf hd hL h4
      subst ha
      have HX := Lib.hid (KW.out X hX).1
      clear hX S0
      go_wp2_with fail
      go_ret
      exact ⟨by rw [HE.out, hdd, Bool.false_and]; rfl, HX.out⟩

theorem eqptr_no (X : World) (x : Operand) (b : Nat) : (do eqGuard .eql 36 x (.const (.pointer none)) (ptrV b) (.pointer none); binOp .eql 36 (ptrV b) (.pointer none) : Sem Value).run Tryz.prog X = .ok (.bool false) X := by go_simp
theorem neq64_no (X : World) (x y : Operand) (z : Int) : (do eqGuard .neq 3 x y (.int .i64 z) (.int .i64 z); binOp .neq 3 (.int .i64 z) (.int .i64 z) : Sem Value).run Tryz.prog X = .ok (.bool false) X := by go_simp
theorem neqs_no (X : World) (x y : Operand) (s : ByteArray) : (do eqGuard .neq 9 x y (.string s) (.string s); binOp .neq 9 (.string s) (.string s) : Sem Value).run Tryz.prog X = .ok (.bool false) X := by go_simp
theorem neqb_no (X : World) (x y : Operand) (u : Bool) : (do eqGuard .neq 4 x y (.bool u) (.bool u); binOp .neq 4 (.bool u) (.bool u) : Sem Value).run Tryz.prog X = .ok (.bool false) X := by cases u <;> go_simp
def pI1 (b _n : Nat) (sv : Value) (R : List Run) (PS : ByteArray) (jx : Nat) (v : Value) (W : World) : Prop := match jx with
  | 0 => v = ptrV b
  | 1 => v = .bool false
  | 2 => v = .bool false
  | 3 => v = ptrV b
  | 4 => (fun v W => SpG W v (spansL R)) v W
  | 5 => v = .agg #[sv]
  | 6 => (fun v W => SpG W v (spansL R)) v W
  | 7 => v = .bool true
  | 8 => v = .bool false
  | 9 => v = .bool false
  | 10 => v = .bool false
  | 11 => v = ptrV b
  | 12 => v = .int .i64 (cntL R)
  | 13 => v = .agg #[sv]
  | 14 => v = .int .i64 (cntL R)
  | 15 => v = .bool false
  | 16 => v = .bool false
  | 17 => v = .bool false
  | 18 => v = ptrV b
  | 19 => v = .string PS
  | 20 => v = .agg #[sv]
  | 21 => v = .string PS
  | 22 => v = .bool false
  | 23 => v = .bool false
  | _ => True
def pI6 (b _n m i ca : Nat) (A : Addr) (x : Int) (sv : Value) (R : List Run) (jx : Nat) (v : Value) (_W : World) : Prop := match jx with
  | 0 => v = ptrV b
  | 1 => v = .slice (some A) m ca
  | 2 => v = .int .i64 (i : Nat)
  | 3 => v = .pointer (some (A.add i))
  | 4 => v = .int .i32 x
  | 5 => v = .bool (hasB R x)
  | 6 => v = .agg #[sv]
  | 7 => v = .slice (some A) m ca
  | 8 => v = .int .i64 (i : Nat)
  | 9 => v = .pointer (some (A.add i))
  | 10 => v = .int .i32 x
  | 11 => v = .bool (hasB R x)
  | 12 => v = .bool false
  | _ => True
def pI8 (b _n : Nat) (sv : Value) (R : List Run) (jx : Nat) (v : Value) (W : World) : Prop := match jx with
  | 0 => v = ptrV b
  | 1 => (fun v W => Sl .i32 W v ((ptsL R).take 300)) v W
  | 2 => v = .agg #[sv]
  | 3 => (fun v W => Sl .i32 W v ((ptsL R).take 300)) v W
  | 4 => v = .bool true
  | 5 => v = .bool true
  | _ => True
set_option maxRecDepth 100000 in
set_option maxHeartbeats 8000000 in
theorem is_any (R : List Run) (b : Nat) (sv av : Value) (ask : List Int) (w : World) (hE : REnv w) (hs : SetAt R b w) (hc : Canon R) (hv : SlR w sv (R.map dnR)) (ha : Slg .i32 w av ask) (hr : ∀ x ∈ ask, -2147483648 ≤ x ∧ x ≤ 2147483647) (hm : ask.length ≤ 4611686018427387904) :
    Calls Tryz.prog 19 #[ptrV b, .agg #[sv], av] w fun e w' => e = .returned (.bool true) ∧ Below w.heap.size w w' := by
  obtain ⟨V0, hV0⟩ : ∃ V0, w.alloc (.cells #[sv] 44) = V0 := ⟨_, rfl⟩
  have hB0 : BoxW w sv V0 := by rw [← hV0]; exact BoxW.start w sv
  have hlen := canon_len hc (Int.le_refl _)
  have hlN : R.length ≤ 1112192 := by unfold allN at hlen; omega
  have hsm : (spansL R).length ≤ 4611686018427387904 := by unfold spansL; rw [List.length_map]; omega
  have hfm : ((ptsL R).take 300).length ≤ 4611686018427387904 := by rw [List.length_take]; omega
  obtain ⟨PS, hPS⟩ : ∃ PS : ByteArray, (⟨(91 :: printL (spansL R) ++ [93]).toArray⟩ : ByteArray) = PS := ⟨_, rfl⟩
  have KW : Hid (∀ X, Below (w.heap.size + 1) V0 X → Below w.heap.size w X ∧ BoxW w sv X) := Lib.hid fun X hX => by
    have hbx : BoxW w sv X := ⟨(hX.block _ (by omega)).trans hB0.1, hB0.2.1.trans (hX.mono (by omega)), Nat.le_trans hB0.2.2 hX.size⟩
    exact ⟨hbx.2.1, hbx⟩
  have hz0 : V0.heap.size = w.heap.size + 1 := by rw [← hV0]; simp
  have SNX : Hid (∀ X Y, Below (w.heap.size + 1) V0 X → Below X.heap.size X Y → Below (w.heap.size + 1) V0 Y) := Lib.hid fun X Y h k => h.trans (k.mono (by have := h.size; omega))
  have hla : ∀ X, Below (w.heap.size + 1) V0 X → (Instr.loadAt 44 (.pointer (some ⟨w.heap.size, 0, none⟩))).run Tryz.prog X = .ok (.agg #[sv]) X := fun X hX => load_set (KW.out X hX).2.1
  have CSP : Hid (∀ X, Below (w.heap.size + 1) V0 X → Calls Tryz.prog 21 #[ptrV b] X fun e w' => ∃ v, e = .returned v ∧ SpG w' v (spansL R) ∧ Below X.heap.size X w') := Lib.hid fun X hX => by
    have hb := (KW.out X hX).1
    refine (rSpans_any R b X (hs.below hb) hc (hE.below hb).1).mono ?_
    rintro e w' ⟨ao, cp, rfl, ho, hb2⟩
    exact ⟨_, rfl, spg_of_own ho (by unfold spansL; rw [List.length_map]), hb2⟩
  have CXS : Hid (∀ X, Below (w.heap.size + 1) V0 X → Calls Tryz.prog 47 #[.agg #[sv]] X fun e w' => ∃ v, e = .returned v ∧ SpG w' v (spansL R) ∧ Below X.heap.size X w') := Lib.hid fun X hX => by
    have hb := (KW.out X hX).1
    refine (xspans_any R sv X (hv.below hb) hc).mono ?_
    rintro e w' ⟨ao, cp, rfl, ho, hb2⟩
    exact ⟨_, rfl, spg_of_own ho (by unfold spansL; rw [List.length_map]), hb2⟩
  have CCT : Hid (∀ X, Below (w.heap.size + 1) V0 X → Calls Tryz.prog 29 #[ptrV b] X fun e w' => e = .returned (.int .i64 (cntL R)) ∧ Below X.heap.size X w') := Lib.hid fun X hX => rcount_any R b X (hs.below (KW.out X hX).1) hc
  have CXC : Hid (∀ X, Below (w.heap.size + 1) V0 X → Calls Tryz.prog 48 #[.agg #[sv]] X fun e w' => e = .returned (.int .i64 (cntL R)) ∧ Below X.heap.size X w') := Lib.hid fun X hX => xcount_any R sv X (hv.below (KW.out X hX).1) hc
  have CPR : Hid (∀ X, Below (w.heap.size + 1) V0 X → Calls Tryz.prog 25 #[ptrV b] X fun e w' => e = .returned (.string PS) ∧ Below X.heap.size X w') := Lib.hid fun X hX => by
    have hb := (KW.out X hX).1
    have hE2 := hE.below hb
    rw [← hPS]
    exact rPrint_any R b X (hs.below hb) hc hE2.1 hE2.2.1 hE2.2.2
  have CXP : Hid (∀ X, Below (w.heap.size + 1) V0 X → Calls Tryz.prog 49 #[.agg #[sv]] X fun e w' => e = .returned (.string PS) ∧ Below X.heap.size X w') := Lib.hid fun X hX => by
    rw [← hPS]
    exact xprint_any R sv X (hv.below (KW.out X hX).1) hc
  have CF1 : Hid (∀ X, Below (w.heap.size + 1) V0 X → Calls Tryz.prog 52 #[ptrV b, .int .i64 300] X fun e w' => ∃ v, e = .returned v ∧ Sl .i32 w' v ((ptsL R).take 300) ∧ Below X.heap.size X w') := Lib.hid fun X hX => by
    have hb := (KW.out X hX).1
    refine (first_any R b 300 X (hs.below hb) hc (hE.below hb).1 (by omega)).mono ?_
    rintro e w' ⟨ao, m, cp, rfl, hm, ho, hb2⟩
    exact ⟨_, rfl, sl_of_own ho hm.symm, hb2⟩
  have CF2 : Hid (∀ X, Below (w.heap.size + 1) V0 X → Calls Tryz.prog 53 #[.agg #[sv], .int .i64 300] X fun e w' => ∃ v, e = .returned v ∧ Sl .i32 w' v ((ptsL R).take 300) ∧ Below X.heap.size X w') := Lib.hid fun X hX => by
    have hb := (KW.out X hX).1
    refine (xfirst_any R sv 300 X (hv.below hb) hc (by omega)).mono ?_
    rintro e w' ⟨ao, m, cp, rfl, hm, ho, hb2⟩
    exact ⟨_, rfl, sl_of_own ho hm.symm, hb2⟩
  have CH : Hid (∀ (x : Int), -2147483648 ≤ x ∧ x ≤ 2147483647 → ∀ X, Below (w.heap.size + 1) V0 X → Calls Tryz.prog 27 #[ptrV b, .int .i32 x] X fun e w' => e = .returned (.bool (hasB R x)) ∧ Below X.heap.size X w') := Lib.hid fun x hx X hX => by
    have hb := (KW.out X hX).1
    exact rhas_any R b x X (hs.below hb) hc (hE.below hb).1 hx
  have CXH0 : Hid (∀ (x : Int), -2147483648 ≤ x ∧ x ≤ 2147483647 → ∀ X, Below (w.heap.size + 1) V0 X → Calls Tryz.prog 50 #[.agg #[sv], .int .i32 x] X fun e w' => e = .returned (.bool (hasB R x)) ∧ Below X.heap.size X w') := Lib.hid fun x hx X hX => xHas_any R sv x X (hv.below (KW.out X hX).1) hc hx.1 hx.2
  obtain ⟨ao, ca, rfl, ha⟩ := ha
  obtain ⟨m, hmm⟩ : ∃ m, ask.length = m := ⟨_, rfl⟩
  have HMM := Lib.hid hmm
  have HA := Lib.hid ha
  have HRN := Lib.hid hr
  have HV0 := Lib.hid hV0
  rw [hmm] at hm ⊢
  have hsv : ∃ va vc, sv = .slice va R.length vc := by obtain ⟨va, vc, e, _⟩ := slr_at hv; exact ⟨va, vc, e⟩
  clear hE hs hc hv ha hr hB0 hlen hlN hPS hV0 hmm
  obtain ⟨va, vc, rfl⟩ := hsv
  obtain ⟨sv, hsv⟩ : ∃ sv, Value.slice va R.length vc = sv := ⟨_, rfl⟩
  have HSV := Lib.hid hsv
  clear hsv
  go_enter Tryz.func19, Tryz.ntmps19
  go_wp2_with fail
  rw [HV0.out]
  rw [HSV.out] at hla CXS CXC CXP CF2 CXH0 KW HV0 ⊢
  have S0 : Below (w.heap.size + 1) V0 V0.drew := below_drewN (Below.refl _ _) 1
  refine wp_region_guarded (fun X => Below (w.heap.size + 1) V0 X) (fun U V => Below U.heap.size U V) (pI1 b w.heap.size sv R PS) (by kernel_rfl) (by kernel_rfl) (by kernel_rfl) S0 ?hp ?hs ?hd
  case hp =>
    intro i v U V _ _ hk hv
    unfold pI1 at hv ⊢
    split at hv <;> first | exact hv | exact SpG.below hv hk
  case hs =>
    refine GSteps.cons ?_ (GSteps.cons ?_ (GSteps.cons ?_ (GSteps.cons ?_ (GSteps.cons ?_ (GSteps.cons ?_ (GSteps.cons ?_ (GSteps.cons ?_ (GSteps.cons ?_ (GSteps.cons ?_ (GSteps.cons ?_ (GSteps.cons ?_ (GSteps.cons ?_ (GSteps.cons ?_ (GSteps.cons ?_ (GSteps.cons ?_ (GSteps.cons ?_ (GSteps.cons ?_ (GSteps.cons ?_ (GSteps.cons ?_ (GSteps.cons ?_ (GSteps.cons ?_ (GSteps.cons ?_ (GSteps.cons ?_ (GSteps.nil))))))))))))))))))))))))
    · intro a X hX hL hd
      refine .inl ⟨rfl, ?_⟩
      have e0 : a.eval (.tmp 0) = ptrV b := hL.far 0 (by kernel_rfl)
      exact wp_value (exec_move rfl e0) ⟨_, rfl, hX, Below.refl _ _, rfl⟩
    · intro a X hX hL hd
      refine .inl ⟨rfl, ?_⟩
      have e0 : a.eval (.tmp 8) = ptrV b := hd 0 8 (by kernel_rfl) (by kernel_rfl)
      exact wp_value (exec_binop rfl e0 rfl (eqptr_no X _ b)) ⟨_, rfl, hX, Below.refl _ _, rfl⟩
    · intro a X hX hL hd
      refine .inl ⟨rfl, ?_⟩
      have e0 : a.eval (.tmp 9) = .bool false := hd 1 9 (by kernel_rfl) (by kernel_rfl)
      exact wp_value (exec_move rfl e0) ⟨_, rfl, hX, Below.refl _ _, rfl⟩
    · intro a X hX hL hd
      refine .inl ⟨wanted_true 10 rfl (by kernel_rfl) (hd 2 10 (by kernel_rfl) (by kernel_rfl)), ?_⟩
      have e0 : a.eval (.tmp 0) = ptrV b := hL.far 0 (by kernel_rfl)
      exact wp_value (exec_move rfl e0) ⟨_, rfl, hX, Below.refl _ _, rfl⟩
    · intro a X hX hL hd
      refine .inl ⟨wanted_true 10 rfl (by kernel_rfl) (hd 2 10 (by kernel_rfl) (by kernel_rfl)), ?_⟩
      have e0 : a.eval (.tmp 11) = ptrV b := hd 3 11 (by kernel_rfl) (by kernel_rfl)
      refine wp_enter (exec_call (vs := #[ptrV b]) rfl (by simp only [List.map_toArray, List.map_cons, List.map_nil, e0]) Tryz.func21 rfl rfl) ?_
      refine (CSP.out X hX).mono ?_
      rintro e w' ⟨v', rfl, hv', hb⟩
      exact ⟨_, rfl, _, rfl, SNX.out _ _ hX hb, hb, hv'⟩
    · intro a X hX hL hd
      refine .inl ⟨wanted_true 10 rfl (by kernel_rfl) (hd 2 10 (by kernel_rfl) (by kernel_rfl)), ?_⟩
      have e0 : a.eval (.tmp 4) = .pointer (some ⟨w.heap.size, 0, none⟩) := hL.far 4 (by kernel_rfl)
      exact wp_value (exec_load rfl e0 (hla X hX)) ⟨_, rfl, hX, Below.refl _ _, rfl⟩
    · intro a X hX hL hd
      refine .inl ⟨wanted_true 10 rfl (by kernel_rfl) (hd 2 10 (by kernel_rfl) (by kernel_rfl)), ?_⟩
      have e0 : a.eval (.tmp 13) = .agg #[sv] := hd 5 13 (by kernel_rfl) (by kernel_rfl)
      refine wp_enter (exec_call (vs := #[.agg #[sv]]) rfl (by simp only [List.map_toArray, List.map_cons, List.map_nil, e0]) Tryz.func47 rfl rfl) ?_
      refine (CXS.out X hX).mono ?_
      rintro e w' ⟨v', rfl, hv', hb⟩
      exact ⟨_, rfl, _, rfl, SNX.out _ _ hX hb, hb, hv'⟩
    · intro a X hX hL hd
      refine .inl ⟨wanted_true 10 rfl (by kernel_rfl) (hd 2 10 (by kernel_rfl) (by kernel_rfl)), ?_⟩
      have q0 : (fun v W => SpG W v (spansL R)) (a.eval (.tmp 12)) X := hd 4 12 (by kernel_rfl) (by kernel_rfl)
      have q1 : (fun v W => SpG W v (spansL R)) (a.eval (.tmp 14)) X := hd 6 14 (by kernel_rfl) (by kernel_rfl)
      refine wp_enter (exec_call (vs := #[a.eval (.tmp 12), a.eval (.tmp 14)]) rfl (by simp only [List.map_toArray, List.map_cons, List.map_nil]) Tryz.func46 rfl rfl) ?_
      refine (sameSpans_yes _ _ (spansL R) X q0 q1 hsm).mono ?_
      rintro e w' ⟨rfl, hb⟩
      exact ⟨_, rfl, _, rfl, SNX.out _ _ hX hb.below, hb.below, rfl⟩
    · intro a X hX hL hd
      refine .inl ⟨wanted_true 10 rfl (by kernel_rfl) (hd 2 10 (by kernel_rfl) (by kernel_rfl)), ?_⟩
      have e0 : a.eval (.tmp 15) = .bool true := hd 7 15 (by kernel_rfl) (by kernel_rfl)
      exact wp_value (exec_unop rfl e0 rfl) ⟨_, rfl, hX, Below.refl _ _, rfl⟩
    · intro a X hX hL hd
      refine .inl ⟨rfl, ?_⟩
      have e0 : a.eval (.tmp 10) = .bool false := hd 2 10 (by kernel_rfl) (by kernel_rfl)
      have e1 : a.eval (.tmp 16) = .bool false := hd 8 16 (by kernel_rfl) (by kernel_rfl)
      exact wp_value (exec_pick rfl e0 rfl e1) ⟨_, rfl, hX, Below.refl _ _, rfl⟩
    · intro a X hX hL hd
      refine .inl ⟨rfl, ?_⟩
      have e0 : a.eval (.tmp 17) = .bool false := hd 9 17 (by kernel_rfl) (by kernel_rfl)
      exact wp_value (exec_move rfl e0) ⟨_, rfl, hX, Below.refl _ _, rfl⟩
    · intro a X hX hL hd
      refine .inl ⟨wanted_true 18 rfl (by kernel_rfl) (hd 10 18 (by kernel_rfl) (by kernel_rfl)), ?_⟩
      have e0 : a.eval (.tmp 0) = ptrV b := hL.far 0 (by kernel_rfl)
      exact wp_value (exec_move rfl e0) ⟨_, rfl, hX, Below.refl _ _, rfl⟩
    · intro a X hX hL hd
      refine .inl ⟨wanted_true 18 rfl (by kernel_rfl) (hd 10 18 (by kernel_rfl) (by kernel_rfl)), ?_⟩
      have e0 : a.eval (.tmp 19) = ptrV b := hd 11 19 (by kernel_rfl) (by kernel_rfl)
      refine wp_enter (exec_call (vs := #[ptrV b]) rfl (by simp only [List.map_toArray, List.map_cons, List.map_nil, e0]) Tryz.func29 rfl rfl) ?_
      refine (CCT.out X hX).mono ?_
      rintro e w' ⟨rfl, hb⟩
      exact ⟨_, rfl, _, rfl, SNX.out _ _ hX hb, hb, rfl⟩
    · intro a X hX hL hd
      refine .inl ⟨wanted_true 18 rfl (by kernel_rfl) (hd 10 18 (by kernel_rfl) (by kernel_rfl)), ?_⟩
      have e0 : a.eval (.tmp 4) = .pointer (some ⟨w.heap.size, 0, none⟩) := hL.far 4 (by kernel_rfl)
      exact wp_value (exec_load rfl e0 (hla X hX)) ⟨_, rfl, hX, Below.refl _ _, rfl⟩
    · intro a X hX hL hd
      refine .inl ⟨wanted_true 18 rfl (by kernel_rfl) (hd 10 18 (by kernel_rfl) (by kernel_rfl)), ?_⟩
      have e0 : a.eval (.tmp 21) = .agg #[sv] := hd 13 21 (by kernel_rfl) (by kernel_rfl)
      refine wp_enter (exec_call (vs := #[.agg #[sv]]) rfl (by simp only [List.map_toArray, List.map_cons, List.map_nil, e0]) Tryz.func48 rfl rfl) ?_
      refine (CXC.out X hX).mono ?_
      rintro e w' ⟨rfl, hb⟩
      exact ⟨_, rfl, _, rfl, SNX.out _ _ hX hb, hb, rfl⟩
    · intro a X hX hL hd
      refine .inl ⟨wanted_true 18 rfl (by kernel_rfl) (hd 10 18 (by kernel_rfl) (by kernel_rfl)), ?_⟩
      have e0 : a.eval (.tmp 20) = .int .i64 (cntL R) := hd 12 20 (by kernel_rfl) (by kernel_rfl)
      have e1 : a.eval (.tmp 22) = .int .i64 (cntL R) := hd 14 22 (by kernel_rfl) (by kernel_rfl)
      exact wp_value (exec_binop rfl e0 e1 (neq64_no X _ _ (cntL R))) ⟨_, rfl, hX, Below.refl _ _, rfl⟩
    · intro a X hX hL hd
      refine .inl ⟨rfl, ?_⟩
      have e0 : a.eval (.tmp 18) = .bool false := hd 10 18 (by kernel_rfl) (by kernel_rfl)
      have e1 : a.eval (.tmp 23) = .bool false := hd 15 23 (by kernel_rfl) (by kernel_rfl)
      exact wp_value (exec_pick rfl e0 rfl e1) ⟨_, rfl, hX, Below.refl _ _, rfl⟩
    · intro a X hX hL hd
      refine .inl ⟨rfl, ?_⟩
      have e0 : a.eval (.tmp 24) = .bool false := hd 16 24 (by kernel_rfl) (by kernel_rfl)
      exact wp_value (exec_move rfl e0) ⟨_, rfl, hX, Below.refl _ _, rfl⟩
    · intro a X hX hL hd
      refine .inl ⟨wanted_true 25 rfl (by kernel_rfl) (hd 17 25 (by kernel_rfl) (by kernel_rfl)), ?_⟩
      have e0 : a.eval (.tmp 0) = ptrV b := hL.far 0 (by kernel_rfl)
      exact wp_value (exec_move rfl e0) ⟨_, rfl, hX, Below.refl _ _, rfl⟩
    · intro a X hX hL hd
      refine .inl ⟨wanted_true 25 rfl (by kernel_rfl) (hd 17 25 (by kernel_rfl) (by kernel_rfl)), ?_⟩
      have e0 : a.eval (.tmp 26) = ptrV b := hd 18 26 (by kernel_rfl) (by kernel_rfl)
      refine wp_enter (exec_call (vs := #[ptrV b]) rfl (by simp only [List.map_toArray, List.map_cons, List.map_nil, e0]) Tryz.func25 rfl rfl) ?_
      refine (CPR.out X hX).mono ?_
      rintro e w' ⟨rfl, hb⟩
      exact ⟨_, rfl, _, rfl, SNX.out _ _ hX hb, hb, rfl⟩
    · intro a X hX hL hd
      refine .inl ⟨wanted_true 25 rfl (by kernel_rfl) (hd 17 25 (by kernel_rfl) (by kernel_rfl)), ?_⟩
      have e0 : a.eval (.tmp 4) = .pointer (some ⟨w.heap.size, 0, none⟩) := hL.far 4 (by kernel_rfl)
      exact wp_value (exec_load rfl e0 (hla X hX)) ⟨_, rfl, hX, Below.refl _ _, rfl⟩
    · intro a X hX hL hd
      refine .inl ⟨wanted_true 25 rfl (by kernel_rfl) (hd 17 25 (by kernel_rfl) (by kernel_rfl)), ?_⟩
      have e0 : a.eval (.tmp 28) = .agg #[sv] := hd 20 28 (by kernel_rfl) (by kernel_rfl)
      refine wp_enter (exec_call (vs := #[.agg #[sv]]) rfl (by simp only [List.map_toArray, List.map_cons, List.map_nil, e0]) Tryz.func49 rfl rfl) ?_
      refine (CXP.out X hX).mono ?_
      rintro e w' ⟨rfl, hb⟩
      exact ⟨_, rfl, _, rfl, SNX.out _ _ hX hb, hb, rfl⟩
    · intro a X hX hL hd
      refine .inl ⟨wanted_true 25 rfl (by kernel_rfl) (hd 17 25 (by kernel_rfl) (by kernel_rfl)), ?_⟩
      have e0 : a.eval (.tmp 27) = .string PS := hd 19 27 (by kernel_rfl) (by kernel_rfl)
      have e1 : a.eval (.tmp 29) = .string PS := hd 21 29 (by kernel_rfl) (by kernel_rfl)
      exact wp_value (exec_binop rfl e0 e1 (neqs_no X _ _ PS)) ⟨_, rfl, hX, Below.refl _ _, rfl⟩
    · intro a X hX hL hd
      refine .inl ⟨rfl, ?_⟩
      have e0 : a.eval (.tmp 25) = .bool false := hd 17 25 (by kernel_rfl) (by kernel_rfl)
      have e1 : a.eval (.tmp 30) = .bool false := hd 22 30 (by kernel_rfl) (by kernel_rfl)
      exact wp_value (exec_pick rfl e0 rfl e1) ⟨_, rfl, hX, Below.refl _ _, rfl⟩
  case hd =>
    intro a X hX hL hd _
    have h31 : a.tmps.getD 31 undef = .bool false := hd 23 31 (by kernel_rfl)
    obtain ⟨f, ha, hf⟩ := hL.out [8, 9, 10, 11, 12, 13, 14, 15, 16, 17, 18, 19, 20, 21, 22, 23, 24, 25, 26, 27, 28, 29, 30, 31] (by kernel_rfl)
    have h31' : f 31 = .bool false := (hf 31).trans h31
    simp only [List.foldl_cons, List.foldl_nil, List.setIfInBounds_toArray, List.set_cons_zero, List.set_cons_succ, h31'] at ha
    clear hf hd hL h31
    subst ha
    have HX := Lib.hid hX
    clear hX S0
    go_wp2_with fail
    go_loopw [7] (fun x wr => ∃ i : Nat, x = .int .i64 i ∧ i ≤ m ∧ Below (w.heap.size + 1) V0 wr) (fun x _ => m - (RowKit.intOf x).toNat)
    case atStart => exact ⟨0, rfl, by omega, HX.out⟩
    case round =>
      obtain ⟨i, rfl, hi, hbr⟩ := hrel
      have HBR := Lib.hid hbr
      clear hbr
      by_cases hgo : i < m ∧ i < 200
      · obtain ⟨hi1, hi2⟩ := hgo
        have hi1' : (i : Int) < m := by omega
        have hi2' : (i : Int) < 200 := by omega
        obtain ⟨x, hx⟩ : ∃ x, ask[i]? = some x := ⟨_, List.getElem?_eq_getElem (by rw [HMM.out]; exact hi1)⟩
        have hxr := HRN.out x (List.mem_of_getElem? hx)
        obtain ⟨A, rfl, hcx⟩ : ∃ A : Addr, ao = some A ∧ w.cell? (A.add i) = some (.int .i32 x) := by
          rcases HA.out with h | ⟨A, e, h⟩
          · rw [h] at hx; cases hx
          · exact ⟨A, e, h i x hx⟩
        have hix : ∀ X : World, (Instr.indexAt 23 (.slice (some A) m ca) (.int .i64 (i : Nat))).run Tryz.prog X = .ok (.pointer (some (A.add i))) X := fun X => by go_simp
        have hlx : ∀ X : World, Below (w.heap.size + 1) V0 X → (Instr.loadAt 21 (.pointer (some (A.add i)))).run Tryz.prog X = .ok (.int .i32 x) X := fun X hX => by
          have q := ((KW.out X hX).1.cell (lt_of_cell hcx)).trans hcx
          go_simp
        have CHA := Lib.hid (CH.out x hxr)
        have CXH := Lib.hid (CXH0.out x hxr)
        have S6 : Below (w.heap.size + 1) V0 wr.drew := below_drewN HBR.out 1
        go_wp2_with fail
        refine wp_region_guarded (fun X => Below (w.heap.size + 1) V0 X) (fun U V => Below U.heap.size U V) (pI6 b w.heap.size m i ca A x sv R) (by kernel_rfl) (by kernel_rfl) (by kernel_rfl) S6 ?hp6 ?hs6 ?hd6
        case hp6 =>
          intro i v U V _ _ hk hv
          unfold pI6 at hv ⊢
          split at hv <;> exact hv
        case hs6 =>
          refine GSteps.cons ?_ (GSteps.cons ?_ (GSteps.cons ?_ (GSteps.cons ?_ (GSteps.cons ?_ (GSteps.cons ?_ (GSteps.cons ?_ (GSteps.cons ?_ (GSteps.cons ?_ (GSteps.cons ?_ (GSteps.cons ?_ (GSteps.cons ?_ (GSteps.cons ?_ (GSteps.nil)))))))))))))
          · intro a X hX hL hd
            refine .inl ⟨rfl, ?_⟩
            have e0 : a.eval (.tmp 0) = ptrV b := hL.far 0 (by kernel_rfl)
            exact wp_value (exec_move rfl e0) ⟨_, rfl, hX, Below.refl _ _, rfl⟩
          · intro a X hX hL hd
            refine .inl ⟨rfl, ?_⟩
            have e0 : a.eval (.tmp 2) = .slice (some A) m ca := hL.far 2 (by kernel_rfl)
            exact wp_value (exec_move rfl e0) ⟨_, rfl, hX, Below.refl _ _, rfl⟩
          · intro a X hX hL hd
            refine .inl ⟨rfl, ?_⟩
            have e0 : a.eval (.tmp 7) = .int .i64 (i : Nat) := hL.far 7 (by kernel_rfl)
            exact wp_value (exec_move rfl e0) ⟨_, rfl, hX, Below.refl _ _, rfl⟩
          · intro a X hX hL hd
            refine .inl ⟨rfl, ?_⟩
            have e0 : a.eval (.tmp 43) = .slice (some A) m ca := hd 1 43 (by kernel_rfl) (by kernel_rfl)
            have e1 : a.eval (.tmp 44) = .int .i64 (i : Nat) := hd 2 44 (by kernel_rfl) (by kernel_rfl)
            exact wp_value (exec_indexAddr rfl e0 e1 (hix X)) ⟨_, rfl, hX, Below.refl _ _, rfl⟩
          · intro a X hX hL hd
            refine .inl ⟨rfl, ?_⟩
            have e0 : a.eval (.tmp 45) = .pointer (some (A.add i)) := hd 3 45 (by kernel_rfl) (by kernel_rfl)
            exact wp_value (exec_load rfl e0 (hlx X hX)) ⟨_, rfl, hX, Below.refl _ _, rfl⟩
          · intro a X hX hL hd
            refine .inl ⟨rfl, ?_⟩
            have e0 : a.eval (.tmp 42) = ptrV b := hd 0 42 (by kernel_rfl) (by kernel_rfl)
            have e1 : a.eval (.tmp 46) = .int .i32 x := hd 4 46 (by kernel_rfl) (by kernel_rfl)
            refine wp_enter (exec_call (vs := #[ptrV b, .int .i32 x]) rfl (by simp only [List.map_toArray, List.map_cons, List.map_nil, e0, e1]) Tryz.func27 rfl rfl) ?_
            refine (CHA.out X hX).mono ?_
            rintro e w' ⟨rfl, hb⟩
            exact ⟨_, rfl, _, rfl, SNX.out _ _ hX hb, hb, rfl⟩
          · intro a X hX hL hd
            refine .inl ⟨rfl, ?_⟩
            have e0 : a.eval (.tmp 4) = .pointer (some ⟨w.heap.size, 0, none⟩) := hL.far 4 (by kernel_rfl)
            exact wp_value (exec_load rfl e0 (hla X hX)) ⟨_, rfl, hX, Below.refl _ _, rfl⟩
          · intro a X hX hL hd
            refine .inl ⟨rfl, ?_⟩
            have e0 : a.eval (.tmp 2) = .slice (some A) m ca := hL.far 2 (by kernel_rfl)
            exact wp_value (exec_move rfl e0) ⟨_, rfl, hX, Below.refl _ _, rfl⟩
          · intro a X hX hL hd
            refine .inl ⟨rfl, ?_⟩
            have e0 : a.eval (.tmp 7) = .int .i64 (i : Nat) := hL.far 7 (by kernel_rfl)
            exact wp_value (exec_move rfl e0) ⟨_, rfl, hX, Below.refl _ _, rfl⟩
          · intro a X hX hL hd
            refine .inl ⟨rfl, ?_⟩
            have e0 : a.eval (.tmp 49) = .slice (some A) m ca := hd 7 49 (by kernel_rfl) (by kernel_rfl)
            have e1 : a.eval (.tmp 50) = .int .i64 (i : Nat) := hd 8 50 (by kernel_rfl) (by kernel_rfl)
            exact wp_value (exec_indexAddr rfl e0 e1 (hix X)) ⟨_, rfl, hX, Below.refl _ _, rfl⟩
          · intro a X hX hL hd
            refine .inl ⟨rfl, ?_⟩
            have e0 : a.eval (.tmp 51) = .pointer (some (A.add i)) := hd 9 51 (by kernel_rfl) (by kernel_rfl)
            exact wp_value (exec_load rfl e0 (hlx X hX)) ⟨_, rfl, hX, Below.refl _ _, rfl⟩
          · intro a X hX hL hd
            refine .inl ⟨rfl, ?_⟩
            have e0 : a.eval (.tmp 48) = .agg #[sv] := hd 6 48 (by kernel_rfl) (by kernel_rfl)
            have e1 : a.eval (.tmp 52) = .int .i32 x := hd 10 52 (by kernel_rfl) (by kernel_rfl)
            refine wp_enter (exec_call (vs := #[.agg #[sv], .int .i32 x]) rfl (by simp only [List.map_toArray, List.map_cons, List.map_nil, e0, e1]) Tryz.func50 rfl rfl) ?_
            refine (CXH.out X hX).mono ?_
            rintro e w' ⟨rfl, hb⟩
            exact ⟨_, rfl, _, rfl, SNX.out _ _ hX hb, hb, rfl⟩
          · intro a X hX hL hd
            refine .inl ⟨rfl, ?_⟩
            have e0 : a.eval (.tmp 47) = .bool (hasB R x) := hd 5 47 (by kernel_rfl) (by kernel_rfl)
            have e1 : a.eval (.tmp 53) = .bool (hasB R x) := hd 11 53 (by kernel_rfl) (by kernel_rfl)
            exact wp_value (exec_binop rfl e0 e1 (neqb_no X _ _ (hasB R x))) ⟨_, rfl, hX, Below.refl _ _, rfl⟩
        case hd6 =>
          intro a X hX hL hd _
          have h54 : a.tmps.getD 54 undef = .bool false := hd 12 54 (by kernel_rfl)
          obtain ⟨f, ha, hf⟩ := hL.out [42, 43, 44, 45, 46, 47, 48, 49, 50, 51, 52, 53, 54] (by kernel_rfl)
          have h54' : f 54 = .bool false := (hf 54).trans h54
          simp only [List.foldl_cons, List.foldl_nil, List.setIfInBounds_toArray, List.set_cons_zero, List.set_cons_succ, h54'] at ha
          clear hf hd hL h54
          subst ha
          have HX6 := Lib.hid hX
          clear hX S6
          go_wp2_with fail
          go_roundw
          case rel => exact ⟨i + 1, by go_num, by omega, HX6.out⟩
          case measure => simp [RowKit.intOf]; omega
      · have fin : ∀ (Q : Exit → Act → World → Prop), True := fun _ => trivial
        clear fin
        by_cases hi1 : i < m
        · have hi1' : (i : Int) < m := by omega
          have hi2' : ¬ (i : Int) < 200 := by omega
          have S8 : Below (w.heap.size + 1) V0 wr.drew := below_drewN HBR.out 1
          go_wp2_with fail
          refine wp_region_guarded (fun X => Below (w.heap.size + 1) V0 X) (fun U V => Below U.heap.size U V) (pI8 b w.heap.size sv R) (by kernel_rfl) (by kernel_rfl) (by kernel_rfl) S8 ?hp8 ?hs8 ?hd8
          case hp8 =>
            intro i v U V _ _ hk hv
            unfold pI8 at hv ⊢
            split at hv <;> first | exact hv | exact Sl.below hv hk
          case hs8 =>
            refine GSteps.cons ?_ (GSteps.cons ?_ (GSteps.cons ?_ (GSteps.cons ?_ (GSteps.cons ?_ (GSteps.cons ?_ (GSteps.nil))))))
            · intro a X hX hL hd
              refine .inl ⟨rfl, ?_⟩
              have e0 : a.eval (.tmp 0) = ptrV b := hL.far 0 (by kernel_rfl)
              exact wp_value (exec_move rfl e0) ⟨_, rfl, hX, Below.refl _ _, rfl⟩
            · intro a X hX hL hd
              refine .inl ⟨rfl, ?_⟩
              have e0 : a.eval (.tmp 55) = ptrV b := hd 0 55 (by kernel_rfl) (by kernel_rfl)
              refine wp_enter (exec_call (vs := #[ptrV b, .int .i64 300]) rfl (by simp only [List.map_toArray, List.map_cons, List.map_nil, e0]; rfl) Tryz.func52 rfl rfl) ?_
              refine (CF1.out X hX).mono ?_
              rintro e w' ⟨v', rfl, hv', hb⟩
              exact ⟨_, rfl, _, rfl, SNX.out _ _ hX hb, hb, hv'⟩
            · intro a X hX hL hd
              refine .inl ⟨rfl, ?_⟩
              have e0 : a.eval (.tmp 4) = .pointer (some ⟨w.heap.size, 0, none⟩) := hL.far 4 (by kernel_rfl)
              exact wp_value (exec_load rfl e0 (hla X hX)) ⟨_, rfl, hX, Below.refl _ _, rfl⟩
            · intro a X hX hL hd
              refine .inl ⟨rfl, ?_⟩
              have e0 : a.eval (.tmp 57) = .agg #[sv] := hd 2 57 (by kernel_rfl) (by kernel_rfl)
              refine wp_enter (exec_call (vs := #[.agg #[sv], .int .i64 300]) rfl (by simp only [List.map_toArray, List.map_cons, List.map_nil, e0]; rfl) Tryz.func53 rfl rfl) ?_
              refine (CF2.out X hX).mono ?_
              rintro e w' ⟨v', rfl, hv', hb⟩
              exact ⟨_, rfl, _, rfl, SNX.out _ _ hX hb, hb, hv'⟩
            · intro a X hX hL hd
              refine .inl ⟨rfl, ?_⟩
              have q0 : (fun v W => Sl .i32 W v ((ptsL R).take 300)) (a.eval (.tmp 56)) X := hd 1 56 (by kernel_rfl) (by kernel_rfl)
              have q1 : (fun v W => Sl .i32 W v ((ptsL R).take 300)) (a.eval (.tmp 58)) X := hd 3 58 (by kernel_rfl) (by kernel_rfl)
              refine wp_enter (exec_call (vs := #[a.eval (.tmp 56), a.eval (.tmp 58)]) rfl (by simp only [List.map_toArray, List.map_cons, List.map_nil]) Tryz.func51 rfl rfl) ?_
              refine (sameRunes_any _ _ ((ptsL R).take 300) ((ptsL R).take 300) X q0 q1 hfm hfm).mono ?_
              rintro e w' ⟨he, hb⟩
              exact ⟨_, he.trans (by simp), _, rfl, SNX.out _ _ hX hb.below, hb.below, rfl⟩
            · intro a X hX hL hd
              refine .inl ⟨rfl, ?_⟩
              have e0 : a.eval (.tmp 59) = .bool true := hd 4 59 (by kernel_rfl) (by kernel_rfl)
              exact wp_value (exec_asg rfl e0) ⟨_, rfl, hX, Below.refl _ _, rfl⟩
          case hd8 =>
            intro a X hX hL hd _
            have h6 : a.tmps.getD 6 undef = .bool true := hd 5 6 (by kernel_rfl)
            obtain ⟨f, ha, hf⟩ := hL.out [55, 56, 57, 58, 59, 6] (by kernel_rfl)
            have h6' : f 6 = .bool true := (hf 6).trans h6
            simp only [List.foldl_cons, List.foldl_nil, List.setIfInBounds_toArray, List.set_cons_zero, List.set_cons_succ, h6'] at ha
            clear hf hd hL h6
            subst ha
            have HX8 := Lib.hid (KW.out X hX).1
            clear hX S8
            go_wp2_with fail
            go_ret
            exact ⟨rfl, HX8.out⟩
        · have hi1' : ¬ (i : Int) < m := by omega
          have S8 : Below (w.heap.size + 1) V0 wr.drew := below_drewN HBR.out 1
          go_wp2_with fail
          refine wp_region_guarded (fun X => Below (w.heap.size + 1) V0 X) (fun U V => Below U.heap.size U V) (pI8 b w.heap.size sv R) (by kernel_rfl) (by kernel_rfl) (by kernel_rfl) S8 ?hp8 ?hs8 ?hd8
          case hp8 =>
            intro i v U V _ _ hk hv
            unfold pI8 at hv ⊢
            split at hv <;> first | exact hv | exact Sl.below hv hk
          case hs8 =>
            refine GSteps.cons ?_ (GSteps.cons ?_ (GSteps.cons ?_ (GSteps.cons ?_ (GSteps.cons ?_ (GSteps.cons ?_ (GSteps.nil))))))
            · intro a X hX hL hd
              refine .inl ⟨rfl, ?_⟩
              have e0 : a.eval (.tmp 0) = ptrV b := hL.far 0 (by kernel_rfl)
              exact wp_value (exec_move rfl e0) ⟨_, rfl, hX, Below.refl _ _, rfl⟩
            · intro a X hX hL hd
              refine .inl ⟨rfl, ?_⟩
              have e0 : a.eval (.tmp 55) = ptrV b := hd 0 55 (by kernel_rfl) (by kernel_rfl)
              refine wp_enter (exec_call (vs := #[ptrV b, .int .i64 300]) rfl (by simp only [List.map_toArray, List.map_cons, List.map_nil, e0]; rfl) Tryz.func52 rfl rfl) ?_
              refine (CF1.out X hX).mono ?_
              rintro e w' ⟨v', rfl, hv', hb⟩
              exact ⟨_, rfl, _, rfl, SNX.out _ _ hX hb, hb, hv'⟩
            · intro a X hX hL hd
              refine .inl ⟨rfl, ?_⟩
              have e0 : a.eval (.tmp 4) = .pointer (some ⟨w.heap.size, 0, none⟩) := hL.far 4 (by kernel_rfl)
              exact wp_value (exec_load rfl e0 (hla X hX)) ⟨_, rfl, hX, Below.refl _ _, rfl⟩
            · intro a X hX hL hd
              refine .inl ⟨rfl, ?_⟩
              have e0 : a.eval (.tmp 57) = .agg #[sv] := hd 2 57 (by kernel_rfl) (by kernel_rfl)
              refine wp_enter (exec_call (vs := #[.agg #[sv], .int .i64 300]) rfl (by simp only [List.map_toArray, List.map_cons, List.map_nil, e0]; rfl) Tryz.func53 rfl rfl) ?_
              refine (CF2.out X hX).mono ?_
              rintro e w' ⟨v', rfl, hv', hb⟩
              exact ⟨_, rfl, _, rfl, SNX.out _ _ hX hb, hb, hv'⟩
            · intro a X hX hL hd
              refine .inl ⟨rfl, ?_⟩
              have q0 : (fun v W => Sl .i32 W v ((ptsL R).take 300)) (a.eval (.tmp 56)) X := hd 1 56 (by kernel_rfl) (by kernel_rfl)
              have q1 : (fun v W => Sl .i32 W v ((ptsL R).take 300)) (a.eval (.tmp 58)) X := hd 3 58 (by kernel_rfl) (by kernel_rfl)
              refine wp_enter (exec_call (vs := #[a.eval (.tmp 56), a.eval (.tmp 58)]) rfl (by simp only [List.map_toArray, List.map_cons, List.map_nil]) Tryz.func51 rfl rfl) ?_
              refine (sameRunes_any _ _ ((ptsL R).take 300) ((ptsL R).take 300) X q0 q1 hfm hfm).mono ?_
              rintro e w' ⟨he, hb⟩
              exact ⟨_, he.trans (by simp), _, rfl, SNX.out _ _ hX hb.below, hb.below, rfl⟩
            · intro a X hX hL hd
              refine .inl ⟨rfl, ?_⟩
              have e0 : a.eval (.tmp 59) = .bool true := hd 4 59 (by kernel_rfl) (by kernel_rfl)
              exact wp_value (exec_asg rfl e0) ⟨_, rfl, hX, Below.refl _ _, rfl⟩
          case hd8 =>
            intro a X hX hL hd _
            have h6 : a.tmps.getD 6 undef = .bool true := hd 5 6 (by kernel_rfl)
            obtain ⟨f, ha, hf⟩ := hL.out [55, 56, 57, 58, 59, 6] (by kernel_rfl)
            have h6' : f 6 = .bool true := (hf 6).trans h6
            simp only [List.foldl_cons, List.foldl_nil, List.setIfInBounds_toArray, List.set_cons_zero, List.set_cons_succ, h6'] at ha
            clear hf hd hL h6
            subst ha
            have HX8 := Lib.hid (KW.out X hX).1
            clear hX S8
            go_wp2_with fail
            go_ret
            exact ⟨rfl, HX8.out⟩
end Go.Proofs.YtjbkpcdpdifpnaaGreatDoor
