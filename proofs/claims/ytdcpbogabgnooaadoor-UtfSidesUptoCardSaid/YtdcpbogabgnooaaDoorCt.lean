/- The walk of UtfSides. -/
import Derived.Test.YtdcpbogabgnooaaDoorCs
import Derived.Test.YtdcpbogabgnooaaDoorCl
import Derived.Test.YtdcpbogabgnooaaDoorCu
import Derived.IntWalk
import Derived.Sort.QuietIn
import Derived.Sort.QuietTacIn
import Derived.Deep.RegionHeldLaw
namespace Go.Proofs.YtdcpbogabgnooaaDoor
open Go Go.RowKit Go.Kt Go.Shelf
attribute [local go_sem] Oper.semAt_some

set_option maxRecDepth 100000 in
set_option maxHeartbeats 2000000 in
theorem sides_walk (s : ByteArray) (v : Value) (l : List Int) (w : World) (hT : Lib.Utf8Tabs 0 1 w) (h2 : 2 ≤ w.heap.size) (hs : s.size ≤ 1048576) (h : Slg .i32 w v l) (hl : l.length ≤ 1048576) :
    Calls Tryd.prog 10 #[.string s, v] w fun e w' => e = .returned (.bool true) ∧ Below w.heap.size w w' := by
  have HT := Lib.hid hT; clear hT
  have H := Lib.hid h
  obtain ⟨av, cv, rfl, _⟩ := h
  have hfn : ∀ k, Fence.wide.fn k := fun _ => trivial
  have hdep : Fence.wide.depth = none := rfl
  refine (callsIn_wide (n := 0)).1 ?_
  refine callsIn_of_wp_marks Tryd.func10 rfl trivial ?_ rfl
  simp only [Tryd.ntmps10, List.size_toArray, List.length_cons, List.length_nil, Nat.reduceAdd, Nat.reduceSub, Array.replicate_succ, Array.replicate_zero, List.push_toArray, List.append_toArray, List.nil_append, List.cons_append]
  gi_wp2_with fail
  refine (callsIn_wide.2 (works_any _ (tabs_below HT.out h2 (((Below.refl _ w).alloc (Nat.le_refl _) _).alloc (by simp) _)) (by simp))).mono ?_
  rintro e wc ⟨rfl, hb1⟩
  generalize hn : w.heap.size = n at *
  have hn1 : ((w.alloc (.cells #[.string s] 9)).alloc (.cells #[.bool false] 4)).heap.size = n + 2 := by simp [hn]
  have b0 : wc.heap[n]? = some (.cells #[.string s] 9 (0, 0)) := by
    rw [hb1.block n (by omega)]; exact alloc_old (alloc_at hn.symm)
  have b1 : wc.heap[n + 1]? = some (.cells #[.bool false] 4 (0, 0)) := by
    rw [hb1.block (n + 1) (by omega)]; exact alloc_at (by simp [hn])
  have hbw : Below n w wc := (((Below.refl n w).alloc (by omega) _).alloc (by simp; omega) _).trans (hb1.mono (by omega))
  have hz1 : n + 2 ≤ wc.heap.size := by have := hb1.size; omega
  clear hb1 hn1
  obtain ⟨m, hm⟩ : ∃ m, wc.heap.size = m := ⟨_, rfl⟩
  obtain ⟨W3, hW3⟩ : ∃ W3, (wc.alloc (.cells #[.int .i64 0] 3)).alloc (.cells #[.int .i64 0] 3) = W3 := ⟨_, rfl⟩
  have hk3 : Keep (fun _ => False) wc W3 := by rw [← hW3]; exact ((Keep.refl _ wc).alloc _).alloc _
  have c0 := cell_one (hk3.heap b0 (fun h => h))
  rw [← hW3] at c0
  have HW3 := Lib.hid hW3
  clear hW3
  gi_wp2_with fail
  rw [HW3.out]
  have hW3 := HW3.out
  have hz3 : W3.heap.size = m + 2 := by rw [← hW3]; simp [hm]
  refine (callsIn_wide.2 (utfAll_call s _)).mono ?_
  rintro e w6 ⟨rfl, hw6⟩
  gi_wp2_with fail
  have q5 : W3.heap[m]? = some (.cells #[.int .i64 0] 3 (0, 0)) := by rw [← hW3]; exact alloc_old (alloc_at hm.symm)
  have q6 : W3.heap[m + 1]? = some (.cells #[.int .i64 0] 3 (0, 0)) := by rw [← hW3]; exact alloc_at (by simp [hm])
  have hk6 : Keep (fun _ => False) W3 w6 := by rw [← hw6]; exact (Keep.refl _ _).alloc _
  have hz6 : w6.heap.size = m + 3 := by rw [← hw6]; simp [hz3]
  have b6 : w6.heap[m + 2]? = some (.cells #[.string s] 9 (0, 0)) := by rw [← hw6]; exact alloc_at hz3.symm
  have v0 := hk6.heap (hk3.heap b0 (fun h => h)) (fun h => h)
  have v1 := hk6.heap (hk3.heap b1 (fun h => h)) (fun h => h)
  have v5 := hk6.heap q5 (fun h => h)
  have v6 := hk6.heap q6 (fun h => h)
  have hb16 : Below n w w6 := hbw.trans ((hk3.trans hk6).below (X := fun _ => False) (by omega) (fun _ h => h.elim))
  clear hw6 hk6 hk3 hW3 q5 q6 c0
  refine loop_out (gf := 50) (lb := #[.pointer (some ⟨m + 2, 0, none⟩)]) (encs := enc2) rfl (enters_of Tryd.func50 (by kernel_rfl) rfl)
    (all_iter s (m + 2) w6 (cell_one b6) (by omega)) (fun _ => rfl) (X := fun b => b = m ∨ b = m + 1)
    (fun b hb => by omega) (fun b hb => by omega) (fun _ _ => rfl) (Nat.le_refl _)
    (fun pre Y W => W.heap[m + 1]? = some (.cells #[.int .i64 (pre.length : Nat)] 3 (0, 0)) ∧ ∃ pos f : Nat, pre ++ unitsF s f pos = units s ∧ s.size ≤ f + pos ∧ pos ≤ s.size ∧ W.heap[m]? = some (.cells #[.int .i64 (pos : Nat)] 3 (0, 0)))
    (fun _ _ _ _ => False)
    (fun pre Y W W' hk h => by
      obtain ⟨h1, pos, f, h3, h4, h5, h6⟩ := h
      exact ⟨hk.heap h1 (fun hx => by have := hx.1; omega), pos, f, h3, h4, h5, hk.heap h6 (fun hx => by have := hx.1; omega)⟩)
    (fun _ _ _ _ _ _ h => h) ⟨v6, 0, s.size, rfl, by omega, by omega, v5⟩ ?round ?done ?stop
  case stop => intro D c pre Y W _ _ _ h; exact h.elim
  case round =>
    rintro l' hl' pre ⟨i, r⟩ Y W hpre hi hk hY hlt hr
    gi_wp2
    refine ⟨Keep.refl _ _, ?_⟩
    rintro W2 hkw2 hk2 ⟨hp2, pos, f, hun, hf, hps, hp1⟩ hr2
    obtain ⟨rest, hrest⟩ := hpre
    have hmem : (i, r) ∈ units s := by rw [← hrest]; simp
    have hlist : unitsF s f pos = (i, r) :: rest := by
      rw [← hrest, List.append_assoc] at hun
      simpa using List.append_cancel_left hun
    have hplt : pos < s.size := by
      rcases Nat.lt_or_ge pos s.size with h | h
      · exact h
      · have : unitsF s f pos = [] := by
          cases f with
          | zero => rfl
          | succ f => rw [unitsF, if_neg (by omega)]
        rw [this] at hlist; cases hlist
    obtain ⟨f', rfl⟩ : ∃ f', f = f' + 1 := ⟨f - 1, by omega⟩
    rw [unitsF, if_pos hplt] at hlist
    injection hlist with e1 e2
    injection e1 with e3 e4
    subst e3
    subst e4
    obtain ⟨d1, d2, d3⟩ := dec_width s pos hplt
    have hbef := before_unit s pos hplt (units_places s _ hmem)
    have hdec := decP_in s pos hplt
    have hlen : pre.length < s.size := by have := units_len s; rw [← hrest] at this; simp at this; omega
    have hW2 : Below n w W2 := by
      have := (hk2.below (by omega) (fun b hb => by omega) : Below n w6 W2)
      exact hb16.trans this
    have c1 := utfDecode_any s pos W2 (tabs_below HT.out h2 hW2) (by omega)
    rw [hdec] at c1
    have C1 := Lib.hid c1
    have C2 := Lib.hid (fun (X : World) (hX : Below n w X) => utfBefore_any s ((pos : Int) + (Utf8.decode s pos).2) X (tabs_below HT.out h2 hX) (by omega))
    rw [hbef] at C2
    have x0 := hk2.heap v0 (by omega)
    have k0 := cell_one x0
    have HX := Lib.hid (And.intro x0 (And.intro hp2 (And.intro hp1 (And.intro hun (And.intro hrest hW2)))))
    have hcase := unit_cases s pos hplt
    have hone := unit_one s pos hplt
    clear hr2 hr hi hk v0 v1 v5 v6 b6 hbef hdec c1 hmem hk2 hkw2 x0 hp2 hp1 hun hrest e2
    generalize hdd : Utf8.decode s pos = dd at *
    obtain ⟨r, wd⟩ := dd
    simp only at d1 d2 d3 C1 C2 hcase hone
    gi_wp2_with fail
    refine (CallsIn.inRound l' (callsIn_wide.2 C1.out)).mono ?_
    rintro e X1 ⟨rfl, hb1⟩
    obtain ⟨x0, hp2, hp1, hun, hrest, hW2⟩ := HX.out
    have hz2 := hW2.size
    have hX1 : Below n w X1 := hW2.trans (hb1.mono (by omega))
    have y0 := (hb1.block n (Array.getElem?_eq_some_iff.1 x0).1).trans x0
    have k1 := cell_one y0
    clear k0 x0 hp2 hp1 hun hrest
    gi_wp2_with fail
    refine (CallsIn.inRound l' (callsIn_wide.2 (C2.out X1 hX1))).mono ?_
    rintro e X2 ⟨rfl, hb2⟩
    obtain ⟨x0, hp2, hp1, hun, hrest, _⟩ := HX.out
    have hb12 : Below W2.heap.size W2 X2 := hb1.trans (hb2.mono hb1.size)
    have k2 := cell_one ((hb12.block n (Array.getElem?_eq_some_iff.1 x0).1).trans x0)
    have z1 := (hb12.block m (Array.getElem?_eq_some_iff.1 hp1).1).trans hp1
    have z2 := (hb12.block (m + 1) (Array.getElem?_eq_some_iff.1 hp2).1).trans hp2
    have k3 := cell_one z1
    have f3 := frozen_one z1
    have k4 : ∀ (nq : Nat) (u : Value), ((X2.drewN nq).setCell ⟨m, 0, none⟩ u).cell? ⟨m + 1, 0, none⟩ = some (.int .i64 (pre.length : Nat)) := fun nq u => cell_one (set_old (A := X2.drewN nq) (u := u) (o := 0) z2 (show m + 1 ≠ m by omega))
    have f4 : ∀ (nq : Nat) (u : Value), ((X2.drewN nq).setCell ⟨m, 0, none⟩ u).frozen? ⟨m + 1, 0, none⟩ = false := fun nq u => frozen_one (set_old (A := X2.drewN nq) (u := u) (o := 0) z2 (show m + 1 ≠ m by omega))
    have hfin : ∀ (nq : Nat) (z : Int), z = (pos : Int) + wd → Kt.Left (fun b => b = m ∨ b = m + 1) Y (fun pre Y W => W.heap[m + 1]? = some (.cells #[.int .i64 (pre.length : Nat)] 3 (0, 0)) ∧ ∃ pos f : Nat, pre ++ unitsF s f pos = units s ∧ s.size ≤ f + pos ∧ pos ≤ s.size ∧ W.heap[m]? = some (.cells #[.int .i64 (pos : Nat)] 3 (0, 0))) (pre ++ [(pos, r)]) W2
        (((X2.drewN nq).setCell ⟨m, 0, none⟩ (.int .i64 z)).setCell ⟨m + 1, 0, none⟩ (.int .i64 ((pre.length : Int) + 1))) := fun nq z hz => by
      subst hz
      refine ⟨Y, Keep.setCell (X := fun b => (b = m ∨ b = m + 1) ∨ Y b) (p := ⟨m + 1, 0, none⟩) (Keep.setCell (p := ⟨m, 0, none⟩) ((Keep.of_all hb12).drewN nq) (.inl (.inl rfl)) _) (.inl (.inr rfl)) _, fun b h => .inl h, ?_, pos + wd, f', ?_, by omega, by omega, ?_⟩
      · have := set_at (u := .int .i64 ((pre.length : Int) + 1)) (set_old (A := X2.drewN nq) (u := .int .i64 ((pos : Int) + wd)) (o := 0) z2 (show m + 1 ≠ m by omega))
        simpa using this
      · rw [List.append_assoc, ← hun]
        congr 1
        rw [unitsF, if_pos hplt, hdd]
        rfl
      · have := set_old (u := .int .i64 ((pre.length : Int) + 1)) (o := 0) (set_at (A := X2.drewN nq) (u := .int .i64 ((pos : Int) + wd)) z1) (show m ≠ m + 1 by omega)
        simpa using this
    have HF := Lib.hid hfin
    have g1 : ((pos : Int) != pos) = false := by simp
    have g2 : ((r : Int) != r) = false := by simp
    have g3 : ((wd : Int) != wd) = false := by simp
    have g4 : (1 : Int) ≤ wd := by omega
    have g5 : (wd : Int) ≤ 4 := by omega
    clear hfin x0 hp2 hp1 hun hrest hb12 hb1 hb2 y0 k1 z1 z2 hW2 hX1 hz2
    have hc3 : (wd = 1 ∧ r = 65533) ∨ (wd = 1 ∧ r ≠ 65533) ∨ (1 < wd ∧ (Utf8.encode r).data.toList = seg s pos (pos + wd)) := by
      rcases hcase with ⟨_, _, he⟩ | ⟨u, u1, u4, u5, _, _, hu, henc, _⟩
      · injection he with e1 e2
        exact .inl ⟨e2, e1⟩
      · subst hu
        rcases Nat.eq_or_lt_of_le u1 with e | e
        · by_cases h : r = 65533
          · exact .inl ⟨e.symm, h⟩
          · exact .inr (.inl ⟨e.symm, h⟩)
        · exact .inr (.inr ⟨e, henc⟩)
    clear hcase
    rcases hc3 with ⟨e1, e2⟩ | ⟨e1, hr65⟩ | ⟨hw1, henc⟩
    · subst e1; subst e2
      clear hone
      gi_wp2_with fail
      refine region_quiet_round (by kernel_rfl) (by kernel_rfl) (by kernel_rfl) ?_
      repeat (quiet_step_in (fail))
      refine wpQuietIn_nil ?_
      intro _ hw'
      obtain ⟨nq, hw''⟩ := hw'
      subst hw''
      gi_wp2_with fail
      exact HF.out nq _ (by omega)
    · subst e1
      obtain ⟨h1, h2⟩ := hone rfl hr65
      have hx : ∀ w, (Instr.index 9 (.string s) (.int .i64 (pos : Int))).run Tryd.prog w = .ok (.int .u8 (r : Int)) w := fun w => by
        rw [run_bAt s pos hplt w, bAt_B, ← h1]
      have g6 : ((r : Int) != 65533) = true := by simp; omega
      have g7 : (r : Int) < 128 := by omega
      have g8 : IntKind.i32.wrap (r : Int) = r := IntWalk.i32_in _ (by omega)
      clear hone h1 h2 hr65
      gi_wp2_with fail
      refine region_quiet_round (by kernel_rfl) (by kernel_rfl) (by kernel_rfl) ?_
      repeat (quiet_step_in (fail))
      refine wpQuietIn_nil ?_
      intro _ hw'
      obtain ⟨nq, hw''⟩ := hw'
      subst hw''
      gi_wp2_with fail
      exact HF.out nq _ (by omega)
    · have hE : Utf8.encode r = s.extract pos (pos + wd) := by
        apply ByteArray.ext
        apply Array.ext'
        exact henc
      have c32 := utfEncode_any r
      rw [hE] at c32
      have C32 := Lib.hid (fun W => (c32 W).mono (fun e w' (h : _ ∧ W = w') => (And.intro h.1 h.2.symm : e = .returned (.string (s.extract pos (pos + wd))) ∧ w' = W)))
      have g6 : (1 : Int) < wd := by omega
      have g7 : ((wd : Int) == 1) = false := by simp; omega
      have g8 : ((pos : Int) + wd).toNat = pos + wd := by omega
      have g9 : IntKind.i64.wrap ((pos : Int) + wd) = (pos : Int) + wd := IntWalk.i64_in _ (by omega)
      have g10 : (0 : Int) ≤ pos := by omega
      have n1 : decide ((wd : Int) < 1) = false := by simp; omega
      have n2 : decide ((4 : Int) < wd) = false := by simp; omega
      have n3 : decide ((1 : Int) < wd) = true := by simp; omega
      have g11 : (pos : Int) ≤ (pos : Int) + wd := by omega
      have g12 : (pos : Int) + wd ≤ s.size := by omega
      clear hE c32 hone henc hw1
      gi_wp2_with fail
      refine region_quiet_round (by kernel_rfl) (by kernel_rfl) (by kernel_rfl) ?_
      repeat (quiet_step_in (((gi_at_call 32; exact CallsIn.quiet_of_same (callsIn_wide.2 (C32.out _))))))
      refine wpQuietIn_nil ?_
      intro _ hw'
      obtain ⟨nq, hw''⟩ := hw'
      subst hw''
      gi_wp2_with fail
      exact HF.out nq _ (by omega)
  case done =>
    rintro D Y W hD hDd ⟨hp2, pos, f, hun, hf, hps, hp1⟩ hY hkW
    have hpe : pos = s.size := by
      have h0 : unitsF s f pos = [] := by simpa using hun
      rcases Nat.lt_or_ge pos s.size with h | h
      · obtain ⟨f', rfl⟩ : ∃ f', f = f' + 1 := ⟨f - 1, by omega⟩
        rw [unitsF, if_pos h] at h0; cases h0
      · omega
    subst hpe
    have x0 := hkW.heap v0 (by omega)
    have x1 := hkW.heap v1 (by omega)
    have hzW := hkW.size
    have hbW : Below n w W := hb16.trans (hkW.below (by omega) (fun b hb => by omega))
    have HS : Hid (∀ X, Below W.heap.size W X → X.heap[n]? = some (.cells #[.string s] 9 (0, 0)) ∧ X.heap[n + 1]? = some (.cells #[.bool false] 4 (0, 0)) ∧ X.cell? ⟨n, 0, none⟩ = some (.string s) ∧ X.cell? ⟨m, 0, none⟩ = some (.int .i64 (s.size : Nat)) ∧
        X.cell? ⟨m + 1, 0, none⟩ = some (.int .i64 ((units s).length : Nat)) ∧ X.heap[D]? = some (.deferred (some [])) ∧ Lib.Utf8Tabs 0 1 X ∧ 2 ≤ X.heap.size ∧ Below n w X) := Lib.hid (fun X hWX => by
      have e0 := (hWX.block _ (by omega)).trans x0
      have hltm := (Array.getElem?_eq_some_iff.1 hp1).1
      have hltm1 := (Array.getElem?_eq_some_iff.1 hp2).1
      exact ⟨e0, (hWX.block _ (by omega)).trans x1, cell_one e0, cell_one ((hWX.block m hltm).trans hp1), cell_one ((hWX.block (m + 1) hltm1).trans hp2), (hWX.block D (Array.getElem?_eq_some_iff.1 hDd).1).trans hDd, tabs_below HT.out h2 (hbW.trans (hWX.mono (by omega))), by have := hWX.size; omega, hbW.trans (hWX.mono (by omega))⟩)
    have HL := Lib.hid (fun (X : World) (hX : Below W.heap.size W X) => H.out.below (by rw [hn]; exact (HS.out X hX).2.2.2.2.2.2.2.2 : Below w.heap.size w X))
    have hul := units_len s
    have g1 : ((s.size : Int) != s.size) = false := by simp
    have g2 : (((units s).length : Int) != (units s).length) = false := by simp
    clear v0 v1 v5 v6 b6 x0 x1 hkW hY hp1 hp2 hDd hun hf hbW
    generalize hNN : (units s).length = N at *
    have HNN := Lib.hid hNN
    clear hNN
    have HC := Lib.hid (fun (X : World) (hX : Below W.heap.size W X) => (And.intro hX (And.intro (HS.out X hX).2.2.1 (And.intro (HS.out X hX).2.2.2.1 (HS.out X hX).2.2.2.2.1))))
    have HC2 := Lib.hid (fun (X : World) (hX : Below W.heap.size W X) => (And.intro hX (HS.out X hX).2.2.1))
    gi_wp2_with fail
    refine wpIn_wide.2 (wp_region_noPanic ?_)
    go_region_held_law (fun X => Below W.heap.size W X ∧ X.cell? ⟨n, 0, none⟩ = some (.string s) ∧ X.cell? ⟨m, 0, none⟩ = some (.int .i64 (s.size : Nat)) ∧ X.cell? ⟨m + 1, 0, none⟩ = some (.int .i64 (N : Nat)))
      (exact HC.out _ (by first | assumption | exact And.left (by assumption) | exact bl_drew (Below.refl _ _) | exact bl_drew (by assumption) | exact bl_drew (And.left (by assumption)) | exact bl_step (And.left (by assumption)) (by assumption)))
      (first
      | (go_at_call 19; refine (utfCount_any s _ (by omega)).mono ?_; rw [HNN.out]; rintro e w' ⟨rfl, hb⟩))
    refine NoPanic.normal ?_
    obtain ⟨hBX, hc1, _⟩ := (by assumption : Below W.heap.size W _ ∧ _ ∧ _)
    clear HC g1 g2
    have hback := back_iff s
    cases hV : okB s
    · have hne : ¬ runesBytes (numsI s) = s := fun h => by have := hback.1 h; rw [hV] at this; cases this
      obtain ⟨T, hTT⟩ : ∃ T, runesBytes (numsI s) = T := ⟨_, rfl⟩
      rw [hTT] at hne
      have hne2 : (T.toList == s.toList) = false := by
        rw [ByteArray.toList_eq, ByteArray.toList_eq]
        simp only [beq_eq_false_iff_ne, ne_eq]
        exact fun h => hne (WideShapes.bytes_inj h)
      have HTT := Lib.hid hTT
      clear hback hTT
      gi_wp2_with fail
      refine wpIn_wide.2 (wp_region_noPanic ?_)
      go_region_held_law (fun X => Below W.heap.size W X ∧ X.cell? ⟨n, 0, none⟩ = some (.string s))
        (exact HC2.out _ (by first | assumption | exact And.left (by assumption) | exact bl_drew (Below.refl _ _) | exact bl_drew (by assumption) | exact bl_drew (And.left (by assumption)) | exact bl_step (And.left (by assumption)) (by assumption)))
        (first
        | (go_at_call 16; refine (utfRunes_any s _ (by omega)).mono ?_; rintro e w' ⟨cap, rfl, hown, hb, hzz⟩; clear hzz; rw [HNN.out] at hown ⊢)
        | (go_at_call 34; refine (utfText_any _ (numsI s) _ (sl_of_own (by rw [← runeCells_I]; assumption) (by rw [numsI_len, HNN.out]))).mono ?_; rw [HTT.out]; rintro e w' ⟨rfl, rfl⟩))
      refine NoPanic.normal ?_
      obtain ⟨hBX2, hc2⟩ := (by assumption : Below W.heap.size W _ ∧ _)
      gi_wp2_with fail
      refine (callsIn_wide.2 (utfValid_any s _ (HS.out _ hBX2).2.2.2.2.2.2.1 (HS.out _ hBX2).2.2.2.2.2.2.2.1 (by omega))).mono ?_
      rw [hV]
      rintro e X3 ⟨rfl, hb3⟩
      have hBX3 := bl_step hBX2 hb3
      clear hc2 hb3
      gi_wp2_with fail
      refine (callsIn_wide.2 (utfTextg_any _ l X3 (HL.out X3 hBX3))).mono ?_
      rintro e w' ⟨rfl, rfl⟩
      gi_wp2_with fail
      refine (callsIn_wide.2 (utfRunes_any (runesBytes l) X3 (by have := runesBytes_size_le l; omega))).mono ?_
      rintro e X4 ⟨cap4, rfl, hown4, hb4, hz4⟩
      have hBX4 := bl_step hBX3 hb4
      have hsl4 : Sl .i32 X4 (.slice (some ⟨X3.heap.size, 0, none⟩) (units (runesBytes l)).length cap4) (numsI (runesBytes l)) := sl_of_own (by rw [← runeCells_I]; exact hown4) (numsI_len _)
      have hul4 := units_len (runesBytes l)
      have hrs4 := runesBytes_size_le l
      have C5 := Lib.hid (sameRunes_g _ _ _ l X4 hsl4 (HL.out X4 hBX4) (by rw [numsI_len]; omega) (by omega))
      rw [nums_text] at C5
      clear hz4 hown4 hb4 hsl4 hul4 hrs4
      gi_wp2_with fail
      refine (callsIn_wide.2 C5.out).mono ?_
      rintro e X5 ⟨rfl, hd5⟩
      have hBX5 := bl_step hBX4 hd5.below
      rw [fix_same]
      have C6 := Lib.hid (characters_any _ l X5 (HL.out X5 hBX5) (by omega))
      clear C5 hd5
      unfold CharsOut at C6
      generalize l.all Utf8.valid = bb at *
      have hbb : (bb == bb) = true := by simp
      gi_wp2_with fail
      refine (callsIn_wide.2 C6.out).mono ?_
      rintro e X6 ⟨rfl, hd6⟩
      have hBX6 := bl_step hBX5 hd6.below
      have e1 := (HS.out X6 hBX6).2.1
      have k6 := cell_one e1
      have f6 := frozen_one e1
      have hD6 := (HS.out X6 hBX6).2.2.2.2.2.1
      have hX6 := (HS.out X6 hBX6).2.2.2.2.2.2.2.2
      have HE := Lib.hid (And.intro e1 (And.intro hD6 hX6))
      clear hd6 e1 hD6 hX6 hBX6
      gi_wp2_with fail
      obtain ⟨e1, hD6, hX6⟩ := HE.out
      have hnD : D ≠ n + 1 := fun e => by subst e; rw [hD6] at e1; cases e1
      refine leaves_marks (Ds := [D]) (by simp) (fun D' h => by simp at h; subst h; exact set_old hD6 hnD) (fun W' hk' => ?_)
      refine ⟨_, results_cell_one (g := n + 1) rfl _ _ _ rfl (cell_one (hk'.heap (set_at (u := .bool true) e1) (fun h => by simp at h; exact hnD h.symm))) Tryd.isAgg4, rfl, ?_⟩
      rw [hn]
      exact (hX6.setCell (by simp) _).trans (hk'.below (by have := hX6.size; simp; omega) (fun b h => by simp at h; omega))
    · have hTT := hback.2 hV
      have HTT := Lib.hid hTT
      clear hback hTT
      gi_wp2_with fail
      refine wpIn_wide.2 (wp_region_noPanic ?_)
      go_region_held_law (fun X => Below W.heap.size W X ∧ X.cell? ⟨n, 0, none⟩ = some (.string s))
        (exact HC2.out _ (by first | assumption | exact And.left (by assumption) | exact bl_drew (Below.refl _ _) | exact bl_drew (by assumption) | exact bl_drew (And.left (by assumption)) | exact bl_step (And.left (by assumption)) (by assumption)))
        (first
        | (go_at_call 16; refine (utfRunes_any s _ (by omega)).mono ?_; rintro e w' ⟨cap, rfl, hown, hb, hzz⟩; clear hzz; rw [HNN.out] at hown ⊢)
        | (go_at_call 34; refine (utfText_any _ (numsI s) _ (sl_of_own (by rw [← runeCells_I]; assumption) (by rw [numsI_len, HNN.out]))).mono ?_; rw [HTT.out]; rintro e w' ⟨rfl, rfl⟩))
      refine NoPanic.normal ?_
      obtain ⟨hBX2, hc2⟩ := (by assumption : Below W.heap.size W _ ∧ _)
      gi_wp2_with fail
      refine (callsIn_wide.2 (utfValid_any s _ (HS.out _ hBX2).2.2.2.2.2.2.1 (HS.out _ hBX2).2.2.2.2.2.2.2.1 (by omega))).mono ?_
      rw [hV]
      rintro e X3 ⟨rfl, hb3⟩
      have hBX3 := bl_step hBX2 hb3
      clear hc2 hb3
      gi_wp2_with fail
      refine (callsIn_wide.2 (utfTextg_any _ l X3 (HL.out X3 hBX3))).mono ?_
      rintro e w' ⟨rfl, rfl⟩
      gi_wp2_with fail
      refine (callsIn_wide.2 (utfRunes_any (runesBytes l) X3 (by have := runesBytes_size_le l; omega))).mono ?_
      rintro e X4 ⟨cap4, rfl, hown4, hb4, hz4⟩
      have hBX4 := bl_step hBX3 hb4
      have hsl4 : Sl .i32 X4 (.slice (some ⟨X3.heap.size, 0, none⟩) (units (runesBytes l)).length cap4) (numsI (runesBytes l)) := sl_of_own (by rw [← runeCells_I]; exact hown4) (numsI_len _)
      have hul4 := units_len (runesBytes l)
      have hrs4 := runesBytes_size_le l
      have C5 := Lib.hid (sameRunes_g _ _ _ l X4 hsl4 (HL.out X4 hBX4) (by rw [numsI_len]; omega) (by omega))
      rw [nums_text] at C5
      clear hz4 hown4 hb4 hsl4 hul4 hrs4
      gi_wp2_with fail
      refine (callsIn_wide.2 C5.out).mono ?_
      rintro e X5 ⟨rfl, hd5⟩
      have hBX5 := bl_step hBX4 hd5.below
      rw [fix_same]
      have C6 := Lib.hid (characters_any _ l X5 (HL.out X5 hBX5) (by omega))
      clear C5 hd5
      unfold CharsOut at C6
      generalize l.all Utf8.valid = bb at *
      have hbb : (bb == bb) = true := by simp
      gi_wp2_with fail
      refine (callsIn_wide.2 C6.out).mono ?_
      rintro e X6 ⟨rfl, hd6⟩
      have hBX6 := bl_step hBX5 hd6.below
      have e1 := (HS.out X6 hBX6).2.1
      have k6 := cell_one e1
      have f6 := frozen_one e1
      have hD6 := (HS.out X6 hBX6).2.2.2.2.2.1
      have hX6 := (HS.out X6 hBX6).2.2.2.2.2.2.2.2
      have HE := Lib.hid (And.intro e1 (And.intro hD6 hX6))
      clear hd6 e1 hD6 hX6 hBX6
      gi_wp2_with fail
      obtain ⟨e1, hD6, hX6⟩ := HE.out
      have hnD : D ≠ n + 1 := fun e => by subst e; rw [hD6] at e1; cases e1
      refine leaves_marks (Ds := [D]) (by simp) (fun D' h => by simp at h; subst h; exact set_old hD6 hnD) (fun W' hk' => ?_)
      refine ⟨_, results_cell_one (g := n + 1) rfl _ _ _ rfl (cell_one (hk'.heap (set_at (u := .bool true) e1) (fun h => by simp at h; exact hnD h.symm))) Tryd.isAgg4, rfl, ?_⟩
      rw [hn]
      exact (hX6.setCell (by simp) _).trans (hk'.below (by have := hX6.size; simp; omega) (fun b h => by simp at h; omega))
end Go.Proofs.YtdcpbogabgnooaaDoor
