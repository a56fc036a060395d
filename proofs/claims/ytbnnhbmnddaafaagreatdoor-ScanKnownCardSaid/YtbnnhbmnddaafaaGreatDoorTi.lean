/- The document's answer for scan: sign, escaped: the walks. -/
import Derived.Test.YtbnnhbmnddaafaaGreatDoorTh
namespace Go.Proofs.YtbnnhbmnddaafaaGreatDoor
open Go Go.RowKit Go.Kt Go.Kt.Rg Go.Shelf Go.Lib
attribute [local go_sem] Oper.semAt_some

theorem newB_own {l : List UInt8} {w : World} (hl : l.length ≤ 1000) : OwnB (fun b => w.heap.size ≤ b) (.slice (some ⟨w.heap.size, 0, none⟩) l.length l.length) l (w.alloc (.cells (Lib.byteCells l).toArray 5)) := by
  refine ⟨⟨by simp [Lib.byteCells], .inr ⟨w.heap.size, l.length, (Lib.byteCells l).toArray, (0, 0), rfl, Nat.zero_le _, World.alloc_heap_new w _, Nat.zero_le _, Nat.le_refl _, by unfold maxLen; omega, by simp [Lib.byteCells], by simp [Lib.byteCells]; exact List.take_of_length_le (by simp)⟩⟩, fun g hg => ?_⟩
  have : w.heap.size = g := by simpa [Value.ownBlock] using hg
  omega
theorem xnum2_bd (s : ByteArray) (i : Nat) : xnumI s (i + 2) (i + 4) 2 2 ≤ 255 := by
  unfold xnumI
  split
  · decide
  · rw [show i + 4 - (i + 2) = 2 by omega]
    have hn : xnumF s 2 (i + 2) 0 = oI (puF 255 0 (seg s (i + 2) (i + 2 + 2))) := xnum_pu s 255 2 (i + 2) 0 (by omega) (by decide)
    rw [hn]
    cases hp : puF 255 0 (seg s (i + 2) (i + 2 + 2)) with
    | none => decide
    | some n =>
      have := puF_bd 255 _ 0 n (Nat.zero_le _) hp
      show ((n : Nat) : Int) ≤ 255
      omega

def escO (D i : Nat) (o : Option (List UInt8 × Nat)) (e : Ending) (w' : World) : Prop := match o with
  | some (x, k) => ∃ ao cp, e = .returned (.tuple #[.slice ao x.length cp, .int .i64 ((i + k : Nat) : Int), .int .i64 0]) ∧ OwnB (fun b => D ≤ b) (.slice ao x.length cp) x w'
  | none => e = .returned (.tuple #[.slice none 0 0, .int .i64 (i : Nat), .int .i64 9])
set_option maxRecDepth 100000 in
set_option maxHeartbeats 1000000 in
theorem xescaped_any (s : ByteArray) (i : Nat) (w : World) (hs : s.size ≤ 140737488351232) (hi : i < s.size) (h92 : B s i = 92) :
    Calls Tryz.prog 99 #[.string s, .int .i64 (i : Nat)] w fun e w' => escO w.heap.size i (unescV (s.extract i s.size)) e w' ∧ Below w.heap.size w w' := by
  by_cases he : i + 1 = s.size
  · rw [esc_none he]
    have he' : ((i : Int) + 1 == (s.size : Int)) = true := by simp; omega
    clear h92 he
    go_enter Tryz.func99, Tryz.ntmps99
    go_wp2
    go_ret3
    exact ⟨rfl, Below.refl _ _⟩
  have hi1 : i + 1 < s.size := by omega
  have he' : ((i : Int) + 1 == (s.size : Int)) = false := by simp; omega
  have HI : ∀ w, (Instr.index 9 (.string s) (.int .i64 ((i : Int) + 1))).run Tryz.prog w = .ok (.int .u8 (bAt s (i + 1))) w := fun w => run_bAt s (i + 1) hi1 w
  by_cases hx : B s (i + 1) = 120
  · rw [esc_x hi1 hx]
    have hb : bAt s (i + 1) = 120 := by rw [bAt_B, hx]; rfl
    rw [hb] at HI
    have CN : Hid (∀ V, Calls Tryz.prog 117 #[.string s, .int .i64 ((i : Int) + 2), .int .i64 ((i : Int) + 4), .int .i64 2, .int .i64 2] V fun r w' => r = .returned (.int .i64 (xnumI s (i + 2) (i + 4) 2 2)) ∧ V = w') := Lib.hid fun V => xnumber_any s (i + 2) (i + 4) 2 2 V hs (by omega) (by omega) (by decide) (by decide)
    have hbd := xnum2_bd s i
    generalize xnumI s (i + 2) (i + 4) 2 2 = v at *
    clear hx hb he h92 hi1
    by_cases hv : v < 128
    · rw [if_pos hv]
      go_enter Tryz.func99, Tryz.ntmps99
      go_wp2_with (go_at_call 117; refine (CN.out _).mono ?_; rintro e w1 ⟨rfl, rfl⟩)
      go_ret3
      exact ⟨rfl, Below.refl _ _⟩
    · rw [if_neg hv]
      have hw : IntKind.u8.wrap v = v := by
        unfold IntKind.wrap
        simp [IntKind.signed, IntKind.bits]
        omega
      have HO : Hid (escO w.heap.size i (some ([UInt8.ofNat v.toNat], 4)) (.returned (.tuple #[.slice (some ⟨w.heap.size, 0, none⟩) 1 1, .int .i64 ((i : Int) + 4), .int .i64 0])) (w.alloc (.cells #[.int .u8 v] 5))) := Lib.hid (by
        refine ⟨_, _, rfl, ?_⟩
        have := newB_own (l := [UInt8.ofNat v.toNat]) (w := w) (by simp)
        have e1 : Lib.byteCells [UInt8.ofNat v.toNat] = [.int .u8 v] := by
          simp only [Lib.byteCells, List.map_cons, List.map_nil]
          rw [ofNat_toNat v (by omega) (by omega)]
        rw [e1] at this
        exact this)
      go_enter Tryz.func99, Tryz.ntmps99
      go_wp2_with (go_at_call 117; refine (CN.out _).mono ?_; rintro e w1 ⟨rfl, rfl⟩)
      go_ret3
      exact ⟨HO.out, (Below.refl _ _).alloc (Nat.le_refl _) _⟩
  have hbx : (bAt s (i + 1) == 120) = false := by rw [bAt_B]; simp; omega
  by_cases hu : B s (i + 1) = 117
  · rw [esc_u hi1 h92 hu]
    unfold xchrV
    have hb : bAt s (i + 1) = 117 := by rw [bAt_B, hu]; rfl
    rw [hb] at HI
    have CF : Hid (∀ V, Calls Tryz.prog 78 #[.string s, .int .i64 (i : Nat), .int .u8 125] V fun e w' => e = .returned (.int .i64 (xfindI s (125 : Nat) i)) ∧ V = w') := Lib.hid fun V => xfind_any s i 125 V hs (by omega)
    have CB : Hid (∀ V, Calls Tryz.prog 97 #[.string s, .int .i64 ((i : Int) + 2), .string ⟨#[123]⟩] V fun e w' => e = .returned (.bool (begL s (i + 2) [123])) ∧ V = w') := Lib.hid fun V => xbegins_any s ⟨#[123]⟩ (i + 2) V hs (by decide) (by omega)
    cases hbg : begL s (i + 2) [123] with
    | false =>
      rw [hbg] at CB
      rw [if_pos (.inl rfl)]
      generalize xfindI s (125 : Nat) i = j at *
      clear hx hbx hu hb he h92 hi1 hbg
      go_enter Tryz.func99, Tryz.ntmps99
      go_wp2_with (first | (go_at_call 78; refine (CF.out _).mono ?_; rintro e w1 ⟨rfl, rfl⟩) | (go_at_call 97; refine (CB.out _).mono ?_; rintro e w1 ⟨rfl, rfl⟩))
      go_ret3
      exact ⟨rfl, Below.refl _ _⟩
    | true =>
      rw [hbg] at CB
      have hb2 : B s (i + 2) = 123 := (beg_one (by decide)).1 hbg
      rcases xfindI_spec s 125 i (by omega) with ⟨e1, h1⟩ | ⟨j, e1, h1, h2, h3, h4⟩
      · rw [e1] at CF ⊢
        rw [if_pos (.inr (by decide))]
        clear hx hbx hu hb he h92 hi1 hbg hb2 e1 h1
        go_enter Tryz.func99, Tryz.ntmps99
        go_wp2_with (first | (go_at_call 78; refine (CF.out _).mono ?_; rintro e w1 ⟨rfl, rfl⟩) | (go_at_call 97; refine (CB.out _).mono ?_; rintro e w1 ⟨rfl, rfl⟩))
        go_ret3
        exact ⟨rfl, Below.refl _ _⟩
      · rw [e1] at CF ⊢
        have hij : i + 3 ≤ j := by
          rcases Nat.lt_or_ge j (i + 3) with h | h
          · exfalso
            rcases (by omega : j = i ∨ j = i + 1 ∨ j = i + 2) with rfl | rfl | rfl <;> omega
          · exact h
        rw [if_neg (fun h => by
          rcases h with h | h
          · cases h
          · omega), Int.toNat_natCast]
        have hj0 : ¬ (j : Int) < 0 := by omega
        have CN : Hid (∀ V, Calls Tryz.prog 117 #[.string s, .int .i64 ((i : Int) + 3), .int .i64 (j : Nat), .int .i64 1, .int .i64 6] V fun r w' => r = .returned (.int .i64 (xnumI s (i + 3) j 1 6)) ∧ V = w') := Lib.hid fun V => xnumber_any s (i + 3) j 1 6 V hs hij (by omega) (by decide) (by decide)
        have CC := Lib.hid (fun V => char_any (xnumI s (i + 3) j 1 6) V)
        have CY := Lib.hid (fun V (h : pointB (xnumI s (i + 3) j 1 6) = true) => refBytes_any (xnumI s (i + 3) j 1 6) V h)
        have ej : i + (j + 1 - i) = j + 1 := by omega
        have hjz : (j : Int) ≤ 140737488351232 := by omega
        generalize xnumI s (i + 3) j 1 6 = v at *
        clear hx hbx hu hb he h92 hi1 hbg hb2 e1 h1 h2 h3 h4 hij
        by_cases hv : v < 0
        · rw [if_pos (.inl hv)]
          clear ej
          go_enter Tryz.func99, Tryz.ntmps99
          go_wp2_with (first | (go_at_call 78; refine (CF.out _).mono ?_; rintro e w1 ⟨rfl, rfl⟩) | (go_at_call 97; refine (CB.out _).mono ?_; rintro e w1 ⟨rfl, rfl⟩) | (go_at_call 117; refine (CN.out _).mono ?_; rintro e w1 ⟨rfl, rfl⟩))
          go_ret3
          exact ⟨rfl, Below.refl _ _⟩
        · by_cases hc : charB v = true
          · rw [if_neg (fun h => by
              rcases h with h | h
              · exact hv h
              · rw [hc] at h; cases h)]
            rw [hc] at CC
            have hpt : pointB v = true := by unfold pointB; rw [hc]; rfl
            have hvb : 0 ≤ v ∧ v ≤ 1114111 := by
              unfold charB at hc
              simp only [Bool.or_eq_true, decide_eq_true_eq] at hc
              omega
            have CY' := Lib.hid (fun V => CY.out V hpt)
            have hw : IntKind.i32.wrap v = v := by
              unfold IntKind.wrap
              simp [IntKind.signed, IntKind.bits]
              omega
            have hlen := bytesP_len v
            have HO : Hid (∀ ww, escO w.heap.size i (some (bytesP v, j + 1 - i)) (.returned (.tuple #[.slice (some ⟨w.heap.size, 0, none⟩) (bytesP v).length (bytesP v).length, .int .i64 ((j : Int) + 1), .int .i64 0])) ww ∨ ww ≠ w.alloc (.cells (Lib.byteCells (bytesP v)).toArray 5)) := Lib.hid (fun ww => by
              by_cases hww : ww = w.alloc (.cells (Lib.byteCells (bytesP v)).toArray 5)
              · left
                subst hww
                refine ⟨_, _, ?_, newB_own (by omega)⟩
                rw [ej]
                rfl
              · exact .inr hww)
            generalize bytesP v = bs at *
            clear ej hc hpt CY
            go_enter Tryz.func99, Tryz.ntmps99
            go_wp2_with (first | (go_at_call 78; refine (CF.out _).mono ?_; rintro e w1 ⟨rfl, rfl⟩) | (go_at_call 97; refine (CB.out _).mono ?_; rintro e w1 ⟨rfl, rfl⟩) | (go_at_call 117; refine (CN.out _).mono ?_; rintro e w1 ⟨rfl, rfl⟩) | (go_at_call 102; refine (CC.out _).mono ?_; rintro e w1 ⟨rfl, rfl⟩) | (go_at_call 58; refine (CY'.out _).mono ?_; rintro e w1 ⟨rfl, hw1⟩))
            go_ret3
            refine ⟨(HO.out _).resolve_right (fun h => h rfl), ?_⟩
            exact (Below.refl _ _).alloc (Nat.le_refl _) _
          · have hc' : charB v = false := by simpa using hc
            rw [if_pos (.inr hc')]
            rw [hc'] at CC
            clear ej hc hc' CY
            go_enter Tryz.func99, Tryz.ntmps99
            go_wp2_with (first | (go_at_call 78; refine (CF.out _).mono ?_; rintro e w1 ⟨rfl, rfl⟩) | (go_at_call 97; refine (CB.out _).mono ?_; rintro e w1 ⟨rfl, rfl⟩) | (go_at_call 117; refine (CN.out _).mono ?_; rintro e w1 ⟨rfl, rfl⟩) | (go_at_call 102; refine (CC.out _).mono ?_; rintro e w1 ⟨rfl, rfl⟩))
            go_ret3
            exact ⟨rfl, Below.refl _ _⟩
  · have hbu : (bAt s (i + 1) == 117) = false := by rw [bAt_B]; simp; omega
    rw [esc_any hi1 hu hx]
    have CN : Hid (∀ V, Calls Tryz.prog 83 #[.string s, .int .i64 ((i : Int) + 1)] V fun e w' => e = .returned (.tuple #[.int .i32 ((ptU s (i + 1)).1 : Nat), .int .i64 ((ptU s (i + 1)).2 : Nat)]) ∧ V = w') := Lib.hid fun V => by
      have := refNext_any s ((i + 1 : Nat) : Int) V (by omega)
      rw [ptP_in s (i + 1) hi1] at this
      exact this
    have CY := Lib.hid (fun V => refBytes_any ((ptU s (i + 1)).1 : Nat) V (ptU_point s (i + 1) hi1))
    have hw4 := ptU_wide s (i + 1) hi1
    have hlen := bytesP_len ((ptU s (i + 1)).1 : Nat)
    generalize (ptU s (i + 1)).1 = x at *
    generalize (ptU s (i + 1)).2 = n at *
    generalize bAt s (i + 1) = b at *
    have hn : (n : Int) ≤ 4 := by omega
    have HO : Hid (∀ ww, escO w.heap.size i (some (bytesP (x : Nat), 1 + n)) (.returned (.tuple #[.slice (some ⟨w.heap.size, 0, none⟩) (bytesP (x : Nat)).length (bytesP (x : Nat)).length, .int .i64 ((i : Int) + 1 + (n : Nat)), .int .i64 0])) ww ∨ ww ≠ w.alloc (.cells (Lib.byteCells (bytesP (x : Nat))).toArray 5)) := Lib.hid (fun ww => by
      by_cases hww : ww = w.alloc (.cells (Lib.byteCells (bytesP (x : Nat))).toArray 5)
      · left
        subst hww
        refine ⟨_, _, ?_, newB_own (by omega)⟩
        rw [show ((i + (1 + n) : Nat) : Int) = (i : Int) + 1 + (n : Nat) by omega]
      · exact .inr hww)
    generalize bytesP (x : Nat) = bs at *
    clear hx hu he h92 hi1 hw4
    go_enter Tryz.func99, Tryz.ntmps99
    go_wp2_with (first | (go_at_call 83; refine (CN.out _).mono ?_; rintro e w1 ⟨rfl, rfl⟩) | (go_at_call 58; refine (CY.out _).mono ?_; rintro e w1 ⟨rfl, hw1⟩))
    go_ret3
    refine ⟨(HO.out _).resolve_right (fun h => h rfl), ?_⟩
    exact (Below.refl _ _).alloc (Nat.le_refl _) _
end Go.Proofs.YtbnnhbmnddaafaaGreatDoor
