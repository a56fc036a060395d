/- Parts of the proof of what the last text says. -/
import Derived.Test.YtlfdpdlhppgakaaGreatDoorQs3
import Derived.Test.YtlfdpdlhppgakaaGreatDoorQs2
import Derived.Test.YtlfdpdlhppgakaaGreatDoorQs7
/- The points of a text, and the text of its points: the mathematics. -/
namespace Go.Proofs.YtlfdpdlhppgakaaGreatDoor
open Go Go.RowKit Go.Kt Go.Shelf

theorem ptU_cases (s : ByteArray) (i : Nat) (h : i < s.size) :
    (Utf8.decode s i = (65533, 1) ∧ ptU s i = (1114112 + B s i, 1) ∧ 128 ≤ B s i) ∨
    (∃ w : Nat, 1 ≤ w ∧ w ≤ 4 ∧ i + w ≤ s.size ∧ wideI s i = w ∧ Utf8.decode s i ≠ (65533, 1) ∧ ptU s i = Utf8.decode s i ∧ (Utf8.decode s i).2 = w ∧ charB (Utf8.decode s i).1 = true ∧ bytesP (Utf8.decode s i).1 = seg s i (i + w)) := by
  by_cases hd : Utf8.decode s i = (65533, 1)
  · refine .inl ⟨hd, by unfold ptU; rw [if_pos hd], ?_⟩
    rcases Nat.lt_or_ge (B s i) 128 with hb | hb
    · have := decode_B s i
      rw [hd] at this
      unfold Lib.decodeN at this
      rw [if_pos hb] at this
      injection this with h1 _
      omega
    · exact hb
  · refine .inr ?_
    rcases unit_at s i h with ⟨_, e⟩ | ⟨w, h1, h4, hw, he, e2, _⟩
    · exact absurd e hd
    · obtain ⟨q1, q2⟩ := encode_decode s i w h h1 h4 he
      have hc : charB ((Utf8.decode s i).1 : Int) = true := by rw [← valid_char2]; exact q2
      exact ⟨w, h1, h4, hw, he, hd, by unfold ptU; rw [if_neg hd], e2, hc, by rw [bytesP_char _ hc]; exact q1⟩

theorem ptU_point (s : ByteArray) (i : Nat) (h : i < s.size) : pointB (ptU s i).1 = true := by
  rcases ptU_cases s i h with ⟨_, e, hb⟩ | ⟨w, _, _, _, _, _, e, _, hc, _⟩
  · have := B_lt s i
    rw [e, pointB_iff]
    right
    simp
    omega
  · rw [e]
    unfold pointB
    rw [hc]
    rfl
theorem ptU_bytes (s : ByteArray) (i : Nat) (h : i < s.size) : bytesP (ptU s i).1 = seg s i (i + (ptU s i).2) := by
  rcases ptU_cases s i h with ⟨_, e, hb⟩ | ⟨w, _, _, _, _, _, e, e2, _, hq⟩
  · have := B_lt s i
    rw [e]
    rw [seg_range s i 1 (by omega)]
    unfold bytesP
    rw [if_pos (by omega)]
    have : ((1114112 + B s i : Nat) : Int) - 1114112 = B s i := by omega
    rw [this]
    simp
  · rw [e, hq, e2]
theorem textP_from (s : ByteArray) : ∀ f i, i ≤ s.size → s.size ≤ f + i → textP (ptL s (unitsF s f i)) = seg s i s.size
  | 0, i, hi, hf => by
    obtain rfl : i = s.size := by omega
    simp [unitsF, ptL, textP, seg_self]
  | f + 1, i, hi, hf => by
    unfold unitsF
    split
    · rename_i hlt
      obtain ⟨d1, d2, d3⟩ := ptU_wide s i hlt
      have ih := textP_from s f (i + (Utf8.decode s i).2) (by rw [← ptU_wide_eq]; exact d3) (by rw [← ptU_wide_eq]; omega)
      have : textP (ptL s ((i, (Utf8.decode s i).1) :: unitsF s f (i + (Utf8.decode s i).2))) = bytesP (ptU s i).1 ++ textP (ptL s (unitsF s f (i + (Utf8.decode s i).2))) := by simp [textP, ptL]
      rw [this, ih, ptU_bytes s i hlt, ← ptU_wide_eq]
      exact seg_app s i _ _ (by omega) d3
    · obtain rfl : i = s.size := by omega
      simp [ptL, textP, seg_self]
/-- A TEXT COMES BACK FROM ITS POINTS. -/
theorem textP_pts (s : ByteArray) : textP (pts s) = s.data.toList := by
  unfold pts units
  rw [textP_from s s.size 0 (Nat.zero_le _) (by omega), seg_all]
theorem pts_points (s : ByteArray) : ∀ x ∈ pts s, pointB x = true := by
  intro x hx
  obtain ⟨p, hp, rfl⟩ := List.mem_map.1 hx
  exact ptU_point s p.1 (units_dec s s.size 0 p hp).2
theorem pts_bd (s : ByteArray) : ∀ x ∈ pts s, -2147483648 ≤ x ∧ x ≤ 2147483647 := by
  intro x hx
  have := (pointB_iff x).1 (pts_points s x hx)
  omega

/-- Rows of characters. -/
theorem textP_chars : ∀ l : List Int, (∀ x ∈ l, charB x = true) → textP l = (runesBytes l).data.toList
  | [], _ => by simp [textP, runesBytes]
  | x :: l, h => by
    have ih := textP_chars l (fun y hy => h y (by simp [hy]))
    rw [runesBytes_cons]
    show bytesP x ++ textP l = _
    rw [ih, bytesP_char x (h x (by simp))]
    simp
theorem pts_nums_from (s : ByteArray) : ∀ f i, i ≤ s.size → s.size ≤ f + i → okF s f i = true → ptL s (unitsF s f i) = (numsF s f i).map fun x : Nat => (x : Int)
  | 0, i, _, _, _ => by simp [unitsF, ptL, numsF]
  | f + 1, i, hi, hf, hok => by
    by_cases hlt : i < s.size
    · rw [okF, if_pos hlt] at hok
      have hill : illB s i = false := by
        cases h : illB s i
        · rfl
        · rw [h] at hok; simp at hok
      rw [hill] at hok
      simp only [Bool.false_eq_true, if_false] at hok
      obtain ⟨d1, d2, d3⟩ := ptU_wide s i hlt
      rw [ptU_wide_eq] at d1 d2 d3
      have ih := pts_nums_from s f (i + (Utf8.decode s i).2) d3 (by omega) hok
      rw [numsF_in s f i hlt]
      have hu : unitsF s (f + 1) i = (i, (Utf8.decode s i).1) :: unitsF s f (i + (Utf8.decode s i).2) := by rw [unitsF, if_pos hlt]
      rw [hu]
      rw [ill_dec s i hlt] at hill
      have e : ptU s i = Utf8.decode s i := by unfold ptU; rw [if_neg (by simpa using hill)]
      have : ptL s ((i, (Utf8.decode s i).1) :: unitsF s f (i + (Utf8.decode s i).2)) = ((ptU s i).1 : Int) :: ptL s (unitsF s f (i + (Utf8.decode s i).2)) := by simp [ptL]
      rw [this, ih, e]
      simp
    · have hu : unitsF s (f + 1) i = [] := by rw [unitsF, if_neg hlt]
      rw [hu, numsF_end s (f + 1) i (by omega)]
      rfl
theorem pts_nums (s : ByteArray) (h : okB s = true) : pts s = numsI s := pts_nums_from s s.size 0 (Nat.zero_le _) (by omega) h
/-- A ROW OF CHARACTERS COMES BACK FROM ITS TEXT. -/
theorem row_ok (l : List Int) (h : ∀ x ∈ l, charB x = true) : okB (runesBytes l) = true ∧ numsI (runesBytes l) = l := by
  have h1 : numsI (runesBytes l) = l := by
    rw [nums_text]
    have := fix_same l
    have h2 : l.all Utf8.valid = true := List.all_eq_true.2 fun x hx => by rw [valid_char2]; exact h x hx
    rw [h2] at this
    simpa using this
  refine ⟨?_, h1⟩
  have := (back_iff (runesBytes l)).1
  exact this (by rw [h1])
theorem row_pts (l : List Int) (h : ∀ x ∈ l, charB x = true) : pts (runesBytes l) = l := by
  rw [pts_nums _ (row_ok l h).1, (row_ok l h).2]
end Go.Proofs.YtlfdpdlhppgakaaGreatDoor
/- The document's answer for scan: begins, number, past, Place, Lines. -/
namespace Go.Proofs.YtlfdpdlhppgakaaGreatDoor
open Go Go.RowKit Go.Kt Go.Kt.Rg Go.Shelf Go.Lib
attribute [local go_sem] Oper.semAt_some

/-- Does a text stand at i? -/
def begL (s : ByteArray) (i : Nat) (t : List UInt8) : Bool := decide (i + t.length ≤ s.size) && (seg s i (i + t.length) == t)
set_option maxRecDepth 100000 in
theorem xbegins_any (s t : ByteArray) (i : Nat) (w : World) (hs : s.size ≤ 140737488351232) (ht : t.size ≤ 100) (hi : i ≤ s.size + 10) :
    Calls Tryz.prog 62 #[.string s, .int .i64 (i : Nat), .string t] w fun e w' => e = .returned (.bool (begL s i t.data.toList)) ∧ w = w' := by
  have hw : IntKind.i64.wrap ((i : Int) + (t.size : Int)) = (i : Int) + t.size := IntWalk.i64_in _ (by omega)
  have hl : t.data.toList.length = t.size := (Lib.size_eq t).symm
  by_cases h : i + t.size ≤ s.size
  · have h1 : (i : Int) + (t.size : Int) ≤ s.size := by omega
    have h2 : (0 : Int) ≤ i := by omega
    have h3 : (i : Int) ≤ (i : Int) + t.size := by omega
    have h4 : ((i : Int) + (t.size : Int)).toNat = i + t.size := by omega
    have HR : Hid (((s.extract i (i + t.size)).toList == t.toList) = begL s i t.data.toList) := Lib.hid (by
      unfold begL seg
      rw [hl, decide_eq_true h, Bool.true_and, ByteArray.toList_eq, ByteArray.toList_eq])
    clear hl h
    go_enter Tryz.func62, Tryz.ntmps62
    go_wp2
    go_ret
    rw [← HR.out]
    exact ⟨rfl, rfl⟩
  · have h1 : ¬ (i : Int) + (t.size : Int) ≤ s.size := by omega
    have HR : Hid (begL s i t.data.toList = false) := Lib.hid (by
      unfold begL
      rw [hl, decide_eq_false h, Bool.false_and])
    clear hl h
    go_enter Tryz.func62, Tryz.ntmps62
    go_wp2
    go_ret
    rw [HR.out]
    exact ⟨rfl, rfl⟩

/-- The number of the digits from k on. -/
def xnumF (s : ByteArray) : Nat → Nat → Int → Int
  | 0, _, v => v
  | n + 1, k, v => if xdigI (bAt s k) < 0 then -1 else xnumF s n (k + 1) (v * 16 + xdigI (bAt s k))
def xnumI (s : ByteArray) (i e least most : Nat) : Int := if e - i < least ∨ most < e - i ∨ s.size < e then -1 else xnumF s (e - i) i 0
theorem xdig_bd (c : Int) : -1 ≤ xdigI c ∧ xdigI c ≤ 15 := by unfold xdigI; repeat' split <;> omega
set_option maxRecDepth 100000 in
theorem xnumber_any (s : ByteArray) (i e least most : Nat) (w : World) (hs : s.size ≤ 140737488351232) (hi : i ≤ e) (he : e ≤ s.size + 10) (hl : least ≤ 6) (hm : most ≤ 6) :
    Calls Tryz.prog 85 #[.string s, .int .i64 (i : Nat), .int .i64 (e : Nat), .int .i64 (least : Nat), .int .i64 (most : Nat)] w fun r w' => r = .returned (.int .i64 (xnumI s i e least most)) ∧ w = w' := by
  have hw : IntKind.i64.wrap ((e : Int) - (i : Int)) = (e : Int) - i := IntWalk.i64_in _ (by omega)
  by_cases h1 : e - i < least
  · have g1 : (e : Int) - (i : Int) < (least : Nat) := by omega
    have HR : Hid (xnumI s i e least most = -1) := Lib.hid (by unfold xnumI; rw [if_pos (.inl h1)])
    clear h1
    go_enter Tryz.func85, Tryz.ntmps85
    go_wp2
    go_ret
    exact ⟨by rw [HR.out]; rfl, rfl⟩
  have g1 : ¬ (e : Int) - (i : Int) < (least : Nat) := by omega
  by_cases h2 : most < e - i
  · have g2 : ((most : Nat) : Int) < (e : Int) - (i : Int) := by omega
    have HR : Hid (xnumI s i e least most = -1) := Lib.hid (by unfold xnumI; rw [if_pos (.inr (.inl h2))])
    clear h1 h2
    go_enter Tryz.func85, Tryz.ntmps85
    go_wp2
    go_ret
    exact ⟨by rw [HR.out]; rfl, rfl⟩
  have g2 : ¬ ((most : Nat) : Int) < (e : Int) - (i : Int) := by omega
  by_cases h3 : s.size < e
  · have g3 : (s.size : Int) < (e : Nat) := by omega
    have HR : Hid (xnumI s i e least most = -1) := Lib.hid (by unfold xnumI; rw [if_pos (.inr (.inr h3))])
    clear h1 h2 h3
    go_enter Tryz.func85, Tryz.ntmps85
    go_wp2
    go_ret
    exact ⟨by rw [HR.out]; rfl, rfl⟩
  have g3 : ¬ (s.size : Int) < (e : Nat) := by omega
  obtain ⟨R, hR⟩ : ∃ R, xnumI s i e least most = R := ⟨_, rfl⟩
  have hR2 : xnumF s (e - i) i 0 = R := by rw [← hR]; unfold xnumI; rw [if_neg (by omega)]
  rw [hR]
  have HR := Lib.hid hR2
  clear hR hR2 h1
  go_enter Tryz.func85, Tryz.ntmps85
  go_wp2
  clear hw g1 g2 g3
  go_loop [11, 12] (fun u v => ∃ (k n : Nat) (x : Int), k + n = e ∧ i ≤ k ∧ v = .int .i64 k ∧ u = .int .i64 x ∧ 0 ≤ x ∧ (∀ m, k = i + m → x < 16 ^ m) ∧ xnumF s n k x = R) (fun _ v => e - (RowKit.intOf v).toNat)
  case atStart =>
    have h0 : ∀ m, i = i + m → (0 : Int) < 16 ^ m := fun m hm => by
      obtain rfl : m = 0 := by omega
      decide
    exact ⟨i, e - i, 0, by omega, Nat.le_refl _, rfl, rfl, by omega, h0, HR.out⟩
  case round =>
    obtain ⟨k, n, x, hkn, hik, rfl, rfl, hx0, hxm, hc⟩ := hrel
    by_cases hlt : k < e
    · have hks : k < s.size := by omega
      have HI : ∀ w, (Instr.index 9 (.string s) (.int .i64 (k : Nat))).run Tryz.prog w = .ok (.int .u8 (bAt s k)) w := fun w => run_bAt s k hks w
      have l0 := bAt_lo s k
      have u0 := bAt_hi s k
      have CD := Lib.hid (fun V => xdigit_any (bAt s k) V l0 u0)
      obtain ⟨n, rfl⟩ : ∃ m, n = m + 1 := ⟨n - 1, by omega⟩
      rw [xnumF] at hc
      obtain ⟨db, du⟩ := xdig_bd (bAt s k)
      have hx6 : x < 16 ^ 6 := by
        obtain ⟨m, rfl⟩ : ∃ m, k = i + m := ⟨k - i, by omega⟩
        have h := hxm m rfl
        have h2 : (16 : Nat) ^ m ≤ 16 ^ 6 := Nat.pow_le_pow_right (by decide) (by omega)
        have h3 : ((16 ^ m : Nat) : Int) = (16 : Int) ^ m := by rw [Int.natCast_pow]; rfl
        omega
      have hstep : ∀ d : Int, 0 ≤ d → d ≤ 15 → ∀ m, k + 1 = i + m → x * 16 + d < 16 ^ m := fun d d0 d1 m hm => by
        obtain ⟨m', rfl⟩ : ∃ m', m = m' + 1 := ⟨m - 1, by omega⟩
        have h := hxm m' (by omega)
        rw [Int.pow_succ]
        omega
      generalize xdigI (bAt s k) = d at *
      generalize bAt s k = b at *
      have hlt' : (k : Int) < e := by omega
      by_cases hd : d < 0
      · rw [if_pos hd] at hc
        have HT := Lib.hid hc
        clear hc hxm hstep hx6 hkn h2 h3
        go_wp2_with fail
        refine (CD.out _).mono ?_
        rintro r w1 ⟨rfl, rfl⟩
        go_wp2
        go_ret
        exact ⟨by rw [← HT.out]; rfl, rfl⟩
      · rw [if_neg hd] at hc
        have HT := Lib.hid (And.intro hc (hstep d (by omega) du))
        have w1' : IntKind.i64.wrap (x * 16) = x * 16 := IntWalk.i64_in _ (by omega)
        have w2' : IntKind.i64.wrap (x * 16 + d) = x * 16 + d := IntWalk.i64_in _ (by omega)
        have hx2 : 0 ≤ x * 16 + d := by omega
        have HM := Lib.hid hkn
        clear hc hxm hstep hkn h2 h3 hx6
        go_wp2_with fail
        refine (CD.out _).mono ?_
        rintro r w1 ⟨rfl, rfl⟩
        go_wp2
        go_round
        case rel => exact ⟨k + 1, n, x * 16 + d, by have := HM.out; omega, by omega, by go_num, rfl, hx2, HT.out.2, HT.out.1⟩
        case measure => simp [RowKit.intOf]; omega
    · obtain rfl : n = 0 := by omega
      have HT := Lib.hid hc
      have hge : ¬ (k : Int) < e := by omega
      clear hc hxm h2 h3 hkn
      go_wp2
      go_ret
      exact ⟨by rw [← HT.out]; rfl, rfl⟩

set_option maxRecDepth 100000 in
theorem xpast_any (s : ByteArray) (i : Nat) (w : World) (hs : s.size ≤ 140737488351232) (hi : i ≤ s.size) :
    Calls Tryz.prog 23 #[.string s, .int .i64 (i : Nat)] w fun e w' => e = .returned (.int .i64 (xpastF s (s.size + 1) i : Nat)) ∧ w = w' := by
  obtain ⟨R, hR⟩ : ∃ R, xpastF s (s.size + 1) i = R := ⟨_, rfl⟩
  rw [hR]
  have HR := Lib.hid hR
  clear hR
  go_enter Tryz.func23, Tryz.ntmps23
  go_wp2
  go_loop [1] (fun v => ∃ k f : Nat, k ≤ s.size ∧ s.size + 1 ≤ k + f ∧ v = .int .i64 k ∧ xpastF s f k = R) (fun v => s.size - (RowKit.intOf v).toNat)
  case atStart => exact ⟨i, s.size + 1, hi, by omega, rfl, HR.out⟩
  case round =>
    obtain ⟨k, f, hk, hf, rfl, hc⟩ := hrel
    obtain ⟨f, rfl⟩ : ∃ m, f = m + 1 := ⟨f - 1, by omega⟩
    rw [xpastF] at hc
    by_cases hlt : k < s.size
    · rw [if_pos hlt] at hc
      have HI : ∀ w, (Instr.index 9 (.string s) (.int .i64 (k : Nat))).run Tryz.prog w = .ok (.int .u8 (bAt s k)) w := fun w => run_bAt s k hlt w
      have hlt' : (k : Int) < s.size := by omega
      have CB := Lib.hid (fun V => xBlank_any (bAt s k) V)
      have CF := Lib.hid (fun V => xfind_any s k 10 V hs (by omega))
      rw [← bAt_B] at hc
      by_cases hb : isBlk (bAt s k) = true
      · rw [if_pos hb] at hc
        rw [hb] at CB
        have HT := Lib.hid hc
        generalize bAt s k = b at *
        clear hc hb
        go_wp2_with fail
        refine (CB.out _).mono ?_
        rintro r w1 ⟨rfl, rfl⟩
        go_wp2
        go_round
        case rel => exact ⟨k + 1, f, by omega, by omega, by go_num, HT.out⟩
        case measure => simp [RowKit.intOf]; omega
      · rw [if_neg hb] at hc
        have hb' : isBlk (bAt s k) = false := by simpa using hb
        rw [hb'] at CB
        by_cases h35 : B s k = 35
        · rw [if_pos h35] at hc
          have hbb : bAt s k = 35 := by rw [bAt_B, h35]; rfl
          rw [hbb] at HI CB
          rcases xfindI_spec s 10 k hk with ⟨e1, h1⟩ | ⟨j, e1, h1, h2, h3, h4⟩
          · rw [if_pos (by rw [e1]; decide)] at hc
            rw [show xfindI s 10 k = -1 from e1] at CF
            have HT := Lib.hid hc
            clear hc hb hb' h35 hbb e1 h1
            go_wp2_with fail
            refine (CB.out _).mono ?_
            rintro r w1 ⟨rfl, rfl⟩
            go_wp2_with fail
            refine (CF.out _).mono ?_
            rintro r w1 ⟨rfl, rfl⟩
            go_wp2
            go_ret
            rw [← HT.out]; exact ⟨rfl, rfl⟩
          · rw [e1, if_neg (by omega), Int.toNat_natCast] at hc
            rw [show xfindI s 10 k = (j : Nat) from e1] at CF
            have hkj : k < j := by
              rcases Nat.lt_or_ge k j with h | h
              · exact h
              · obtain rfl : j = k := by omega
                omega
            have HT := Lib.hid hc
            have hj0 : ¬ (j : Int) < 0 := by omega
            clear hc hb hb' h35 hbb e1 h1 h3 h4
            go_wp2_with fail
            refine (CB.out _).mono ?_
            rintro r w1 ⟨rfl, rfl⟩
            go_wp2_with fail
            refine (CF.out _).mono ?_
            rintro r w1 ⟨rfl, rfl⟩
            go_wp2
            go_round
            case rel => exact ⟨j, f, by omega, by omega, rfl, HT.out⟩
            case measure => simp [RowKit.intOf]; omega
        · rw [if_neg h35] at hc
          have hbb : (bAt s k == 35) = false := by rw [bAt_B]; simp; omega
          have HT := Lib.hid hc
          generalize bAt s k = b at *
          clear hc hb hb' h35
          go_wp2_with fail
          refine (CB.out _).mono ?_
          rintro r w1 ⟨rfl, rfl⟩
          go_wp2
          go_ret
          rw [← HT.out]; exact ⟨rfl, rfl⟩
    · rw [if_neg hlt] at hc
      have HT := Lib.hid hc
      have hge : ¬ (k : Int) < s.size := by omega
      clear hc
      go_wp2
      go_ret
      rw [← HT.out]; exact ⟨rfl, rfl⟩

set_option maxRecDepth 100000 in
theorem xplace_any (s : ByteArray) (n l c at_ : Nat) (w : World) (hs : s.size ≤ 140737488351232) (hp : plN s n = (l, c, at_)) :
    Calls Tryz.prog 24 #[.string s, .int .i64 (at_ : Nat)] w fun e w' => e = .returned (.tuple #[.int .i64 (l : Nat), .int .i64 (c : Nat)]) ∧ w = w' := by
  have HP := Lib.hid hp
  have haz : at_ ≤ s.size := by have := plN_le s n; rw [hp] at this; exact this
  clear hp
  go_enter Tryz.func24, Tryz.ntmps24
  go_wp2
  go_loop [6, 7, 8] (fun a b v => ∃ m l' c' p : Nat, plN s m = (l', c', p) ∧ p ≤ at_ ∧ a = .int .i64 l' ∧ b = .int .i64 c' ∧ v = .int .i64 p) (fun _ _ v => at_ - (RowKit.intOf v).toNat)
  case atStart => exact ⟨0, 1, 1, 0, rfl, Nat.zero_le _, rfl, rfl, rfl⟩
  case round =>
    obtain ⟨m, l', c', p, hm, hpa, rfl, rfl, rfl⟩ := hrel
    have hcb : c' ≤ p + 1 := by have := plN_col s m; rw [hm] at this; exact this
    have hlb : l' ≤ p + 1 := by
      have h1 := plN_line s m
      rw [hm] at h1
      have : nlc s p ≤ p := by unfold nlc; exact Nat.le_trans List.count_le_length (by rw [List.length_take]; exact Nat.min_le_left _ _)
      simp only at h1; omega
    by_cases hlt : p < at_
    · have hps : p < s.size := by omega
      have hnx : p + (Utf8.decode s p).2 ≤ at_ := by
        have := plN_next s (n := m) (m := n) (by rw [hm, HP.out]; exact hlt)
        rw [hm, HP.out] at this
        exact this
      have hstep := plN_step s hm hps
      have CN := Lib.hid (fun V => refNext_any s p V (by omega))
      rw [ptP_in s p hps, ptU_wide_eq] at CN
      have hw := (dec_width s p hps).1
      have h10 : (((ptU s p).1 : Nat) : Int) = 10 ↔ (Utf8.decode s p).1 = 10 := by
        unfold ptU
        split
        · rename_i hd
          rw [hd]
          constructor <;> (intro h; simp only at h; omega)
        · omega
      have hlt' : (p : Int) < at_ := by omega
      generalize (ptU s p).1 = x at *
      generalize (Utf8.decode s p).1 = r at *
      generalize (Utf8.decode s p).2 = v at *
      by_cases hr : r = 10
      · rw [if_pos hr] at hstep
        have hx := h10.2 hr
        have hx' : x = 10 := by omega
        subst hx'
        have HS := Lib.hid hstep
        clear hstep h10 hr hx hm
        go_wp2_with fail
        refine (CN.out _).mono ?_
        rintro r w1 ⟨rfl, rfl⟩
        go_wp2
        go_round
        case rel => exact ⟨m + 1, l' + 1, 1, p + v, HS.out, hnx, by go_num, rfl, by go_num⟩
        case measure => simp [RowKit.intOf]; omega
      · rw [if_neg hr] at hstep
        have hx : ((x : Int) == 10) = false := by simp; exact fun h => hr (h10.1 h)
        have HS := Lib.hid hstep
        clear hstep h10 hr hm
        go_wp2_with fail
        refine (CN.out _).mono ?_
        rintro r w1 ⟨rfl, rfl⟩
        go_wp2
        go_round
        case rel => exact ⟨m + 1, l', c' + 1, p + v, HS.out, hnx, rfl, by go_num, by go_num⟩
        case measure => simp [RowKit.intOf]; omega
    · obtain rfl : p = at_ := by omega
      have hone := plN_one s (n := m) (m := n) (by rw [hm, HP.out])
      rw [hm, HP.out] at hone
      obtain ⟨rfl, rfl⟩ : l' = l ∧ c' = c := by injection hone with h1 h2; injection h2 with h2 h3; exact ⟨h1, h2⟩
      have hge : ¬ (p : Int) < p := by omega
      clear hm hone
      go_wp2
      go_ret2
      exact ⟨rfl, rfl⟩

/-- How many lines the bytes ahead of i begin or end. -/
def xlinN (s : ByteArray) : Nat → Nat
  | 0 => 0
  | i + 1 => xlinN s i + if B s i = 10 ∨ i + 1 = s.size then 1 else 0
theorem xlin_le (s : ByteArray) : ∀ i, xlinN s i ≤ i
  | 0 => Nat.le_refl _
  | i + 1 => by rw [xlinN]; have := xlin_le s i; split <;> omega
set_option maxRecDepth 100000 in
theorem xlines_any (s : ByteArray) (w : World) (hs : s.size ≤ 140737488351232) :
    Calls Tryz.prog 21 #[.string s] w fun e w' => e = .returned (.int .i64 (xlinN s s.size : Nat)) ∧ w = w' := by
  go_enter Tryz.func21, Tryz.ntmps21
  go_wp2
  go_loop [3, 4] (fun u v => ∃ k n : Nat, k ≤ s.size ∧ n = xlinN s k ∧ v = .int .i64 k ∧ u = .int .i64 n) (fun _ v => s.size - (RowKit.intOf v).toNat)
  case atStart => exact ⟨0, 0, Nat.zero_le _, rfl, rfl, rfl⟩
  case round =>
    obtain ⟨k, n, hk, hn, rfl, rfl⟩ := hrel
    have hnk : n ≤ k := by rw [hn]; exact xlin_le s k
    by_cases hlt : k < s.size
    · have HI : ∀ w, (Instr.index 9 (.string s) (.int .i64 (k : Nat))).run Tryz.prog w = .ok (.int .u8 (bAt s k)) w := fun w => run_bAt s k hlt w
      have hlt' : (k : Int) < s.size := by omega
      have hstep : xlinN s (k + 1) = n + if B s k = 10 ∨ k + 1 = s.size then 1 else 0 := by rw [xlinN, hn]
      have hw1 : IntKind.i64.wrap ((k : Int) + 1) = (k : Int) + 1 := IntWalk.i64_in _ (by omega)
      by_cases h10 : B s k = 10
      · rw [if_pos (.inl h10)] at hstep
        have hb : bAt s k = 10 := by rw [bAt_B, h10]; rfl
        rw [hb] at HI
        have HS := Lib.hid hstep
        clear hstep h10 hb hn
        go_wp2
        go_round
        case rel => exact ⟨k + 1, n + 1, by omega, HS.out.symm, by go_num, by go_num⟩
        case measure => simp [RowKit.intOf]; omega
      · have hb : (bAt s k == 10) = false := by rw [bAt_B]; simp; omega
        generalize bAt s k = b at *
        by_cases he : k + 1 = s.size
        · rw [if_pos (.inr he)] at hstep
          have he' : ((k : Int) + 1 == (s.size : Int)) = true := by simp; omega
          have HS := Lib.hid hstep
          clear hstep h10 hn he
          go_wp2
          go_round
          case rel => exact ⟨k + 1, n + 1, by omega, HS.out.symm, by go_num, by go_num⟩
          case measure => simp [RowKit.intOf]; omega
        · rw [if_neg (by omega)] at hstep
          have he' : ((k : Int) + 1 == (s.size : Int)) = false := by simp; omega
          have HS := Lib.hid hstep
          clear hstep h10 hn he
          go_wp2
          go_round
          case rel => exact ⟨k + 1, n, by omega, by rw [HS.out]; rfl, by go_num, rfl⟩
          case measure => simp [RowKit.intOf]; omega
    · obtain rfl : k = s.size := by omega
      subst hn
      have hge : ¬ (s.size : Int) < s.size := by omega
      go_wp2
      go_ret
      exact ⟨rfl, rfl⟩
end Go.Proofs.YtlfdpdlhppgakaaGreatDoor
/- What the scanner's run makes of a text; a token. No run in this text. -/
namespace Go.Proofs.YtlfdpdlhppgakaaGreatDoor
open Go Go.RowKit Go.Kt Go.Kt.Rg Go.Shelf Go.Lib

/-- What stands between two single quotes, and the place behind it. -/
def xquoF (s : ByteArray) : Nat → Nat → List UInt8 → Option (List UInt8 × Nat)
  | 0, _, _ => none
  | f + 1, k, out => if k < s.size then (if B s k = 39 then (if B s (k + 1) = 39 then xquoF s f (k + 2) (out ++ [39]) else some (out, k + 1)) else xquoF s f (k + 1) (out ++ [UInt8.ofNat (B s k)])) else none
def xquoV (s : ByteArray) (i : Nat) : Option (List UInt8 × Nat) := xquoF s s.size (i + 1) []
inductive TxR where
  | ok (x : List UInt8) (next : Nat)
  | bad (no i : Nat)
def xtextF (s : ByteArray) : Nat → Nat → List UInt8 → TxR
  | 0, i, out => .ok out i
  | f + 1, i, out => if i < s.size then
      (if B s i = 39 then (match xquoV s i with | some (x, k) => xtextF s f k (out ++ x) | none => .bad 10 i)
       else if B s i = 92 then (match unescV (s.extract i s.size) with | some (x, k) => xtextF s f (i + k) (out ++ x) | none => .bad 9 i)
       else if isBlk (B s i : Nat) = true ∨ isSgs (B s i : Nat) = true then .ok out i
       else xtextF s f (i + unitW s i) (out ++ seg s i (i + unitW s i)))
    else .ok out i
def xtextV (s : ByteArray) (i : Nat) : TxR := xtextF s s.size i []

theorem xquo_skip (s : ByteArray) : ∀ (w f k : Nat) (out : List UInt8), (∀ j, j < w → B s (k + j) ≠ 39) → k + w ≤ s.size → xquoF s (f + w) k out = xquoF s f (k + w) (out ++ seg s k (k + w)) := by
  intro w
  induction w with
  | zero => intro f k out _ _; rw [Nat.add_zero, Nat.add_zero, seg_none, List.append_nil]
  | succ w ih =>
    intro f k out h hk
    have h0 := h 0 (by omega)
    rw [Nat.add_zero] at h0
    rw [show f + (w + 1) = (f + w) + 1 by omega, xquoF, if_pos (by omega), if_neg h0, ih f (k + 1) _ (fun j hj => by have := h (j + 1) (by omega); rw [show k + 1 + j = k + (j + 1) by omega]; exact this) (by omega), show k + 1 + w = k + (w + 1) by omega]
    congr 1
    have h1 : seg s k (k + (w + 1)) = seg s k (k + 1) ++ seg s (k + 1) (k + (w + 1)) := by
      rw [seg_eq, seg_eq, seg_eq, List.drop_take, List.drop_take, List.drop_take, show k + (w + 1) - k = 1 + w by omega, show k + 1 - k = 1 by omega, show k + (w + 1) - (k + 1) = w by omega, List.take_add, List.drop_drop]
    rw [h1, one_byte (by omega), List.append_assoc]
theorem xquo_end (s : ByteArray) : ∀ (f k : Nat) (out : List UInt8), ¬ k < s.size → xquoF s f k out = none := by
  intro f k out h
  cases f with
  | zero => rfl
  | succ f => rw [xquoF, if_neg h]
/-- A unit's bytes: none of them is a quote, if its number isn't one. -/
theorem unit_no39 {s : ByteArray} {k : Nat} (hk : k < s.size) (h : B s k ≠ 39) : ∀ j, j < (Utf8.decode s k).2 → B s (k + j) ≠ 39 := by
  intro j hj
  by_cases hw : (Utf8.decode s k).2 = 1
  · obtain rfl : j = 0 := by omega
    exact h
  · rcases Nat.eq_zero_or_pos j with rfl | h0
    · exact h
    · intro h39
      have h3 := (dec_width s k hk).2.2
      have := asc_fit (s := s) (i := k) (j := k + j) (by omega) (by omega) (by omega)
      omega

section
variable {s : ByteArray} {i f : Nat} {c : Sc} {T : List Tk} {x : List UInt8} {fr : Pl}
def txO (s : ByteArray) (c1 : Sc) (r : Int) : TR := match plainS s c1 r with
  | .took c => .ok c
  | .bad no p => .bad no p
  | .left c => betweenS s (addT c 1 c.text) r
/-- The scanner stands within a text, ahead of a piece. -/
def TX (s : ByteArray) (i : Nat) (c : Sc) (fr : Pl) (T : List Tk) (x : List UInt8) : Prop :=
  ∃ c1 : Sc, c1.here = plNext s c.here i ∧ c1.from = fr ∧ c1.toks = T ∧ c1.text = x ∧ tokenS s { c with here := plNext s c.here i } (rU s i : Nat) = txO s c1 (rU s i : Nat)
theorem token_tx {r : Int} (h4 : 4 ≤ c.st) (hp : pieceS s c r = plainS s c r) : tokenS s c r = txO s c r := by
  unfold tokenS
  rw [if_neg (by omega), if_neg (by omega), if_neg (by omega), if_neg (by omega)]
  unfold textS txO
  rw [hp]
  cases plainS s c r <;> rfl
theorem TX.of4 (h : c.st = 4) : TX s i c c.from c.toks c.text :=
  ⟨{ c with here := plNext s c.here i }, rfl, rfl, rfl, rfl, token_tx (by simp [h]) (by unfold pieceS; simp [h])⟩
theorem TX.of6 (h : c.st = 6) (hr : rU s i ≠ 39) : TX s i c c.from c.toks c.text :=
  ⟨{ c with here := plNext s c.here i }, rfl, rfl, rfl, rfl, token_tx (by simp [h]) (by
    unfold pieceS
    rw [if_neg (by simp [h]), if_pos (by simp [h])]
    unfold closingS
    rw [if_neg (by omega)])⟩
theorem TX.of7 (h : c.st = 7) (hb : c.behind ≤ i) : TX s i c c.from c.toks c.text :=
  ⟨{ c with here := plNext s c.here i }, rfl, rfl, rfl, rfl, token_tx (by simp [h]) (by
    unfold pieceS
    rw [if_neg (by simp [h]), if_neg (by simp [h]), if_pos (by simp [h])]
    unfold escapeS
    rw [if_pos (by simp only [(plNext_ix s c.here i).1]; exact hb)])⟩
theorem TX.cast {y : List UInt8} {T' : List Tk} {fr' : Pl} (h : TX s i c fr T x) (h1 : fr = fr') (h2 : T = T') (h3 : x = y) : TX s i c fr' T' y := by subst h1 h2 h3; exact h

/-- Within quotes. -/
theorem quo_run {x0 : List UInt8} {qp : Pl} : ∀ (g k : Nat) (out : List UInt8) (c : Sc) (f : Nat), s.size ≤ k + g → Ahead s k c → c.st = 5 → c.from = fr → c.toks = T → c.text = x0 ++ out → c.quote = qp → Fu s k f →
    match xquoF s g k out with
    | some (y, next) => next ≤ s.size ∧ k < next ∧ ∃ c' f', Ahead s next c' ∧ TX s next c' fr T (x0 ++ y) ∧ Fu s next f' ∧ runS s f k c = runS s f' next c'
    | none => finS (runS s f k c) = .bad 10 qp.1 qp.2.1 := by
  intro g
  induction g using Nat.strongRecOn with
  | ind g ih =>
    intro k out c f hg ha h5 hfr hT hx hq hf
    have hle := ha.le
    by_cases hk : k < s.size
    · obtain ⟨g, rfl⟩ : ∃ g', g = g' + 1 := ⟨g - 1, by omega⟩
      by_cases h39 : B s k = 39
      · have hr : rU s k = 39 := (rU_is hk (by decide)).2 h39
        have ht : tokenS s { c with here := plNext s c.here k } (rU s k : Nat) = .ok { c with here := plNext s c.here k, st := 6 } := by
          rw [hr]
          unfold tokenS
          rw [if_neg (by simp [h5]), if_neg (by simp [h5]), if_neg (by simp [h5]), if_neg (by simp [h5])]
          unfold textS pieceS
          rw [if_pos (by simp [h5])]
          rfl
        obtain ⟨f', e, ha2, hf2, _⟩ := run_step ha hk hf ht
        have hw : (Utf8.decode s k).2 = 1 := by rw [dec_lo s k (by omega)]
        rw [hw] at e ha2 hf2
        rw [xquoF, if_pos hk, if_pos h39]
        by_cases h2 : B s (k + 1) = 39
        · rw [if_pos h2]
          have hk1 : k + 1 < s.size := B_in (by omega)
          have hr1 : rU s (k + 1) = 39 := (rU_is hk1 (by decide)).2 h2
          obtain ⟨cx, hcx⟩ : ∃ cx : Sc, cx = { c with here := plNext s c.here k, st := 6 } := ⟨_, rfl⟩
          rw [← hcx] at e ha2
          have ht1 : tokenS s { cx with here := plNext s cx.here (k + 1) } (rU s (k + 1) : Nat) = .ok { cx with here := plNext s cx.here (k + 1), st := 5, text := cx.text ++ [39] } := by
            rw [hr1]
            unfold tokenS
            rw [if_neg (by simp [hcx]), if_neg (by simp [hcx]), if_neg (by simp [hcx]), if_neg (by simp [hcx])]
            unfold textS pieceS
            rw [if_neg (by simp [hcx]), if_pos (by simp [hcx])]
            rfl
          obtain ⟨f2, e2, ha3, hf3, _⟩ := run_step ha2 hk1 hf2 ht1
          have hw1 : (Utf8.decode s (k + 1)).2 = 1 := by rw [dec_lo s (k + 1) (by omega)]
          rw [hw1] at e2 ha3 hf3
          have := ih g (by omega) (k + 2) (out ++ [39]) _ f2 (by omega) ha3 rfl (by rw [hcx]; exact hfr) (by rw [hcx]; exact hT) (by rw [hcx]; simp only [hx, List.append_assoc]) (by rw [hcx]; exact hq) hf3
          rw [e, e2]
          cases hX : xquoF s g (k + 2) (out ++ [39]) with
          | none => rw [hX] at this; exact this
          | some r =>
            obtain ⟨y, next⟩ := r
            rw [hX] at this
            obtain ⟨q1, q2, q3⟩ := this
            exact ⟨q1, by omega, q3⟩
        · rw [if_neg h2]
          refine ⟨by omega, by omega, _, f', ha2, ?_, hf2, e⟩
          refine (TX.of6 (s := s) (i := k + 1) (c := { c with here := plNext s c.here k, st := 6 }) rfl ?_).cast hfr hT hx
          by_cases hk1 : k + 1 < s.size
          · exact fun h => h2 ((rU_is hk1 (by decide)).1 h)
          · rw [rU_out hk1]; decide
      · have hr : rU s k ≠ 39 := fun h => h39 ((rU_is hk (by decide)).1 h)
        have hU : unitL s k = seg s k (k + (Utf8.decode s k).2) := by unfold unitL; rw [unitW_dec hk]; rfl
        have ht : tokenS s { c with here := plNext s c.here k } (rU s k : Nat) = .ok { c with here := plNext s c.here k, text := c.text ++ seg s k (k + (Utf8.decode s k).2) } := by
          unfold tokenS
          rw [if_neg (by simp [h5]), if_neg (by simp [h5]), if_neg (by simp [h5]), if_neg (by simp [h5])]
          unfold textS pieceS
          rw [if_pos (by simp [h5])]
          unfold quotedS
          rw [if_neg (by omega)]
          simp only [(plNext_ix s c.here k).1, hU]
        obtain ⟨f', e, ha2, hf2, _⟩ := run_step ha hk hf ht
        obtain ⟨w1, w2, w3⟩ := dec_width s k hk
        have hsk := xquo_skip s (Utf8.decode s k).2 (g + 1 - (Utf8.decode s k).2) k out (unit_no39 hk h39) w3
        rw [show g + 1 - (Utf8.decode s k).2 + (Utf8.decode s k).2 = g + 1 by omega] at hsk
        rw [hsk]
        have := ih (g + 1 - (Utf8.decode s k).2) (by omega) (k + (Utf8.decode s k).2) (out ++ seg s k (k + (Utf8.decode s k).2)) _ f' (by omega) ha2 h5 hfr hT (by simp only [hx, List.append_assoc]) hq hf2
        rw [e]
        cases hX : xquoF s (g + 1 - (Utf8.decode s k).2) (k + (Utf8.decode s k).2) (out ++ seg s k (k + (Utf8.decode s k).2)) with
        | none => rw [hX] at this; exact this
        | some r =>
          obtain ⟨y, next⟩ := r
          rw [hX] at this
          obtain ⟨q1, q2, q3⟩ := this
          exact ⟨q1, by omega, q3⟩
    · obtain rfl : k = s.size := by omega
      rw [xquo_end s g _ out hk]
      have ht : tokenS s { c with here := plNext s c.here s.size } (10 : Nat) = .ok { c with here := plNext s c.here s.size, text := c.text ++ unitL s s.size } := by
        unfold tokenS
        rw [if_neg (by simp [h5]), if_neg (by simp [h5]), if_neg (by simp [h5]), if_neg (by simp [h5])]
        unfold textS pieceS
        rw [if_pos (by simp [h5])]
        unfold quotedS
        rw [if_neg (by decide)]
        simp only [(plNext_ix s c.here s.size).1]
      show finS (runS s f s.size c) = _
      rw [run_fin hf ht]
      show endS _ = _
      unfold endS
      rw [if_neg (by simp [h5]), if_pos (by simp [h5])]
      simp only [hq]

/-- A byte at which a unit begins, or the end. -/
def Bdy (s : ByteArray) (i : Nat) : Prop := ∃ n, (plN s n).2.2 = i
theorem Bdy.next (h : Bdy s i) (hi : i < s.size) : Bdy s (i + (Utf8.decode s i).2) := by
  obtain ⟨n, hn⟩ := h
  exact ⟨n + 1, by rw [plN_at, hn, if_pos hi]⟩
theorem Bdy.asc (h : Bdy s i) (hi : i < s.size) (hb : B s i < 128) : Bdy s (i + 1) := by
  have := h.next hi
  rwa [dec_lo s i hb] at this
theorem Bdy.ascs (h : Bdy s i) : ∀ n, i + n ≤ s.size → (∀ j, j < n → B s (i + j) < 128) → Bdy s (i + n)
  | 0, _, _ => h
  | n + 1, h1, h2 => (Bdy.ascs h n (by omega) fun j hj => h2 j (by omega)).asc (by omega) (h2 n (by omega))
theorem Ahead.bdy (h : Ahead s i c) : Bdy s i := by
  obtain ⟨⟨n, e1⟩, e2⟩ := h.pl
  exact ⟨n, by rw [e1]; exact e2⟩
theorem digV_asc {b : Nat} {d : Nat} (hb : b < 256) (h : digV b = some d) : b < 128 := by
  revert h
  have : ∀ b, b < 256 → ∀ d, digV b = some d → b < 128 := by
    intro b hb d h
    unfold digV at h
    split at h
    · omega
    · split at h
      · rename_i h2
        have : b ≤ (b ||| 32) := Nat.left_le_or
        omega
      · cases h
  exact this b hb d
theorem puF_asc {mx : Nat} : ∀ (l : List UInt8) (n m : Nat), puF mx n l = some m → ∀ b ∈ l, b.toNat < 128
  | [], _, _, _, _, h => by cases h
  | a :: l, n, m, h, b, hb => by
    rw [puF] at h
    cases hd : digV a.toNat with
    | none => rw [hd] at h; cases h
    | some d =>
      rw [hd] at h
      simp only at h
      split at h
      · cases h
      · split at h
        · cases h
        · rcases List.mem_cons.1 hb with rfl | hb
          · exact digV_asc b.toNat_lt hd
          · exact puF_asc l _ m h b hb
theorem puV_asc {mx : Nat} {l : List UInt8} {m : Nat} (h : puV mx l = some m) : ∀ b ∈ l, b.toNat < 128 := by
  unfold puV at h
  split at h
  · cases h
  · exact puF_asc l 0 m h
/-- The bytes of a rest. -/
theorem rest_B {s : ByteArray} (i : Nat) (hi : i ≤ s.size) (j : Nat) : B (s.extract i s.size) j = B s (i + j) := by
  have h : (s.extract i s.size).data.toList = s.data.toList.drop i := by
    have : (s.extract i s.size).data.toList = seg s i s.size := rfl
    rw [this, seg_eq, List.take_of_length_le (by rw [← Lib.size_eq]; omega)]
  unfold B
  rw [h, List.getD_eq_getElem?_getD, List.getElem?_drop, ← List.getD_eq_getElem?_getD]
theorem rest_L {s : ByteArray} (i : Nat) : (s.extract i s.size).data.toList = s.data.toList.drop i := by
  have : (s.extract i s.size).data.toList = seg s i s.size := rfl
  rw [this, seg_eq, List.take_of_length_le (by rw [← Lib.size_eq]; omega)]
theorem rest_z {s : ByteArray} (i : Nat) : (s.extract i s.size).size = s.size - i := by rw [ByteArray.size_extract]; omega
theorem rest_dec {s : ByteArray} (i : Nat) (hi : i ≤ s.size) (j : Nat) : Utf8.decode (s.extract i s.size) j = Utf8.decode s (i + j) := by
  rw [decode_B, decode_B, rest_z, rest_B i hi, rest_B i hi, rest_B i hi, rest_B i hi, show s.size - i - j = s.size - (i + j) by omega]
  rfl
theorem opn_B {X : ByteArray} (h : opn X.data.toList = true) : B X 0 = 92 ∧ B X 1 = 117 ∧ B X 2 = 123 ∧ 3 ≤ X.size := by
  unfold opn at h
  rw [List.isPrefixOf_iff_prefix] at h
  obtain ⟨t, ht⟩ := h
  have hz : X.size = 3 + t.length := by rw [Lib.size_eq, ← ht]; simp; omega
  refine ⟨?_, ?_, ?_, by omega⟩ <;> (unfold B; rw [← ht]; rfl)
set_option maxHeartbeats 1000000 in
/-- An escape ends where a unit begins. -/
theorem esc_bdy (hb : Bdy s i) (hi : i < s.size) (h92 : B s i = 92) {t : List UInt8} {k : Nat} (hu : unescV (s.extract i s.size) = some (t, k)) : Bdy s (i + k) ∧ 2 ≤ k ∧ i + k ≤ s.size := by
  have hz := rest_z (s := s) i
  have hk2 := unesc_ge hu
  have hkl := unesc_le (by omega) hu
  refine ⟨?_, hk2, by omega⟩
  have hB : ∀ j, B (s.extract i s.size) j = B s (i + j) := rest_B i (by omega)
  unfold unescV at hu
  split at hu
  · cases hu
  rename_i hW
  split at hu
  · rename_i h117
    unfold chrV at hu
    cases hp : puV 16777215 (upB (rst (s.extract i s.size).data.toList)) with
    | none => rw [hp] at hu; cases hu
    | some n =>
      rw [hp] at hu
      unfold chrO at hu
      simp only at hu
      split at hu
      · rename_i hc
        injection hu with hu
        injection hu with h1 h2
        simp only [Bool.and_eq_true] at hc
        obtain ⟨⟨⟨ho, hcl⟩, _⟩, _⟩ := hc
        obtain ⟨b0, b1, b2, b3⟩ := opn_B ho
        have hr : rst (s.extract i s.size).data.toList = (s.extract i s.size).data.toList.drop 3 := by unfold rst; rw [if_pos ho]
        rw [← h2]
        refine hb.ascs _ (by omega) fun j hj => ?_
        rw [← hB]
        rcases Nat.lt_or_ge j 3 with h3 | h3
        · rcases (by omega : j = 0 ∨ j = 1 ∨ j = 2) with rfl | rfl | rfl <;> omega
        · -- a digit, or the brace
          have hL := puV_asc hp
          have hat : ∀ m, m < (upB (rst (s.extract i s.size).data.toList)).length → B (s.extract i s.size) (3 + m) < 128 := fun m hm => by
            have hm1 : (upB (rst (s.extract i s.size).data.toList))[m]? = (rst (s.extract i s.size).data.toList)[m]? := by
              have hpre : upB (rst (s.extract i s.size).data.toList) <+: rst (s.extract i s.size).data.toList := List.takeWhile_prefix _
              obtain ⟨t2, ht2⟩ := hpre
              conv => rhs; rw [← ht2, List.getElem?_append_left hm]
            have hm2 : (upB (rst (s.extract i s.size).data.toList))[m]? = some ((upB (rst (s.extract i s.size).data.toList))[m]) := List.getElem?_eq_getElem hm
            have := hL _ (List.getElem_mem hm)
            unfold B
            rw [List.getD_eq_getElem?_getD, ← List.getElem?_drop, ← hr, ← hm1, hm2]
            exact this
          by_cases hm : j - 3 < (upB (rst (s.extract i s.size).data.toList)).length
          · have := hat (j - 3) hm
            rwa [show 3 + (j - 3) = j by omega] at this
          · have hj4 : j = 3 + (upB (rst (s.extract i s.size).data.toList)).length := by omega
            have h125 : B (s.extract i s.size) j = 125 := by
              have hsplit : ∀ l : List UInt8, l.contains 125 = true → l[(upB l).length]? = some 125 := by
                intro l
                induction l with
                | nil => intro h; simp at h
                | cons a l ih =>
                  intro h
                  unfold upB
                  rw [List.takeWhile_cons]
                  split
                  · rename_i ha
                    have hne : a ≠ 125 := by simpa using ha
                    have h2 : l.contains 125 = true := by
                      rw [List.contains_cons] at h
                      rcases Bool.or_eq_true _ _ ▸ h with h | h
                      · exact absurd (beq_iff_eq.1 h).symm hne
                      · exact h
                    have := ih h2
                    unfold upB at this
                    simpa using this
                  · rename_i ha
                    have : a = 125 := by simpa using ha
                    subst this
                    rfl
              have := hsplit _ hcl
              unfold B
              rw [List.getD_eq_getElem?_getD, hj4, ← List.getElem?_drop, ← hr, this]
              rfl
            omega
      · cases hu
  split at hu
  · rename_i h120
    unfold illV at hu
    split at hu
    · cases hu
    rename_i hl4
    rw [← Lib.size_eq] at hl4
    cases hp : puV 255 (((s.extract i s.size).data.toList.drop 2).take 2) with
    | none => rw [hp] at hu; cases hu
    | some n =>
      rw [hp] at hu
      simp only at hu
      split at hu
      · cases hu
      injection hu with hu
      injection hu with h1 h2
      rw [← h2]
      have hx : B s (i + 1) = 120 := by
        have h1z : 1 < (s.extract i s.size).size := by omega
        have := decP_in (s.extract i s.size) 1 h1z
        rw [show ((1 : Nat) : Int) = 1 from rfl] at this
        rw [this] at h120
        have h3 : (Utf8.decode (s.extract i s.size) 1).1 = 120 := by simp only at h120; omega
        rw [rest_dec i (by omega)] at h3
        rw [(dec_r_lo (s := s) (i := i + 1) (by omega)).1, h3]
      have hd23 : ∀ j, 2 ≤ j → j < 4 → B (s.extract i s.size) j < 128 := fun j h2 h4 => by
        have hL := puV_asc hp
        have hm : (((s.extract i s.size).data.toList.drop 2).take 2)[j - 2]? = (s.extract i s.size).data.toList[j]? := by
          rw [List.getElem?_take_of_lt (by omega), List.getElem?_drop, show 2 + (j - 2) = j by omega]
        have hm2 : (s.extract i s.size).data.toList[j]? = some ((s.extract i s.size).data.toList[j]'(by rw [← Lib.size_eq]; omega)) := List.getElem?_eq_getElem _
        have hin := hL _ (List.mem_of_getElem? (hm.trans hm2))
        unfold B
        rw [List.getD_eq_getElem?_getD, hm2]
        exact hin
      refine hb.ascs 4 (by omega) fun j hj => ?_
      rcases (by omega : j = 0 ∨ j = 1 ∨ j = 2 ∨ j = 3) with rfl | rfl | rfl | rfl
      · rw [Nat.add_zero]; omega
      · omega
      · rw [← hB]; exact hd23 2 (by omega) (by omega)
      · rw [← hB]; exact hd23 3 (by omega) (by omega)
  · injection hu with hu
    injection hu with h1 h2
    rw [← h2]
    have h1z : 1 < (s.extract i s.size).size := by
      unfold unitW at hW
      by_cases h : 1 < (s.extract i s.size).size
      · exact h
      · rw [if_neg h] at hW; exact absurd rfl hW
    have := (hb.asc hi (by omega)).next (by omega)
    unfold unitW
    rw [if_pos h1z, rest_dec i (by omega)]
    rwa [show i + (1 + (Utf8.decode s (i + 1)).2) = i + 1 + (Utf8.decode s (i + 1)).2 by omega]
end
end Go.Proofs.YtlfdpdlhppgakaaGreatDoor
/- The document's escapes are the program's: digits, and what an escape stands for. No run in this text. -/
namespace Go.Proofs.YtlfdpdlhppgakaaGreatDoor
open Go Go.RowKit Go.Kt Go.Kt.Rg Go.Shelf Go.Lib

theorem dig_eq : ∀ b : Nat, b < 256 → (match digV b with | none => (-1 : Int) | some d => if 16 ≤ d then -1 else (d : Int)) = xdigI (b : Nat) := by decide +kernel
theorem seg_cons {s : ByteArray} {k n : Nat} (h : k + (n + 1) ≤ s.size) : seg s k (k + (n + 1)) = UInt8.ofNat (B s k) :: seg s (k + 1) (k + 1 + n) := by
  rw [← seg_app s k (k + 1) (k + (n + 1)) (by omega) (by omega), one_byte (by omega), show k + (n + 1) = k + 1 + n by omega]
  rfl
def oI : Option Nat → Int
  | none => -1
  | some m => (m : Nat)
theorem xnum_pu (s : ByteArray) (mx : Nat) : ∀ (n k v : Nat), k + n ≤ s.size → (v + 1) * 16 ^ n ≤ mx + 1 → xnumF s n k (v : Nat) = oI (puF mx v (seg s k (k + n))) := by
  intro n
  induction n with
  | zero => intro k v _ _; rw [Nat.add_zero, seg_none]; rfl
  | succ n ih =>
    intro k v hk hm
    rw [seg_cons hk, xnumF, puF]
    have hb : (UInt8.ofNat (B s k)).toNat = B s k := by
      have := B_lt s k
      rw [UInt8.toNat_ofNat']
      omega
    rw [hb, bAt_B, ← dig_eq _ (B_lt s k)]
    cases hd : digV (B s k) with
    | none => rfl
    | some d =>
      simp only
      by_cases h16 : 16 ≤ d
      · rw [if_pos h16, if_pos (by decide), if_pos h16]; rfl
      · rw [if_neg h16, if_neg (by omega), if_neg h16]
        have hp : 1 ≤ 16 ^ n := Nat.one_le_pow _ _ (by decide)
        have h1 : (v * 16 + d + 1) * 16 ^ n ≤ (v + 1) * 16 ^ (n + 1) := by
          rw [Nat.pow_succ, Nat.mul_comm (16 ^ n) 16, ← Nat.mul_assoc]
          exact Nat.mul_le_mul_right _ (by omega)
        have h2 : v * 16 + d + 1 ≤ (v * 16 + d + 1) * 16 ^ n := Nat.le_mul_of_pos_right _ hp
        rw [if_neg (by omega), show ((v : Nat) : Int) * 16 + (d : Nat) = ((v * 16 + d : Nat) : Int) by omega, ih (k + 1) (v * 16 + d) (by omega) (by omega)]
theorem puV_oI {mx : Nat} {l : List UInt8} (h : l ≠ []) : puV mx l = puF mx 0 l := by unfold puV; rw [if_neg h]

section
variable {s : ByteArray} {i : Nat}
theorem unit1_in (hi : i + 1 < s.size) : unitW (s.extract i s.size) 1 = (Utf8.decode s (i + 1)).2 ∧ (decP (s.extract i s.size) 1).1 = ((Utf8.decode s (i + 1)).1 : Nat) ∧ unitW (s.extract i s.size) 1 ≠ 0 := by
  have hz := rest_z (s := s) i
  have h1 : unitW (s.extract i s.size) 1 = (Utf8.decode s (i + 1)).2 := by
    unfold unitW
    rw [if_pos (by omega), rest_dec i (by omega)]
  refine ⟨h1, ?_, by rw [h1]; have := (dec_width s (i + 1) hi).1; omega⟩
  have := decP_in (s.extract i s.size) 1 (by omega)
  rw [show ((1 : Nat) : Int) = 1 from rfl] at this
  rw [this, rest_dec i (by omega)]
theorem esc_none (hi : i + 1 = s.size) : unescV (s.extract i s.size) = none := by
  have hz := rest_z (s := s) i
  unfold unescV unitW
  rw [if_neg (show ¬ 1 < (s.extract i s.size).size by omega), if_pos rfl]
theorem esc_x (hi : i + 1 < s.size) (hx : B s (i + 1) = 120) : unescV (s.extract i s.size) = if xnumI s (i + 2) (i + 4) 2 2 < 128 then none else some ([UInt8.ofNat (xnumI s (i + 2) (i + 4) 2 2).toNat], 4) := by
  obtain ⟨u1, u2, u3⟩ := unit1_in hi
  have hd : Utf8.decode s (i + 1) = (120, 1) := by rw [dec_lo s (i + 1) (by omega), hx]
  unfold unescV
  rw [if_neg u3, u2, hd, if_neg (by decide), if_pos (by decide)]
  unfold illV xnumI
  rw [rest_L]
  by_cases h4 : (s.data.toList.drop i).length < 4
  · rw [if_pos h4]
    rw [List.length_drop, ← Lib.size_eq] at h4
    rw [if_pos (show i + 4 - (i + 2) < 2 ∨ 2 < i + 4 - (i + 2) ∨ s.size < i + 4 by omega), if_pos (by decide)]
  · rw [if_neg h4]
    rw [List.length_drop, ← Lib.size_eq] at h4
    rw [if_neg (show ¬ (i + 4 - (i + 2) < 2 ∨ 2 < i + 4 - (i + 2) ∨ s.size < i + 4) by omega)]
    have hseg : ((s.data.toList.drop i).drop 2).take 2 = seg s (i + 2) (i + 2 + 2) := by
      rw [seg_eq, List.drop_drop, List.drop_take, show i + 2 + 2 - (i + 2) = 2 by omega]
    have hne : seg s (i + 2) (i + 2 + 2) ≠ [] := by
      intro h
      have := seg_len s (i + 2) (i + 2 + 2) (by omega) (by omega)
      rw [h] at this
      simp at this
    have hn : xnumF s 2 (i + 2) 0 = oI (puF 255 0 (seg s (i + 2) (i + 2 + 2))) := xnum_pu s 255 2 (i + 2) 0 (by omega) (by decide)
    rw [hseg, puV_oI hne, show i + 4 - (i + 2) = 2 by omega, hn]
    cases hp : puF 255 0 (seg s (i + 2) (i + 2 + 2)) with
    | none => rw [show oI none = -1 from rfl, if_pos (by decide)]
    | some n =>
      rw [show oI (some n) = ((n : Nat) : Int) from rfl]
      simp only
      by_cases h : n < 128
      · rw [if_pos h, if_pos (by omega)]
      · rw [if_neg h, if_neg (by omega), Int.toNat_natCast]
theorem opn_of (h0 : B s i = 92) (h1 : B s (i + 1) = 117) (h2 : B s (i + 2) = 123) : opn (s.data.toList.drop i) = true := by
  have i2 := B_in (s := s) (i := i + 2) (by omega)
  have e := seg_cons (s := s) (k := i) (n := 2) (by omega)
  rw [seg_cons (s := s) (k := i + 1) (n := 1) (by omega), seg_cons (s := s) (k := i + 1 + 1) (n := 0) (by omega), show i + 1 + 1 = i + 2 by omega, h0, h1, h2, Nat.add_zero, seg_none] at e
  unfold opn
  rw [List.isPrefixOf_iff_prefix]
  have hs : seg s i (i + (2 + 1)) = (s.data.toList.drop i).take 3 := by rw [seg_eq, List.drop_take, show i + (2 + 1) - i = 3 by omega]
  have : ([92, 117, 123] : List UInt8) = (s.data.toList.drop i).take 3 := by rw [← hs, e]; decide
  rw [this]
  exact List.take_prefix 3 _
theorem beg_one {c : UInt8} (hc : c ≠ 0) : begL s i [c] = true ↔ B s i = c.toNat := by
  unfold begL
  constructor
  · intro h
    simp only [List.length_cons, List.length_nil, Nat.zero_add, Bool.and_eq_true, decide_eq_true_eq, beq_iff_eq] at h
    obtain ⟨h1, h2⟩ := h
    rw [one_byte (by omega)] at h2
    injection h2 with h3 _
    have := congrArg UInt8.toNat h3
    rw [UInt8.toNat_ofNat'] at this
    have := B_lt s i
    omega
  · intro h
    have hn : c.toNat ≠ 0 := fun h0 => hc (UInt8.toNat_inj.1 (by rw [h0]; rfl))
    have hi := B_in (s := s) (i := i) (by omega)
    simp only [List.length_cons, List.length_nil, Nat.zero_add, Bool.and_eq_true, decide_eq_true_eq, beq_iff_eq]
    refine ⟨by omega, ?_⟩
    rw [one_byte hi, h, UInt8.ofNat_toNat]
theorem up_len : ∀ (l : List UInt8) (n : Nat), n < l.length → l[n]? = some 125 → (∀ m, m < n → l[m]? ≠ some 125) → upB l = l.take n ∧ l.contains 125 = true
  | [], n, h, _, _ => by simp at h
  | a :: l, 0, _, h, _ => by
    simp at h
    subst h
    exact ⟨rfl, rfl⟩
  | a :: l, n + 1, h, h1, h2 => by
    have ha : a ≠ 125 := fun e => h2 0 (by omega) (by rw [e]; rfl)
    obtain ⟨e1, e2⟩ := up_len l n (by simpa using h) (by simpa using h1) (fun m hm => by have := h2 (m + 1) (by omega); simpa using this)
    refine ⟨?_, ?_⟩
    · unfold upB at e1 ⊢
      rw [List.takeWhile_cons, if_pos (by simpa using ha), e1]
      rfl
    · rw [List.contains_cons, e2, Bool.or_true]
theorem up_none (l : List UInt8) (h : ∀ m, m < l.length → l[m]? ≠ some 125) : l.contains 125 = false := by
  rw [← Bool.not_eq_true, List.contains_iff_mem]
  intro hm
  obtain ⟨n, hn, e⟩ := List.getElem_of_mem hm
  exact h n hn (by rw [List.getElem?_eq_getElem hn, e])
theorem get_B2 (j : Nat) (h : j < s.size) : s.data.toList[j]? = some (UInt8.ofNat (B s j)) := by
  unfold B
  rw [List.getD_eq_getElem?_getD, List.getElem?_eq_getElem (by rw [← Lib.size_eq]; exact h)]
  simp
theorem get_125 {j : Nat} (h : j < s.size) : s.data.toList[j]? = some 125 ↔ B s j = 125 := by
  rw [get_B2 j h]
  constructor
  · intro e
    injection e with e
    have := congrArg UInt8.toNat e
    rw [UInt8.toNat_ofNat'] at this
    have := B_lt s j
    have h5 : (125 : UInt8).toNat = 125 := rfl
    omega
  · intro e
    rw [e]
    rfl
/-- What an escape by number stands for. -/
def xchrV (s : ByteArray) (i : Nat) : Option (List UInt8 × Nat) :=
  if begL s (i + 2) [123] = false ∨ xfindI s (125 : Nat) i < 0 then none
  else if xnumI s (i + 3) (xfindI s (125 : Nat) i).toNat 1 6 < 0 ∨ charB (xnumI s (i + 3) (xfindI s (125 : Nat) i).toNat 1 6) = false then none
  else some (bytesP (xnumI s (i + 3) (xfindI s (125 : Nat) i).toNat 1 6), (xfindI s (125 : Nat) i).toNat + 1 - i)
theorem esc_u (hi : i + 1 < s.size) (h92 : B s i = 92) (hu : B s (i + 1) = 117) : unescV (s.extract i s.size) = xchrV s i := by
  obtain ⟨u1, u2, u3⟩ := unit1_in hi
  have hd : Utf8.decode s (i + 1) = (117, 1) := by rw [dec_lo s (i + 1) (by omega), hu]
  unfold unescV
  rw [if_neg u3, u2, hd, if_pos (by decide), rest_L]
  unfold chrV xchrV
  by_cases hb : B s (i + 2) = 123
  · have hbg : begL s (i + 2) [123] = true := (beg_one (by decide)).2 hb
    have ho := opn_of h92 hu hb
    have hr : rst (s.data.toList.drop i) = s.data.toList.drop (i + 3) := by unfold rst; rw [if_pos ho, List.drop_drop]
    rw [ho, hr]
    rcases xfindI_spec s 125 i (by omega) with ⟨e1, h1⟩ | ⟨j, e1, h1, h2, h3, h4⟩
    · rw [e1, if_pos (.inr (by decide))]
      have hc : (s.data.toList.drop (i + 3)).contains 125 = false := up_none _ fun m hm => by
        rw [List.length_drop, ← Lib.size_eq] at hm
        rw [List.getElem?_drop]
        exact fun h => h1 (i + 3 + m) (by omega) (by omega) ((get_125 (by omega)).1 h)
      rw [hc]
      cases puV 16777215 (upB (s.data.toList.drop (i + 3))) with
      | none => rfl
      | some n => rfl
    · rw [e1, if_neg (by rw [hbg]; simp), Int.toNat_natCast]
      have hij : i + 3 ≤ j := by
        rcases Nat.lt_or_ge j (i + 3) with h | h
        · exfalso
          rcases (by omega : j = i ∨ j = i + 1 ∨ j = i + 2) with rfl | rfl | rfl <;> omega
        · exact h
      obtain ⟨e2, e3⟩ := up_len (s.data.toList.drop (i + 3)) (j - (i + 3)) (by rw [List.length_drop, ← Lib.size_eq]; omega) (by rw [List.getElem?_drop, show i + 3 + (j - (i + 3)) = j by omega]; exact (get_125 h2).2 h3) (fun m hm => by
        rw [List.getElem?_drop]
        exact fun h => h4 (i + 3 + m) (by omega) (by omega) ((get_125 (by omega)).1 h))
      have hsg : (s.data.toList.drop (i + 3)).take (j - (i + 3)) = seg s (i + 3) j := by rw [seg_eq, List.drop_take]
      have hln : (seg s (i + 3) j).length = j - (i + 3) := seg_len s _ _ hij (by omega)
      rw [e2, e3, hsg, hln]
      unfold xnumI
      by_cases hr : j - (i + 3) < 1 ∨ 6 < j - (i + 3) ∨ s.size < j
      · rw [if_pos hr, if_pos (.inl (by decide))]
        rcases (by omega : j - (i + 3) = 0 ∨ 6 < j - (i + 3)) with h | h
        · have he : seg s (i + 3) j = [] := List.eq_nil_of_length_eq_zero (by omega)
          rw [he]
          rfl
        · cases puV 16777215 (seg s (i + 3) j) with
          | none => rfl
          | some n =>
            unfold chrO
            simp only
            rw [decide_eq_false (show ¬ j - (i + 3) ≤ 6 by omega)]
            rfl
      · rw [if_neg hr]
        have hne : seg s (i + 3) j ≠ [] := fun h => by rw [h] at hln; simp at hln; omega
        have hpow : (0 + 1) * 16 ^ (j - (i + 3)) ≤ 16777215 + 1 := by
          rw [Nat.zero_add, Nat.one_mul]
          exact Nat.le_trans (Nat.pow_le_pow_right (by decide) (show j - (i + 3) ≤ 6 by omega)) (by decide)
        have hn : xnumF s (j - (i + 3)) (i + 3) 0 = oI (puF 16777215 0 (seg s (i + 3) (i + 3 + (j - (i + 3))))) := xnum_pu s 16777215 (j - (i + 3)) (i + 3) 0 (by omega) hpow
        rw [show i + 3 + (j - (i + 3)) = j by omega] at hn
        rw [puV_oI hne, hn]
        cases hp : puF 16777215 0 (seg s (i + 3) j) with
        | none => rw [show oI none = -1 from rfl, if_pos (.inl (by decide))]; rfl
        | some n =>
          rw [show oI (some n) = ((n : Nat) : Int) from rfl]
          unfold chrO
          simp only
          rw [decide_eq_true (show j - (i + 3) ≤ 6 by omega), Bool.and_true, Bool.and_true, Bool.true_and, valid_char]
          by_cases hc : charB (n : Nat) = true
          · have e : 4 + (j - (i + 3)) = j + 1 - i := by omega
            rw [if_pos hc, if_neg (fun h => by
              rcases h with h | h
              · omega
              · rw [hc] at h; cases h), bytesP_char _ hc, e]
          · rw [if_neg hc, if_pos (.inr (by simpa using hc))]
  · have hbg : begL s (i + 2) [123] = false := by
      rw [← Bool.not_eq_true]
      exact fun h => hb ((beg_one (by decide)).1 h)
    rw [if_pos (.inl hbg)]
    have ho : opn (s.data.toList.drop i) = false := by
      rw [← Bool.not_eq_true]
      intro h
      rw [← rest_L] at h
      have := (opn_B h).2.2.1
      rw [rest_B i (by omega)] at this
      exact hb this
    rw [ho]
    cases puV 16777215 (upB (rst (s.data.toList.drop i))) with
    | none => rfl
    | some n => rfl
theorem esc_any (hi : i + 1 < s.size) (hu : B s (i + 1) ≠ 117) (hx : B s (i + 1) ≠ 120) : unescV (s.extract i s.size) = some (bytesP ((ptU s (i + 1)).1 : Nat), 1 + (ptU s (i + 1)).2) := by
  obtain ⟨u1, u2, u3⟩ := unit1_in hi
  have hr : ∀ a : Nat, a < 128 → B s (i + 1) ≠ a → (Utf8.decode s (i + 1)).1 ≠ a := fun a ha hb h => hb (by rw [(dec_r_lo (s := s) (i := i + 1) (by omega)).1, h])
  have h1 := hr 117 (by decide) hu
  have h2 := hr 120 (by decide) hx
  have hw := dec_width s (i + 1) hi
  have he : (s.extract i s.size).extract 1 (1 + (Utf8.decode s (i + 1)).2) = s.extract (i + 1) (i + 1 + (Utf8.decode s (i + 1)).2) := by
    rw [ByteArray.extract_extract]
    congr 1
    omega
  unfold unescV
  rw [if_neg u3, u2, if_neg (by omega), if_neg (by omega), u1, ptU_bytes s (i + 1) hi, ptU_wide_eq, he]
  rfl
end
end Go.Proofs.YtlfdpdlhppgakaaGreatDoor
/- The document's answer for scan: sign, quoted, escaped. -/
namespace Go.Proofs.YtlfdpdlhppgakaaGreatDoor
open Go Go.RowKit Go.Kt Go.Kt.Rg Go.Shelf Go.Lib
attribute [local go_sem] Oper.semAt_some

/-- The first of some texts that stands at i. -/
def firstB (s : ByteArray) (i : Nat) : List ByteArray → ByteArray
  | [] => ⟨#[]⟩
  | c :: C => if begL s i c.data.toList = true then c else firstB s i C
theorem firstB_at {s : ByteArray} {i : Nat} : ∀ (C : List ByteArray) (k : Nat) (c : ByteArray), (∀ j d, j < k → C[j]? = some d → begL s i d.data.toList = false) → C[k]? = some c → begL s i c.data.toList = true → firstB s i C = c
  | [], k, c, _, h, _ => by simp at h
  | d :: C, 0, c, _, h, hb => by
    simp at h
    subst h
    rw [firstB, if_pos hb]
  | d :: C, k + 1, c, h1, h, hb => by
    have h0 := h1 0 d (by omega) rfl
    rw [firstB, if_neg (by rw [h0]; decide)]
    exact firstB_at C k c (fun j e hj he => h1 (j + 1) e (by omega) (by simpa using he)) (by simpa using h) hb
theorem firstB_none {s : ByteArray} {i : Nat} : ∀ (C : List ByteArray), (∀ j d, j < C.length → C[j]? = some d → begL s i d.data.toList = false) → firstB s i C = ⟨#[]⟩
  | [], _ => rfl
  | d :: C, h => by
    rw [firstB, if_neg (by rw [h 0 d (by simp) rfl]; decide)]
    exact firstB_none C fun j e hj he => h (j + 1) e (by simpa using hj) (by simpa using he)
def sgA : List ByteArray := [⟨#[60, 60, 60, 42]⟩, ⟨#[60, 60, 42]⟩, ⟨#[60, 42]⟩, ⟨#[61, 42]⟩, ⟨#[60, 60, 60]⟩, ⟨#[60, 60]⟩, ⟨#[60]⟩, ⟨#[38]⟩, ⟨#[61]⟩, ⟨#[47]⟩, ⟨#[45]⟩]
def sgB : List ByteArray := [⟨#[60, 60, 60, 42]⟩, ⟨#[60, 60, 60]⟩]
def sgC : List ByteArray := [⟨#[60, 60, 42]⟩, ⟨#[60, 60]⟩]
theorem beg_cons {s : ByteArray} {i : Nat} {c : UInt8} {t : List UInt8} (hc : c ≠ 0) : begL s i (c :: t) = true ↔ B s i = c.toNat ∧ begL s (i + 1) t = true := by
  have hb1 := beg_one (s := s) (i := i) hc
  unfold begL at hb1 ⊢
  simp only [List.length_cons, List.length_nil, Nat.zero_add, Bool.and_eq_true, decide_eq_true_eq, beq_iff_eq] at hb1 ⊢
  rw [← hb1]
  constructor
  · rintro ⟨h1, h2⟩
    rw [← seg_app s i (i + 1) (i + (t.length + 1)) (by omega) (by omega), one_byte (by omega)] at h2
    injection h2 with h3 h4
    refine ⟨⟨by omega, by rw [one_byte (by omega), h3]⟩, by omega, ?_⟩
    rw [show i + 1 + t.length = i + (t.length + 1) by omega]
    exact h4
  · rintro ⟨⟨h1, h2⟩, h3, h4⟩
    refine ⟨by omega, ?_⟩
    rw [← seg_app s i (i + 1) (i + (t.length + 1)) (by omega) (by omega), h2, show i + (t.length + 1) = i + 1 + t.length by omega, h4]
    rfl
theorem beg_nil {s : ByteArray} {i : Nat} (hi : i ≤ s.size) : begL s i [] = true := by
  unfold begL
  simp [hi, seg_none]
theorem beg_2 {s : ByteArray} {i : Nat} {a b : UInt8} (ha : a ≠ 0) (hb : b ≠ 0) : begL s i [a, b] = true ↔ B s i = a.toNat ∧ B s (i + 1) = b.toNat := by
  rw [beg_cons ha, beg_one hb]
theorem beg_3 {s : ByteArray} {i : Nat} {a b c : UInt8} (ha : a ≠ 0) (hb : b ≠ 0) (hc : c ≠ 0) : begL s i [a, b, c] = true ↔ B s i = a.toNat ∧ B s (i + 1) = b.toNat ∧ B s (i + 2) = c.toNat := by
  rw [beg_cons ha, beg_2 hb hc]
theorem beg_4 {s : ByteArray} {i : Nat} {a b c d : UInt8} (ha : a ≠ 0) (hb : b ≠ 0) (hc : c ≠ 0) (hd : d ≠ 0) : begL s i [a, b, c, d] = true ↔ B s i = a.toNat ∧ B s (i + 1) = b.toNat ∧ B s (i + 2) = c.toNat ∧ B s (i + 3) = d.toNat := by
  rw [beg_cons ha, beg_3 hb hc hd]
/-- The sign that the document finds. -/
def sgnD (s : ByteArray) (i : Nat) : ByteArray := if begL s i [60, 60, 60] = true then firstB s i sgB else if begL s i [60, 60] = true then firstB s i sgC else firstB s i sgA
theorem sgnD_eq (s : ByteArray) (i : Nat) : sgnD s i = ⟨(seg s i (i + sgnN s i)).toArray⟩ := by
  have a1 : begL s i (⟨#[60, 60, 60, 42]⟩ : ByteArray).data.toList = true ↔ B s i = 60 ∧ B s (i + 1) = 60 ∧ B s (i + 2) = 60 ∧ B s (i + 3) = 42 := beg_4 (by decide) (by decide) (by decide) (by decide)
  have a2 : begL s i (⟨#[60, 60, 42]⟩ : ByteArray).data.toList = true ↔ B s i = 60 ∧ B s (i + 1) = 60 ∧ B s (i + 2) = 42 := beg_3 (by decide) (by decide) (by decide)
  have a3 : begL s i (⟨#[60, 42]⟩ : ByteArray).data.toList = true ↔ B s i = 60 ∧ B s (i + 1) = 42 := beg_2 (by decide) (by decide)
  have a4 : begL s i (⟨#[61, 42]⟩ : ByteArray).data.toList = true ↔ B s i = 61 ∧ B s (i + 1) = 42 := beg_2 (by decide) (by decide)
  have a5 : begL s i (⟨#[60, 60, 60]⟩ : ByteArray).data.toList = true ↔ B s i = 60 ∧ B s (i + 1) = 60 ∧ B s (i + 2) = 60 := beg_3 (by decide) (by decide) (by decide)
  have a6 : begL s i (⟨#[60, 60]⟩ : ByteArray).data.toList = true ↔ B s i = 60 ∧ B s (i + 1) = 60 := beg_2 (by decide) (by decide)
  have a7 : begL s i (⟨#[60]⟩ : ByteArray).data.toList = true ↔ B s i = 60 := beg_one (by decide)
  have a8 : begL s i (⟨#[38]⟩ : ByteArray).data.toList = true ↔ B s i = 38 := beg_one (by decide)
  have a9 : begL s i (⟨#[61]⟩ : ByteArray).data.toList = true ↔ B s i = 61 := beg_one (by decide)
  have a10 : begL s i (⟨#[47]⟩ : ByteArray).data.toList = true ↔ B s i = 47 := beg_one (by decide)
  have a11 : begL s i (⟨#[45]⟩ : ByteArray).data.toList = true ↔ B s i = 45 := beg_one (by decide)
  have q3 : begL s i [60, 60, 60] = true ↔ B s i = 60 ∧ B s (i + 1) = 60 ∧ B s (i + 2) = 60 := a5
  have q2 : begL s i [60, 60] = true ↔ B s i = 60 ∧ B s (i + 1) = 60 := a6
  have hres : ∀ c : ByteArray, begL s i c.data.toList = true → c.size = sgnN s i → c = ⟨(seg s i (i + sgnN s i)).toArray⟩ := fun c h hz => by
    unfold begL at h
    simp only [Bool.and_eq_true, decide_eq_true_eq, beq_iff_eq] at h
    rw [← Lib.size_eq, hz] at h
    rw [h.2]
  unfold sgnD
  by_cases h3 : B s i = 60 ∧ B s (i + 1) = 60 ∧ B s (i + 2) = 60
  · rw [if_pos (q3.2 h3)]
    unfold sgB
    simp only [firstB]
    by_cases h4 : B s (i + 3) = 42
    · have g := a1.2 ⟨h3.1, h3.2.1, h3.2.2, h4⟩
      rw [if_pos g]
      refine hres _ g ?_
      unfold sgnN
      rw [if_pos h3.1, if_pos h3.2.1, if_pos h3.2.2, if_pos h4]
      rfl
    · rw [if_neg (fun h => h4 (a1.1 h).2.2.2), if_pos (a5.2 h3)]
      refine hres _ (a5.2 h3) ?_
      unfold sgnN
      rw [if_pos h3.1, if_pos h3.2.1, if_pos h3.2.2, if_neg h4]
      rfl
  rw [if_neg (fun h => h3 (q3.1 h))]
  by_cases h2 : B s i = 60 ∧ B s (i + 1) = 60
  · have n2 : B s (i + 2) ≠ 60 := fun h => h3 ⟨h2.1, h2.2, h⟩
    rw [if_pos (q2.2 h2)]
    unfold sgC
    simp only [firstB]
    by_cases h4 : B s (i + 2) = 42
    · have g := a2.2 ⟨h2.1, h2.2, h4⟩
      rw [if_pos g]
      refine hres _ g ?_
      unfold sgnN
      rw [if_pos h2.1, if_pos h2.2, if_neg n2, if_pos h4]
      rfl
    · rw [if_neg (fun h => h4 (a2.1 h).2.2), if_pos (a6.2 h2)]
      refine hres _ (a6.2 h2) ?_
      unfold sgnN
      rw [if_pos h2.1, if_pos h2.2, if_neg n2, if_neg h4]
      rfl
  rw [if_neg (fun h => h2 (q2.1 h))]
  unfold sgA
  simp only [firstB]
  rw [if_neg (fun h => h3 ⟨(a1.1 h).1, (a1.1 h).2.1, (a1.1 h).2.2.1⟩), if_neg (fun h => h2 ⟨(a2.1 h).1, (a2.1 h).2.1⟩)]
  by_cases c1 : B s i = 60 ∧ B s (i + 1) = 42
  · rw [if_pos (a3.2 c1)]
    refine hres _ (a3.2 c1) ?_
    unfold sgnN
    rw [if_pos c1.1, if_neg (by omega), if_pos c1.2]
    rfl
  rw [if_neg (fun h => c1 (a3.1 h))]
  by_cases c2 : B s i = 61 ∧ B s (i + 1) = 42
  · rw [if_pos (a4.2 c2)]
    refine hres _ (a4.2 c2) ?_
    unfold sgnN
    rw [if_neg (by omega), if_pos c2.1, if_pos c2.2]
    rfl
  rw [if_neg (fun h => c2 (a4.1 h)), if_neg (fun h => h3 (a5.1 h)), if_neg (fun h => h2 (a6.1 h))]
  by_cases c3 : B s i = 60
  · rw [if_pos (a7.2 c3)]
    refine hres _ (a7.2 c3) ?_
    unfold sgnN
    rw [if_pos c3, if_neg (fun h => h2 ⟨c3, h⟩), if_neg (fun h => c1 ⟨c3, h⟩)]
    rfl
  rw [if_neg (fun h => c3 (a7.1 h))]
  by_cases c4 : B s i = 38
  · rw [if_pos (a8.2 c4)]
    refine hres _ (a8.2 c4) ?_
    unfold sgnN
    rw [if_neg c3, if_neg (by omega), if_pos (.inl c4)]
    rfl
  rw [if_neg (fun h => c4 (a8.1 h))]
  by_cases c5 : B s i = 61
  · rw [if_pos (a9.2 c5)]
    refine hres _ (a9.2 c5) ?_
    unfold sgnN
    rw [if_neg c3, if_pos c5, if_neg (fun h => c2 ⟨c5, h⟩)]
    rfl
  rw [if_neg (fun h => c5 (a9.1 h))]
  by_cases c6 : B s i = 47
  · rw [if_pos (a10.2 c6)]
    refine hres _ (a10.2 c6) ?_
    unfold sgnN
    rw [if_neg c3, if_neg c5, if_pos (.inr (.inl c6))]
    rfl
  rw [if_neg (fun h => c6 (a10.1 h))]
  by_cases c7 : B s i = 45
  · rw [if_pos (a11.2 c7)]
    refine hres _ (a11.2 c7) ?_
    unfold sgnN
    rw [if_neg c3, if_neg c5, if_pos (.inr (.inr c7))]
    rfl
  rw [if_neg (fun h => c7 (a11.1 h))]
  have : sgnN s i = 0 := by
    unfold sgnN
    rw [if_neg c3, if_neg c5, if_neg (by omega)]
  rw [this, Nat.add_zero, seg_none]
end Go.Proofs.YtlfdpdlhppgakaaGreatDoor
/- The document's answer for scan: sign, quoted, escaped: the walks. -/
namespace Go.Proofs.YtlfdpdlhppgakaaGreatDoor
open Go Go.RowKit Go.Kt Go.Kt.Rg Go.Shelf Go.Lib
attribute [local go_sem] Oper.semAt_some

/-- A byte appended to a row of one's own. -/
theorem ownB_add {D : Nat} {w wr : World} {ao : Option Addr} {cp m : Nat} {acc : List UInt8} (hown : OwnB (fun b => D ≤ b) (.slice ao m cp) acc wr) (hm : m = acc.length) (hb : Below D w wr) (hD : D ≤ w.heap.size) (y : UInt8) (hl : acc.length + 1 ≤ 140737488355328) :
    ∃ g3 cap3 w3, (∀ ty, (Builtin.append_ #[51, 51] ty #[.slice ao m cp, .slice (some ⟨wr.heap.size, 0, none⟩) 1 1]).run Tryz.prog (wr.alloc (.cells #[.int .u8 (y.toNat : Nat)] 5)) = .ok (.slice (some ⟨g3, 0, none⟩) (m + 1) cap3) w3) ∧
      OwnB (fun b => D ≤ b) (.slice (some ⟨g3, 0, none⟩) (m + 1) cap3) (acc ++ [y]) w3 ∧ Below D w w3 ∧ m + 1 = (acc ++ [y]).length := by
  obtain ⟨g3, cap3, w3, hrun, hown3, hk3, hg3, hz3⟩ := append_b (P := Tryz.prog) wr 51 5 Tryz.underlying51 tinfo5 hown.1 (.int .u8 (y.toNat : Nat)) rfl hl
  subst hm
  have e1 : acc.length + 1 = (acc ++ [y]).length := by simp
  refine ⟨g3, cap3, w3, hrun, ⟨?_, ?_⟩, hb.trans (hk3.below (Nat.le_trans hD hb.size) fun b h => hown.2 b h), e1⟩
  · rw [← e1]
    have e2 : Lib.byteCells (acc ++ [y]) = Lib.byteCells acc ++ [.int .u8 (y.toNat : Nat)] := by simp [Lib.byteCells]
    rw [e2]
    exact hown3
  · intro b hb2
    have : g3 = b := by simpa [Value.ownBlock] using hb2
    subst this
    rcases hg3 with h | h
    · exact hown.2 _ h
    · have := hb.size; omega

/-- What quoted answers. -/
def quoO (D i : Nat) (o : Option (List UInt8 × Nat)) (e : Ending) (w' : World) : Prop := match o with
  | some (x, k) => ∃ ao cp, e = .returned (.tuple #[.slice ao x.length cp, .int .i64 (k : Nat), .int .i64 0]) ∧ OwnB (fun b => D ≤ b) (.slice ao x.length cp) x w'
  | none => e = .returned (.tuple #[.slice none 0 0, .int .i64 (i : Nat), .int .i64 10])
set_option maxRecDepth 100000 in
set_option maxHeartbeats 1000000 in
theorem xquoted_any (s : ByteArray) (i : Nat) (w : World) (hs : s.size ≤ 140737488351232) (hi : i ≤ s.size) :
    Calls Tryz.prog 63 #[.string s, .int .i64 (i : Nat)] w fun e w' => quoO w.heap.size i (xquoV s i) e w' ∧ Below w.heap.size w w' := by
  obtain ⟨R, hR⟩ : ∃ R, xquoF s s.size (i + 1) [] = R := ⟨_, rfl⟩
  have hR2 : xquoV s i = R := hR
  rw [hR2]
  have HR := Lib.hid hR
  clear hR hR2
  go_enter Tryz.func63, Tryz.ntmps63
  go_wp2
  go_loopw [7, 8] (fun o v wr => ∃ (k f : Nat) (ao : Option Addr) (cp m : Nat) (acc : List UInt8), k ≤ s.size + 1 ∧ s.size ≤ k + f ∧ v = .int .i64 k ∧ o = .slice ao m cp ∧ m = acc.length ∧ m ≤ k ∧ OwnB (fun b => w.heap.size ≤ b) (.slice ao m cp) acc wr ∧ Below w.heap.size w wr ∧ xquoF s f k acc = R)
    (fun _ v _ => s.size + 1 - (RowKit.intOf v).toNat)
  case atStart => exact ⟨i + 1, s.size, none, 0, 0, [], by omega, by omega, by go_num, rfl, rfl, by omega, OwnB.nil _ _, Below.refl _ _, HR.out⟩
  case round =>
    obtain ⟨k, f, ao, cp, m, acc, hk, hf, rfl, rfl, hm, hmk, hown, hb, hc⟩ := hrel
    by_cases hlt : k < s.size
    · have HI : ∀ w, (Instr.index 9 (.string s) (.int .i64 (k : Nat))).run Tryz.prog w = .ok (.int .u8 (bAt s k)) w := fun w => run_bAt s k hlt w
      have hlt' : (k : Int) < s.size := by omega
      obtain ⟨f, rfl⟩ : ∃ f', f = f' + 1 := ⟨f - 1, by omega⟩
      rw [xquoF, if_pos hlt] at hc
      have CB := Lib.hid (fun V => xbegins_any s ⟨#[39, 39]⟩ k V hs (by decide) (by omega))
      have hbg : begL s k (⟨#[39, 39]⟩ : ByteArray).data.toList = true ↔ B s k = 39 ∧ B s (k + 1) = 39 := beg_2 (by decide) (by decide)
      by_cases h39 : B s k = 39
      · rw [if_pos h39] at hc
        have hb39 : bAt s k = 39 := by rw [bAt_B, h39]; rfl
        rw [hb39] at HI
        by_cases h2 : B s (k + 1) = 39
        · rw [if_pos h2] at hc
          have hk1 : k + 1 < s.size := B_in (by omega)
          have hb40 : bAt s (k + 1) = 39 := by rw [bAt_B, h2]; rfl
          have HJ : ∀ w, (Instr.index 9 (.string s) (.int .i64 ((k : Int) + 1))).run Tryz.prog w = .ok (.int .u8 39) w := fun w => by
            have := run_bAt s (k + 1) hk1 w
            rw [hb40] at this
            exact this
          rw [hbg.2 ⟨h39, h2⟩] at CB
          obtain ⟨g3, cap3, w3, hrun, hown3, hb3, hl3⟩ := ownB_add hown hm hb (Nat.le_refl _) 39 (by omega)
          have h39' : ((39 : UInt8).toNat : Int) = 39 := rfl
          rw [h39'] at hrun
          have HN := Lib.hid hrun
          have HG := Lib.hid (And.intro hown3 (And.intro hb3 (And.intro hl3 hc)))
          clear hrun hown3 hb3 hl3 hc hown hb hbg h39 h2 hb39 hb40 h39' hm
          go_wp2_with (first | (at_builtin; refine wpList_append_eq rfl rfl rfl rfl HN.out ?_) | (go_at_call 62; refine (CB.out _).mono ?_; rintro e w1 ⟨rfl, rfl⟩))
          go_roundw
          case rel => exact ⟨k + 2, f, some ⟨g3, 0, none⟩, cap3, m + 1, _, by omega, by omega, by go_num, rfl, HG.out.2.2.1, by omega, HG.out.1, HG.out.2.1, HG.out.2.2.2⟩
          case measure => simp [RowKit.intOf]; omega
        · rw [if_neg h2] at hc
          have hb2 : begL s k (⟨#[39, 39]⟩ : ByteArray).data.toList = false := by
            rw [← Bool.not_eq_true]
            exact fun h => h2 (hbg.1 h).2
          rw [hb2] at CB
          subst hm
          have HO : Hid (quoO w.heap.size i R (.returned (.tuple #[.slice ao acc.length cp, .int .i64 ((k : Int) + 1), .int .i64 0])) wr ∧ Below w.heap.size w wr) := Lib.hid ⟨by rw [← hc]; exact ⟨ao, cp, rfl, hown⟩, hb⟩
          clear hc hown hb hbg h39 h2 hb39 hb2
          go_wp2_with (go_at_call 62; refine (CB.out _).mono ?_; rintro e w1 ⟨rfl, rfl⟩)
          go_ret3
          exact HO.out
      · rw [if_neg h39] at hc
        have hb39 : (bAt s k == 39) = false := by rw [bAt_B]; simp; omega
        obtain ⟨g3, cap3, w3, hrun, hown3, hb3, hl3⟩ := ownB_add hown hm hb (Nat.le_refl _) (UInt8.ofNat (B s k)) (by omega)
        have hy : (((UInt8.ofNat (B s k)).toNat : Nat) : Int) = bAt s k := by
          rw [bAt_B, UInt8.toNat_ofNat']
          have := B_lt s k
          omega
        rw [hy] at hrun
        have HN := Lib.hid hrun
        have HG := Lib.hid (And.intro hown3 (And.intro hb3 (And.intro hl3 hc)))
        generalize bAt s k = b at *
        clear hrun hown3 hb3 hl3 hc hown hb hbg h39 hy hm CB
        go_wp2_with (at_builtin; refine wpList_append_eq rfl rfl rfl rfl HN.out ?_)
        go_roundw
        case rel => exact ⟨k + 1, f, some ⟨g3, 0, none⟩, cap3, m + 1, _, by omega, by omega, by go_num, rfl, HG.out.2.2.1, by omega, HG.out.1, HG.out.2.1, HG.out.2.2.2⟩
        case measure => simp [RowKit.intOf]; omega
    · have hR0 : R = none := by rw [← hc]; exact xquo_end s f k acc hlt
      have HO : Hid (quoO w.heap.size i R (.returned (.tuple #[.slice none 0 0, .int .i64 (i : Nat), .int .i64 10])) wr ∧ Below w.heap.size w wr) := Lib.hid ⟨by rw [hR0]; rfl, hb⟩
      have hge : ¬ (k : Int) < s.size := by omega
      clear hc hR0 hown hb hm
      go_wp2
      go_ret3
      exact HO.out
end Go.Proofs.YtlfdpdlhppgakaaGreatDoor
/- The document's answer for scan: sign, escaped: the walks. -/
namespace Go.Proofs.YtlfdpdlhppgakaaGreatDoor
open Go Go.RowKit Go.Kt Go.Kt.Rg Go.Shelf Go.Lib
attribute [local go_sem] Oper.semAt_some

theorem newB_own {l : List UInt8} {w : World} (hl : l.length ≤ 1000) : OwnB (fun b => w.heap.size ≤ b) (.slice (some ⟨w.heap.size, 0, none⟩) l.length l.length) l (w.alloc (.cells (Lib.byteCells l).toArray 5)) := by
  refine ⟨⟨by simp [Lib.byteCells], .inr ⟨w.heap.size, l.length, (Lib.byteCells l).toArray, (0, 0), rfl, Nat.zero_le _, World.alloc_heap_new w _, Nat.zero_le _, Nat.le_refl _, by unfold maxLen; omega, by simp [Lib.byteCells], by simp [Lib.byteCells]; exact List.take_of_length_le (by simp)⟩⟩, fun g hg => ?_⟩
  have : w.heap.size = g := by simpa [Value.ownBlock] using hg
  omega
theorem xnum2_bd (s : ByteArray) (i : Nat) : xnumI s (i + 2) (i + 4) 2 2 ≤ 255 := by
  unfold xnumI
  split
  · decide
  · rw [show i + 4 - (i + 2) = 2 by omega]
    have hn : xnumF s 2 (i + 2) 0 = oI (puF 255 0 (seg s (i + 2) (i + 2 + 2))) := xnum_pu s 255 2 (i + 2) 0 (by omega) (by decide)
    rw [hn]
    cases hp : puF 255 0 (seg s (i + 2) (i + 2 + 2)) with
    | none => decide
    | some n =>
      have := puF_bd 255 _ 0 n (Nat.zero_le _) hp
      show ((n : Nat) : Int) ≤ 255
      omega

/-- What escaped answers. -/
def escO (D i : Nat) (o : Option (List UInt8 × Nat)) (e : Ending) (w' : World) : Prop := match o with
  | some (x, k) => ∃ ao cp, e = .returned (.tuple #[.slice ao x.length cp, .int .i64 ((i + k : Nat) : Int), .int .i64 0]) ∧ OwnB (fun b => D ≤ b) (.slice ao x.length cp) x w'
  | none => e = .returned (.tuple #[.slice none 0 0, .int .i64 (i : Nat), .int .i64 9])
set_option maxRecDepth 100000 in
set_option maxHeartbeats 1000000 in
theorem xescaped_any (s : ByteArray) (i : Nat) (w : World) (hs : s.size ≤ 140737488351232) (hi : i < s.size) (h92 : B s i = 92) :
    Calls Tryz.prog 64 #[.string s, .int .i64 (i : Nat)] w fun e w' => escO w.heap.size i (unescV (s.extract i s.size)) e w' ∧ Below w.heap.size w w' := by
  by_cases he : i + 1 = s.size
  · rw [esc_none he]
    have he' : ((i : Int) + 1 == (s.size : Int)) = true := by simp; omega
    clear h92 he
    go_enter Tryz.func64, Tryz.ntmps64
    go_wp2
    go_ret3
    exact ⟨rfl, Below.refl _ _⟩
  have hi1 : i + 1 < s.size := by omega
  have he' : ((i : Int) + 1 == (s.size : Int)) = false := by simp; omega
  have HI : ∀ w, (Instr.index 9 (.string s) (.int .i64 ((i : Int) + 1))).run Tryz.prog w = .ok (.int .u8 (bAt s (i + 1))) w := fun w => run_bAt s (i + 1) hi1 w
  by_cases hx : B s (i + 1) = 120
  · rw [esc_x hi1 hx]
    have hb : bAt s (i + 1) = 120 := by rw [bAt_B, hx]; rfl
    rw [hb] at HI
    have CN : Hid (∀ V, Calls Tryz.prog 85 #[.string s, .int .i64 ((i : Int) + 2), .int .i64 ((i : Int) + 4), .int .i64 2, .int .i64 2] V fun r w' => r = .returned (.int .i64 (xnumI s (i + 2) (i + 4) 2 2)) ∧ V = w') := Lib.hid fun V => xnumber_any s (i + 2) (i + 4) 2 2 V hs (by omega) (by omega) (by decide) (by decide)
    have hbd := xnum2_bd s i
    generalize xnumI s (i + 2) (i + 4) 2 2 = v at *
    clear hx hb he h92 hi1
    by_cases hv : v < 128
    · rw [if_pos hv]
      go_enter Tryz.func64, Tryz.ntmps64
      go_wp2_with (go_at_call 85; refine (CN.out _).mono ?_; rintro e w1 ⟨rfl, rfl⟩)
      go_ret3
      exact ⟨rfl, Below.refl _ _⟩
    · rw [if_neg hv]
      have hw : IntKind.u8.wrap v = v := by
        unfold IntKind.wrap
        simp [IntKind.signed, IntKind.bits]
        omega
      have HO : Hid (escO w.heap.size i (some ([UInt8.ofNat v.toNat], 4)) (.returned (.tuple #[.slice (some ⟨w.heap.size, 0, none⟩) 1 1, .int .i64 ((i : Int) + 4), .int .i64 0])) (w.alloc (.cells #[.int .u8 v] 5))) := Lib.hid (by
        refine ⟨_, _, rfl, ?_⟩
        have := newB_own (l := [UInt8.ofNat v.toNat]) (w := w) (by simp)
        have e1 : Lib.byteCells [UInt8.ofNat v.toNat] = [.int .u8 v] := by
          simp only [Lib.byteCells, List.map_cons, List.map_nil]
          rw [ofNat_toNat v (by omega) (by omega)]
        rw [e1] at this
        exact this)
      go_enter Tryz.func64, Tryz.ntmps64
      go_wp2_with (go_at_call 85; refine (CN.out _).mono ?_; rintro e w1 ⟨rfl, rfl⟩)
      go_ret3
      exact ⟨HO.out, (Below.refl _ _).alloc (Nat.le_refl _) _⟩
  have hbx : (bAt s (i + 1) == 120) = false := by rw [bAt_B]; simp; omega
  by_cases hu : B s (i + 1) = 117
  · rw [esc_u hi1 h92 hu]
    unfold xchrV
    have hb : bAt s (i + 1) = 117 := by rw [bAt_B, hu]; rfl
    rw [hb] at HI
    have CF : Hid (∀ V, Calls Tryz.prog 39 #[.string s, .int .i64 (i : Nat), .int .u8 125] V fun e w' => e = .returned (.int .i64 (xfindI s (125 : Nat) i)) ∧ V = w') := Lib.hid fun V => xfind_any s i 125 V hs (by omega)
    have CB : Hid (∀ V, Calls Tryz.prog 62 #[.string s, .int .i64 ((i : Int) + 2), .string ⟨#[123]⟩] V fun e w' => e = .returned (.bool (begL s (i + 2) [123])) ∧ V = w') := Lib.hid fun V => xbegins_any s ⟨#[123]⟩ (i + 2) V hs (by decide) (by omega)
    cases hbg : begL s (i + 2) [123] with
    | false =>
      rw [hbg] at CB
      rw [if_pos (.inl rfl)]
      generalize xfindI s (125 : Nat) i = j at *
      clear hx hbx hu hb he h92 hi1 hbg
      go_enter Tryz.func64, Tryz.ntmps64
      go_wp2_with (first | (go_at_call 39; refine (CF.out _).mono ?_; rintro e w1 ⟨rfl, rfl⟩) | (go_at_call 62; refine (CB.out _).mono ?_; rintro e w1 ⟨rfl, rfl⟩))
      go_ret3
      exact ⟨rfl, Below.refl _ _⟩
    | true =>
      rw [hbg] at CB
      have hb2 : B s (i + 2) = 123 := (beg_one (by decide)).1 hbg
      rcases xfindI_spec s 125 i (by omega) with ⟨e1, h1⟩ | ⟨j, e1, h1, h2, h3, h4⟩
      · rw [e1] at CF ⊢
        rw [if_pos (.inr (by decide))]
        clear hx hbx hu hb he h92 hi1 hbg hb2 e1 h1
        go_enter Tryz.func64, Tryz.ntmps64
        go_wp2_with (first | (go_at_call 39; refine (CF.out _).mono ?_; rintro e w1 ⟨rfl, rfl⟩) | (go_at_call 62; refine (CB.out _).mono ?_; rintro e w1 ⟨rfl, rfl⟩))
        go_ret3
        exact ⟨rfl, Below.refl _ _⟩
      · rw [e1] at CF ⊢
        have hij : i + 3 ≤ j := by
          rcases Nat.lt_or_ge j (i + 3) with h | h
          · exfalso
            rcases (by omega : j = i ∨ j = i + 1 ∨ j = i + 2) with rfl | rfl | rfl <;> omega
          · exact h
        rw [if_neg (fun h => by
          rcases h with h | h
          · cases h
          · omega), Int.toNat_natCast]
        have hj0 : ¬ (j : Int) < 0 := by omega
        have CN : Hid (∀ V, Calls Tryz.prog 85 #[.string s, .int .i64 ((i : Int) + 3), .int .i64 (j : Nat), .int .i64 1, .int .i64 6] V fun r w' => r = .returned (.int .i64 (xnumI s (i + 3) j 1 6)) ∧ V = w') := Lib.hid fun V => xnumber_any s (i + 3) j 1 6 V hs hij (by omega) (by decide) (by decide)
        have CC := Lib.hid (fun V => char_any (xnumI s (i + 3) j 1 6) V)
        have CY := Lib.hid (fun V (h : pointB (xnumI s (i + 3) j 1 6) = true) => refBytes_any (xnumI s (i + 3) j 1 6) V h)
        have ej : i + (j + 1 - i) = j + 1 := by omega
        have hjz : (j : Int) ≤ 140737488351232 := by omega
        generalize xnumI s (i + 3) j 1 6 = v at *
        clear hx hbx hu hb he h92 hi1 hbg hb2 e1 h1 h2 h3 h4 hij
        by_cases hv : v < 0
        · rw [if_pos (.inl hv)]
          clear ej
          go_enter Tryz.func64, Tryz.ntmps64
          go_wp2_with (first | (go_at_call 39; refine (CF.out _).mono ?_; rintro e w1 ⟨rfl, rfl⟩) | (go_at_call 62; refine (CB.out _).mono ?_; rintro e w1 ⟨rfl, rfl⟩) | (go_at_call 85; refine (CN.out _).mono ?_; rintro e w1 ⟨rfl, rfl⟩))
          go_ret3
          exact ⟨rfl, Below.refl _ _⟩
        · by_cases hc : charB v = true
          · rw [if_neg (fun h => by
              rcases h with h | h
              · exact hv h
              · rw [hc] at h; cases h)]
            rw [hc] at CC
            have hpt : pointB v = true := by unfold pointB; rw [hc]; rfl
            have hvb : 0 ≤ v ∧ v ≤ 1114111 := by
              unfold charB at hc
              simp only [Bool.or_eq_true, decide_eq_true_eq] at hc
              omega
            have CY' := Lib.hid (fun V => CY.out V hpt)
            have hw : IntKind.i32.wrap v = v := by
              unfold IntKind.wrap
              simp [IntKind.signed, IntKind.bits]
              omega
            have hlen := bytesP_len v
            have HO : Hid (∀ ww, escO w.heap.size i (some (bytesP v, j + 1 - i)) (.returned (.tuple #[.slice (some ⟨w.heap.size, 0, none⟩) (bytesP v).length (bytesP v).length, .int .i64 ((j : Int) + 1), .int .i64 0])) ww ∨ ww ≠ w.alloc (.cells (Lib.byteCells (bytesP v)).toArray 5)) := Lib.hid (fun ww => by
              by_cases hww : ww = w.alloc (.cells (Lib.byteCells (bytesP v)).toArray 5)
              · left
                subst hww
                refine ⟨_, _, ?_, newB_own (by omega)⟩
                rw [ej]
                rfl
              · exact .inr hww)
            generalize bytesP v = bs at *
            clear ej hc hpt CY
            go_enter Tryz.func64, Tryz.ntmps64
            go_wp2_with (first | (go_at_call 39; refine (CF.out _).mono ?_; rintro e w1 ⟨rfl, rfl⟩) | (go_at_call 62; refine (CB.out _).mono ?_; rintro e w1 ⟨rfl, rfl⟩) | (go_at_call 85; refine (CN.out _).mono ?_; rintro e w1 ⟨rfl, rfl⟩) | (go_at_call 67; refine (CC.out _).mono ?_; rintro e w1 ⟨rfl, rfl⟩) | (go_at_call 38; refine (CY'.out _).mono ?_; rintro e w1 ⟨rfl, hw1⟩))
            go_ret3
            refine ⟨(HO.out _).resolve_right (fun h => h rfl), ?_⟩
            exact (Below.refl _ _).alloc (Nat.le_refl _) _
          · have hc' : charB v = false := by simpa using hc
            rw [if_pos (.inr hc')]
            rw [hc'] at CC
            clear ej hc hc' CY
            go_enter Tryz.func64, Tryz.ntmps64
            go_wp2_with (first | (go_at_call 39; refine (CF.out _).mono ?_; rintro e w1 ⟨rfl, rfl⟩) | (go_at_call 62; refine (CB.out _).mono ?_; rintro e w1 ⟨rfl, rfl⟩) | (go_at_call 85; refine (CN.out _).mono ?_; rintro e w1 ⟨rfl, rfl⟩) | (go_at_call 67; refine (CC.out _).mono ?_; rintro e w1 ⟨rfl, rfl⟩))
            go_ret3
            exact ⟨rfl, Below.refl _ _⟩
  · have hbu : (bAt s (i + 1) == 117) = false := by rw [bAt_B]; simp; omega
    rw [esc_any hi1 hu hx]
    have CN : Hid (∀ V, Calls Tryz.prog 44 #[.string s, .int .i64 ((i : Int) + 1)] V fun e w' => e = .returned (.tuple #[.int .i32 ((ptU s (i + 1)).1 : Nat), .int .i64 ((ptU s (i + 1)).2 : Nat)]) ∧ V = w') := Lib.hid fun V => by
      have := refNext_any s ((i + 1 : Nat) : Int) V (by omega)
      rw [ptP_in s (i + 1) hi1] at this
      exact this
    have CY := Lib.hid (fun V => refBytes_any ((ptU s (i + 1)).1 : Nat) V (ptU_point s (i + 1) hi1))
    have hw4 := ptU_wide s (i + 1) hi1
    have hlen := bytesP_len ((ptU s (i + 1)).1 : Nat)
    generalize (ptU s (i + 1)).1 = x at *
    generalize (ptU s (i + 1)).2 = n at *
    generalize bAt s (i + 1) = b at *
    have hn : (n : Int) ≤ 4 := by omega
    have HO : Hid (∀ ww, escO w.heap.size i (some (bytesP (x : Nat), 1 + n)) (.returned (.tuple #[.slice (some ⟨w.heap.size, 0, none⟩) (bytesP (x : Nat)).length (bytesP (x : Nat)).length, .int .i64 ((i : Int) + 1 + (n : Nat)), .int .i64 0])) ww ∨ ww ≠ w.alloc (.cells (Lib.byteCells (bytesP (x : Nat))).toArray 5)) := Lib.hid (fun ww => by
      by_cases hww : ww = w.alloc (.cells (Lib.byteCells (bytesP (x : Nat))).toArray 5)
      · left
        subst hww
        refine ⟨_, _, ?_, newB_own (by omega)⟩
        rw [show ((i + (1 + n) : Nat) : Int) = (i : Int) + 1 + (n : Nat) by omega]
      · exact .inr hww)
    generalize bytesP (x : Nat) = bs at *
    clear hx hu he h92 hi1 hw4
    go_enter Tryz.func64, Tryz.ntmps64
    go_wp2_with (first | (go_at_call 44; refine (CN.out _).mono ?_; rintro e w1 ⟨rfl, rfl⟩) | (go_at_call 38; refine (CY.out _).mono ?_; rintro e w1 ⟨rfl, hw1⟩))
    go_ret3
    refine ⟨(HO.out _).resolve_right (fun h => h rfl), ?_⟩
    exact (Below.refl _ _).alloc (Nat.le_refl _) _
end Go.Proofs.YtlfdpdlhppgakaaGreatDoor
/- The document's answer for scan: sign: the walk. -/
namespace Go.Proofs.YtlfdpdlhppgakaaGreatDoor
open Go Go.RowKit Go.Kt Go.Kt.Rg Go.Shelf Go.Lib
attribute [local go_sem] Oper.semAt_some

theorem asz (w : World) (o : Obj) : (w.alloc o).heap.size = w.heap.size + 1 := by simp
theorem str_cells {V : World} {g : Nat} {cs : Array Value} {T : TypeId} {z : Nat × Nat} (h : V.heap[g]? = some (.cells cs T z)) {C : List ByteArray} (hc : cs.toList = C.map Value.string) : ∀ (k : Nat) (c : ByteArray), C[k]? = some c → V.cell? ⟨g, k, none⟩ = some (.string c) := by
  intro k c hk
  rw [Lib.cell_of_heap h]
  have : cs.toList[k]? = some (.string c) := by rw [hc, List.getElem?_map, hk]; rfl
  simpa using this
set_option maxRecDepth 100000 in
set_option maxHeartbeats 1000000 in
theorem xsign_any (s : ByteArray) (i : Nat) (w : World) (hs : s.size ≤ 140737488351232) (hi : i ≤ s.size) :
    Calls Tryz.prog 41 #[.string s, .int .i64 (i : Nat)] w fun e w' => e = .returned (.string ⟨(seg s i (i + sgnN s i)).toArray⟩) ∧ Below w.heap.size w w' := by
  rw [← sgnD_eq]
  have CB := Lib.hid (fun V t (ht : ByteArray.size t ≤ 100) => xbegins_any s t i V hs ht (by omega))
  have C3 : Hid (∀ V, Calls Tryz.prog 62 #[.string s, .int .i64 (i : Nat), .string ⟨#[60, 60, 60]⟩] V fun e w' => e = .returned (.bool (begL s i [60, 60, 60])) ∧ V = w') := Lib.hid fun V => CB.out V ⟨#[60, 60, 60]⟩ (by decide)
  have C2 : Hid (∀ V, Calls Tryz.prog 62 #[.string s, .int .i64 (i : Nat), .string ⟨#[60, 60]⟩] V fun e w' => e = .returned (.bool (begL s i [60, 60])) ∧ V = w') := Lib.hid fun V => CB.out V ⟨#[60, 60]⟩ (by decide)
  have hsz : ∀ C : List ByteArray, (C = sgA ∨ C = sgB ∨ C = sgC) → ∀ c ∈ C, ByteArray.size c ≤ 100 := by
    rintro C (rfl | rfl | rfl)
    · decide
    · decide
    · decide
  have HZ := Lib.hid hsz
  clear hsz
  cases h3 : begL s i [60, 60, 60] with
  | true =>
    have hD : sgnD s i = firstB s i sgB := by unfold sgnD; rw [if_pos h3]
    rw [hD]
    rw [h3] at C3
    clear hD
    obtain ⟨C, hC⟩ : ∃ C, sgB = C := ⟨_, rfl⟩
    have HV : Hid ([.string ⟨#[60, 60, 60, 42]⟩, .string ⟨#[60, 60, 60]⟩] = C.map Value.string) := Lib.hid (by rw [← hC]; rfl)
    have HCZ : Hid (∀ c ∈ C, ByteArray.size c ≤ 100) := Lib.hid (HZ.out C (.inr (.inl hC.symm)))
    have hN : C.length = 2 := by rw [← hC]; rfl
    rw [hC]
    clear hC
    obtain ⟨W, hW⟩ : ∃ W, (w.alloc (.cells #[.string ⟨#[60, 60, 60, 42]⟩, .string ⟨#[60, 60, 42]⟩, .string ⟨#[60, 42]⟩, .string ⟨#[61, 42]⟩, .string ⟨#[60, 60, 60]⟩, .string ⟨#[60, 60]⟩, .string ⟨#[60]⟩, .string ⟨#[38]⟩, .string ⟨#[61]⟩, .string ⟨#[47]⟩, .string ⟨#[45]⟩] 9)).alloc (.cells #[.string ⟨#[60, 60, 60, 42]⟩, .string ⟨#[60, 60, 60]⟩] 9) = W := ⟨_, rfl⟩
    have hh : W.heap[w.heap.size + 1]? = some (.cells #[.string ⟨#[60, 60, 60, 42]⟩, .string ⟨#[60, 60, 60]⟩] 9 (0, 0)) := by
        rw [← hW]
        have h := World.alloc_heap_new (w.alloc (.cells #[.string ⟨#[60, 60, 60, 42]⟩, .string ⟨#[60, 60, 42]⟩, .string ⟨#[60, 42]⟩, .string ⟨#[61, 42]⟩, .string ⟨#[60, 60, 60]⟩, .string ⟨#[60, 60]⟩, .string ⟨#[60]⟩, .string ⟨#[38]⟩, .string ⟨#[61]⟩, .string ⟨#[47]⟩, .string ⟨#[45]⟩] 9)) (.cells #[.string ⟨#[60, 60, 60, 42]⟩, .string ⟨#[60, 60, 60]⟩] 9)
        rw [asz] at h
        exact h
    have hb : Below w.heap.size w W := by
        rw [← hW]
        exact ((Below.refl _ w).alloc (Nat.le_refl _) _).alloc (by rw [asz]; omega) _
    have HC := Lib.hid (str_cells hh (C := C) HV.out)
    have HW := Lib.hid hW
    have HB := Lib.hid hb
    have HN := Lib.hid hN
    clear hh hb hW hN
    go_enter Tryz.func41, Tryz.ntmps41
    go_wp2_with (go_at_call 62; refine (C3.out _).mono ?_; clear C3; rintro e w1 ⟨rfl, rfl⟩)
    rw [HW.out]
    obtain ⟨g, hg⟩ : ∃ g, w.heap.size + 1 = g := ⟨_, rfl⟩
    rw [hg]
    rw [hg] at HC
    clear hg
    go_loop [6] (fun v => ∃ k, k ≤ 2 ∧ v = .int .i64 (k : Nat) ∧ ∀ j d, j < k → C[j]? = some d → begL s i d.data.toList = false) (fun v => 2 - (RowKit.intOf v).toNat)
    case atStart => exact ⟨0, by omega, rfl, fun j d h => by omega⟩
    case round =>
      obtain ⟨k, hk, rfl, hall⟩ := hrel
      by_cases hlt : k < 2
      · obtain ⟨c, hc⟩ : ∃ c, C[k]? = some c := ⟨_, List.getElem?_eq_getElem (by have := HN.out; omega)⟩
        have hcell := HC.out k c hc
        have CC := Lib.hid (fun V => CB.out V c (HCZ.out c (List.mem_of_getElem? hc)))
        have hlt' : (k : Int) < 2 := by omega
        cases hbc : begL s i c.data.toList with
        | true =>
          have hF := firstB_at C k c hall hc hbc
          rw [hbc] at CC
          have HF := Lib.hid hF
          clear hall hc hbc hF
          go_wp2_with (go_at_call 62; refine (CC.out _).mono ?_; rintro e w1 ⟨rfl, rfl⟩)
          go_ret
          rw [HF.out]
          exact ⟨rfl, HB.out⟩
        | false =>
          rw [hbc] at CC
          have HA : Hid (∀ j d, j < k + 1 → C[j]? = some d → begL s i d.data.toList = false) := Lib.hid fun j d hj hd => by
            rcases Nat.lt_or_ge j k with h | h
            · exact hall j d h hd
            · obtain rfl : j = k := by omega
              rw [hc] at hd
              cases hd
              exact hbc
          clear hall hc hbc
          go_wp2_with (go_at_call 62; refine (CC.out _).mono ?_; rintro e w1 ⟨rfl, rfl⟩)
          go_round
          case rel => exact ⟨k + 1, by omega, by go_num, HA.out⟩
          case measure => simp [RowKit.intOf]; omega
      · have hF := firstB_none (s := s) (i := i) C fun j d hj hd => hall j d (by have := HN.out; omega) hd
        have HF := Lib.hid hF
        have hge : ¬ (k : Int) < 2 := by omega
        clear hall hF
        go_wp2
        go_ret
        rw [HF.out]
        exact ⟨rfl, HB.out⟩
  | false =>
    rw [h3] at C3
    cases h2 : begL s i [60, 60] with
    | true =>
      have hD : sgnD s i = firstB s i sgC := by unfold sgnD; rw [if_neg (by rw [h3]; decide), if_pos h2]
      rw [hD]
      rw [h2] at C2
      clear hD
      obtain ⟨C, hC⟩ : ∃ C, sgC = C := ⟨_, rfl⟩
      have HV : Hid ([.string ⟨#[60, 60, 42]⟩, .string ⟨#[60, 60]⟩] = C.map Value.string) := Lib.hid (by rw [← hC]; rfl)
      have HCZ : Hid (∀ c ∈ C, ByteArray.size c ≤ 100) := Lib.hid (HZ.out C (.inr (.inr hC.symm)))
      have hN : C.length = 2 := by rw [← hC]; rfl
      rw [hC]
      clear hC
      obtain ⟨W, hW⟩ : ∃ W, (w.alloc (.cells #[.string ⟨#[60, 60, 60, 42]⟩, .string ⟨#[60, 60, 42]⟩, .string ⟨#[60, 42]⟩, .string ⟨#[61, 42]⟩, .string ⟨#[60, 60, 60]⟩, .string ⟨#[60, 60]⟩, .string ⟨#[60]⟩, .string ⟨#[38]⟩, .string ⟨#[61]⟩, .string ⟨#[47]⟩, .string ⟨#[45]⟩] 9)).alloc (.cells #[.string ⟨#[60, 60, 42]⟩, .string ⟨#[60, 60]⟩] 9) = W := ⟨_, rfl⟩
      have hh : W.heap[w.heap.size + 1]? = some (.cells #[.string ⟨#[60, 60, 42]⟩, .string ⟨#[60, 60]⟩] 9 (0, 0)) := by
          rw [← hW]
          have h := World.alloc_heap_new (w.alloc (.cells #[.string ⟨#[60, 60, 60, 42]⟩, .string ⟨#[60, 60, 42]⟩, .string ⟨#[60, 42]⟩, .string ⟨#[61, 42]⟩, .string ⟨#[60, 60, 60]⟩, .string ⟨#[60, 60]⟩, .string ⟨#[60]⟩, .string ⟨#[38]⟩, .string ⟨#[61]⟩, .string ⟨#[47]⟩, .string ⟨#[45]⟩] 9)) (.cells #[.string ⟨#[60, 60, 42]⟩, .string ⟨#[60, 60]⟩] 9)
          rw [asz] at h
          exact h
      have hb : Below w.heap.size w W := by
          rw [← hW]
          exact ((Below.refl _ w).alloc (Nat.le_refl _) _).alloc (by rw [asz]; omega) _
      have HC := Lib.hid (str_cells hh (C := C) HV.out)
      have HW := Lib.hid hW
      have HB := Lib.hid hb
      have HN := Lib.hid hN
      clear hh hb hW hN
      go_enter Tryz.func41, Tryz.ntmps41
      go_wp2_with (first | (go_at_call 62; refine (C3.out _).mono ?_; clear C3; rintro e w1 ⟨rfl, rfl⟩) | (go_at_call 62; refine (C2.out _).mono ?_; clear C2; rintro e w1 ⟨rfl, rfl⟩))
      rw [HW.out]
      obtain ⟨g, hg⟩ : ∃ g, w.heap.size + 1 = g := ⟨_, rfl⟩
      rw [hg]
      rw [hg] at HC
      clear hg
      go_loop [6] (fun v => ∃ k, k ≤ 2 ∧ v = .int .i64 (k : Nat) ∧ ∀ j d, j < k → C[j]? = some d → begL s i d.data.toList = false) (fun v => 2 - (RowKit.intOf v).toNat)
      case atStart => exact ⟨0, by omega, rfl, fun j d h => by omega⟩
      case round =>
        obtain ⟨k, hk, rfl, hall⟩ := hrel
        by_cases hlt : k < 2
        · obtain ⟨c, hc⟩ : ∃ c, C[k]? = some c := ⟨_, List.getElem?_eq_getElem (by have := HN.out; omega)⟩
          have hcell := HC.out k c hc
          have CC := Lib.hid (fun V => CB.out V c (HCZ.out c (List.mem_of_getElem? hc)))
          have hlt' : (k : Int) < 2 := by omega
          cases hbc : begL s i c.data.toList with
          | true =>
            have hF := firstB_at C k c hall hc hbc
            rw [hbc] at CC
            have HF := Lib.hid hF
            clear hall hc hbc hF
            go_wp2_with (go_at_call 62; refine (CC.out _).mono ?_; rintro e w1 ⟨rfl, rfl⟩)
            go_ret
            rw [HF.out]
            exact ⟨rfl, HB.out⟩
          | false =>
            rw [hbc] at CC
            have HA : Hid (∀ j d, j < k + 1 → C[j]? = some d → begL s i d.data.toList = false) := Lib.hid fun j d hj hd => by
              rcases Nat.lt_or_ge j k with h | h
              · exact hall j d h hd
              · obtain rfl : j = k := by omega
                rw [hc] at hd
                cases hd
                exact hbc
            clear hall hc hbc
            go_wp2_with (go_at_call 62; refine (CC.out _).mono ?_; rintro e w1 ⟨rfl, rfl⟩)
            go_round
            case rel => exact ⟨k + 1, by omega, by go_num, HA.out⟩
            case measure => simp [RowKit.intOf]; omega
        · have hF := firstB_none (s := s) (i := i) C fun j d hj hd => hall j d (by have := HN.out; omega) hd
          have HF := Lib.hid hF
          have hge : ¬ (k : Int) < 2 := by omega
          clear hall hF
          go_wp2
          go_ret
          rw [HF.out]
          exact ⟨rfl, HB.out⟩
    | false =>
      have hD : sgnD s i = firstB s i sgA := by unfold sgnD; rw [if_neg (by rw [h3]; decide), if_neg (by rw [h2]; decide)]
      rw [hD]
      rw [h2] at C2
      clear hD
      obtain ⟨C, hC⟩ : ∃ C, sgA = C := ⟨_, rfl⟩
      have HV : Hid ([.string ⟨#[60, 60, 60, 42]⟩, .string ⟨#[60, 60, 42]⟩, .string ⟨#[60, 42]⟩, .string ⟨#[61, 42]⟩, .string ⟨#[60, 60, 60]⟩, .string ⟨#[60, 60]⟩, .string ⟨#[60]⟩, .string ⟨#[38]⟩, .string ⟨#[61]⟩, .string ⟨#[47]⟩, .string ⟨#[45]⟩] = C.map Value.string) := Lib.hid (by rw [← hC]; rfl)
      have HCZ : Hid (∀ c ∈ C, ByteArray.size c ≤ 100) := Lib.hid (HZ.out C (.inl hC.symm))
      have hN : C.length = 11 := by rw [← hC]; rfl
      rw [hC]
      clear hC
      obtain ⟨W, hW⟩ : ∃ W, w.alloc (.cells #[.string ⟨#[60, 60, 60, 42]⟩, .string ⟨#[60, 60, 42]⟩, .string ⟨#[60, 42]⟩, .string ⟨#[61, 42]⟩, .string ⟨#[60, 60, 60]⟩, .string ⟨#[60, 60]⟩, .string ⟨#[60]⟩, .string ⟨#[38]⟩, .string ⟨#[61]⟩, .string ⟨#[47]⟩, .string ⟨#[45]⟩] 9) = W := ⟨_, rfl⟩
      have hh : W.heap[w.heap.size]? = some (.cells #[.string ⟨#[60, 60, 60, 42]⟩, .string ⟨#[60, 60, 42]⟩, .string ⟨#[60, 42]⟩, .string ⟨#[61, 42]⟩, .string ⟨#[60, 60, 60]⟩, .string ⟨#[60, 60]⟩, .string ⟨#[60]⟩, .string ⟨#[38]⟩, .string ⟨#[61]⟩, .string ⟨#[47]⟩, .string ⟨#[45]⟩] 9 (0, 0)) := by
          rw [← hW]
          exact World.alloc_heap_new w _
      have hb : Below w.heap.size w W := by
          rw [← hW]
          exact (Below.refl _ w).alloc (Nat.le_refl _) _
      have HC := Lib.hid (str_cells hh (C := C) HV.out)
      have HW := Lib.hid hW
      have HB := Lib.hid hb
      have HN := Lib.hid hN
      clear hh hb hW hN
      go_enter Tryz.func41, Tryz.ntmps41
      go_wp2_with (first | (go_at_call 62; refine (C3.out _).mono ?_; clear C3; rintro e w1 ⟨rfl, rfl⟩) | (go_at_call 62; refine (C2.out _).mono ?_; clear C2; rintro e w1 ⟨rfl, rfl⟩))
      rw [HW.out]
      obtain ⟨g, hg⟩ : ∃ g, w.heap.size = g := ⟨_, rfl⟩
      rw [hg]
      rw [hg] at HC
      clear hg
      go_loop [6] (fun v => ∃ k, k ≤ 11 ∧ v = .int .i64 (k : Nat) ∧ ∀ j d, j < k → C[j]? = some d → begL s i d.data.toList = false) (fun v => 11 - (RowKit.intOf v).toNat)
      case atStart => exact ⟨0, by omega, rfl, fun j d h => by omega⟩
      case round =>
        obtain ⟨k, hk, rfl, hall⟩ := hrel
        by_cases hlt : k < 11
        · obtain ⟨c, hc⟩ : ∃ c, C[k]? = some c := ⟨_, List.getElem?_eq_getElem (by have := HN.out; omega)⟩
          have hcell := HC.out k c hc
          have CC := Lib.hid (fun V => CB.out V c (HCZ.out c (List.mem_of_getElem? hc)))
          have hlt' : (k : Int) < 11 := by omega
          cases hbc : begL s i c.data.toList with
          | true =>
            have hF := firstB_at C k c hall hc hbc
            rw [hbc] at CC
            have HF := Lib.hid hF
            clear hall hc hbc hF
            go_wp2_with (go_at_call 62; refine (CC.out _).mono ?_; rintro e w1 ⟨rfl, rfl⟩)
            go_ret
            rw [HF.out]
            exact ⟨rfl, HB.out⟩
          | false =>
            rw [hbc] at CC
            have HA : Hid (∀ j d, j < k + 1 → C[j]? = some d → begL s i d.data.toList = false) := Lib.hid fun j d hj hd => by
              rcases Nat.lt_or_ge j k with h | h
              · exact hall j d h hd
              · obtain rfl : j = k := by omega
                rw [hc] at hd
                cases hd
                exact hbc
            clear hall hc hbc
            go_wp2_with (go_at_call 62; refine (CC.out _).mono ?_; rintro e w1 ⟨rfl, rfl⟩)
            go_round
            case rel => exact ⟨k + 1, by omega, by go_num, HA.out⟩
            case measure => simp [RowKit.intOf]; omega
        · have hF := firstB_none (s := s) (i := i) C fun j d hj hd => hall j d (by have := HN.out; omega) hd
          have HF := Lib.hid hF
          have hge : ¬ (k : Int) < 11 := by omega
          clear hall hF
          go_wp2
          go_ret
          rw [HF.out]
          exact ⟨rfl, HB.out⟩
end Go.Proofs.YtlfdpdlhppgakaaGreatDoor
/- What the scanner's run makes of a text; of the next token. No run in this text. -/
namespace Go.Proofs.YtlfdpdlhppgakaaGreatDoor
open Go Go.RowKit Go.Kt Go.Kt.Rg Go.Shelf Go.Lib

section
variable {s : ByteArray} {T : List Tk} {fr : Pl}
theorem txO_took {c1 c2 : Sc} {r : Int} (h : plainS s c1 r = .took c2) : txO s c1 r = .ok c2 := by unfold txO; rw [h]
theorem txO_bad {c1 : Sc} {r : Int} {no : Nat} {p : Pl} (h : plainS s c1 r = .bad no p) : txO s c1 r = .bad no p := by unfold txO; rw [h]
theorem txO_left {c1 c2 : Sc} {r : Int} (h : plainS s c1 r = .left c2) : txO s c1 r = betweenS s (addT c2 1 c2.text) r := by unfold txO; rw [h]
/-- An escape's units pass. -/
theorem esc_pass {i k : Nat} {c : Sc} {f : Nat} (ha : Ahead s (i + 1) c) (hb : Bdy s (i + k)) (hk : i + k ≤ s.size) (h2 : 2 ≤ k) (h7 : c.st = 7) (hbh : c.behind = i + k) (hf : Fu s (i + 1) f) :
    ∃ c' f', Ahead s (i + k) c' ∧ TX s (i + k) c' c.from c.toks c.text ∧ Fu s (i + k) f' ∧ runS s f (i + 1) c = runS s f' (i + k) c' := by
  obtain ⟨c', f', g1, ⟨g2, g3, g4, g5, g6⟩, g7, g8⟩ := run_hold (s := s) (fun _ c2 => c2.st = 7 ∧ c2.behind = i + k ∧ c2.from = c.from ∧ c2.toks = c.toks ∧ c2.text = c.text) (i + 1) (i + k) hk (fun q c2 h1 h3 h4 hq hc => by
    obtain ⟨e1, e2, e3, e4, e5⟩ := hc
    refine ⟨hq.fits hb h3, { c2 with here := plNext s c2.here q }, ?_, e1, e2, e3, e4, e5⟩
    unfold tokenS
    rw [if_neg (by simp [e1]), if_neg (by simp [e1]), if_neg (by simp [e1]), if_neg (by simp [e1])]
    unfold textS pieceS
    rw [if_neg (by simp [e1]), if_neg (by simp [e1]), if_pos (by simp [e1])]
    unfold escapeS
    rw [if_neg (by simp only [(plNext_ix s c2.here q).1, e2]; omega)]) (k - 1) (i + 1) c f (by omega) (Nat.le_refl _) (by omega) ha ⟨h7, hbh, rfl, rfl, rfl⟩ hf
  exact ⟨c', f', g1, (TX.of7 (s := s) g2 (by omega)).cast g4 g5 g6, g7, g8⟩

theorem xtext_run : ∀ (g i : Nat) (x : List UInt8) (c : Sc) (f : Nat), s.size ≤ i + g → Ahead s i c → TX s i c fr T x → Fu s i f →
    match xtextF s g i x with
    | .ok y next => next ≤ s.size ∧ i ≤ next ∧ (i < s.size → (B s i = 39 ∨ B s i = 92 ∨ isBlk (B s i : Nat) = false ∧ isSgs (B s i : Nat) = false) → i < next) ∧ ∃ c' f', Ahead s next c' ∧ BT s next c' (T ++ [⟨1, y, fr⟩]) ∧ Fu s next f' ∧ runS s f i c = runS s f' next c'
    | .bad no j => ∃ pa : Pl, (∃ n, plN s n = pa) ∧ pa.2.2 = j ∧ finS (runS s f i c) = .bad no pa.1 pa.2.1 := by
  intro g
  induction g using Nat.strongRecOn with
  | ind g ih =>
    intro i x c f hg ha hX hf
    have hle := ha.le
    by_cases hi : i < s.size
    · obtain ⟨g, rfl⟩ : ∃ g', g = g' + 1 := ⟨g - 1, by omega⟩
      obtain ⟨c1, b1, b2, b3, b4, b5⟩ := hX
      have hx1 : c1.here.2.2 = i := by rw [b1]; exact (plNext_ix s c.here i).1
      -- what follows a piece that was taken
      have after : ∀ (j : Nat) (y : List UInt8) (c' : Sc) (f' : Nat), i < j → j ≤ s.size → Ahead s j c' → TX s j c' fr T y → Fu s j f' → runS s f i c = runS s f' j c' →
          ∀ g', g' < g + 1 → s.size ≤ j + g' → match xtextF s g' j y with
          | .ok y next => next ≤ s.size ∧ i ≤ next ∧ (i < s.size → (B s i = 39 ∨ B s i = 92 ∨ isBlk (B s i : Nat) = false ∧ isSgs (B s i : Nat) = false) → i < next) ∧ ∃ c' f', Ahead s next c' ∧ BT s next c' (T ++ [⟨1, y, fr⟩]) ∧ Fu s next f' ∧ runS s f i c = runS s f' next c'
          | .bad no j => ∃ pa : Pl, (∃ n, plN s n = pa) ∧ pa.2.2 = j ∧ finS (runS s f i c) = .bad no pa.1 pa.2.1 := fun j y c' f' h1 h2 h3 h4 h5 h6 g' h7 h8 => by
        have := ih g' h7 j y c' f' h8 h3 h4 h5
        rw [h6]
        cases hz : xtextF s g' j y with
        | ok z next =>
          rw [hz] at this
          obtain ⟨q1, q2, q3, q4⟩ := this
          exact ⟨q1, by omega, fun _ _ => by omega, q4⟩
        | bad no m => rw [hz] at this; exact this
      rw [xtextF, if_pos hi]
      by_cases h39 : B s i = 39
      · rw [if_pos h39]
        have hr : rU s i = 39 := (rU_is hi (by decide)).2 h39
        have hpl : plainS s c1 (rU s i : Nat) = .took { c1 with st := 5, quote := c1.here } := by rw [hr]; rfl
        obtain ⟨f', e, ha2, hf2, _⟩ := run_step ha hi hf (b5.trans (txO_took hpl))
        have hw : (Utf8.decode s i).2 = 1 := by rw [dec_lo s i (by omega)]
        rw [hw] at e ha2 hf2
        have hq := quo_run (s := s) (fr := fr) (T := T) (x0 := x) (qp := c1.here) s.size (i + 1) [] _ f' (by omega) ha2 rfl b2 b3 (by simp only [b4, List.append_nil]) rfl hf2
        unfold xquoV
        cases hv : xquoF s s.size (i + 1) [] with
        | none =>
          rw [hv] at hq
          obtain ⟨hn1, hn2⟩ := ha.pl
          exact ⟨c1.here, by rw [b1]; exact hn1, hx1, by rw [e]; exact hq⟩
        | some r =>
          obtain ⟨y, next⟩ := r
          rw [hv] at hq
          obtain ⟨q1, q2, c', f'', q3, q4, q5, q6⟩ := hq
          exact after next (x ++ y) c' f'' (by omega) q1 q3 q4 q5 (e.trans q6) g (by omega) (by omega)
      rw [if_neg h39]
      by_cases h92 : B s i = 92
      · rw [if_pos h92]
        have hr : rU s i = 92 := (rU_is hi (by decide)).2 h92
        cases hu : unescV (s.extract i s.size) with
        | none =>
          have hpl : plainS s c1 (rU s i : Nat) = .bad 9 c1.here := by
            rw [hr]
            unfold plainS
            rw [if_neg (by decide), if_pos (by decide), hx1, hu]
          obtain ⟨hn1, hn2⟩ := ha.pl
          refine ⟨c1.here, by rw [b1]; exact hn1, hx1, ?_⟩
          rw [run_bad hle hf (b5.trans (txO_bad hpl))]
          rfl
        | some r =>
          obtain ⟨t, k⟩ := r
          have hpl : plainS s c1 (rU s i : Nat) = .took { c1 with st := 7, text := c1.text ++ t, behind := i + k } := by
            rw [hr]
            unfold plainS
            rw [if_neg (by decide), if_pos (by decide), hx1, hu]
          obtain ⟨f', e, ha2, hf2, _⟩ := run_step ha hi hf (b5.trans (txO_took hpl))
          have hw : (Utf8.decode s i).2 = 1 := by rw [dec_lo s i (by omega)]
          rw [hw] at e ha2 hf2
          obtain ⟨k1, k2, k3⟩ := esc_bdy ha.bdy hi h92 hu
          obtain ⟨c', f'', q3, q4, q5, q6⟩ := esc_pass ha2 k1 k3 k2 rfl rfl hf2
          exact after (i + k) (x ++ t) c' f'' (by omega) k3 q3 (q4.cast b2 b3 (by rw [← b4])) q5 (e.trans q6) g (by omega) (by omega)
      rw [if_neg h92]
      have n39 : ((rU s i : Nat) : Int) ≠ 39 := fun h => h39 ((rU_is hi (by decide)).1 (by omega))
      have n92 : ((rU s i : Nat) : Int) ≠ 92 := fun h => h92 ((rU_is hi (by decide)).1 (by omega))
      by_cases hbs : isBlk (B s i : Nat) = true ∨ isSgs (B s i : Nat) = true
      · rw [if_pos hbs]
        have hpl : plainS s c1 (rU s i : Nat) = .left { c1 with st := 4 } := by
          unfold plainS
          rw [if_neg n39, if_neg n92, rU_blk hi, rU_sgs hi]
          by_cases h1 : isBlk (B s i : Nat) = true
          · rw [if_pos h1]
          · rw [if_neg h1, if_pos (hbs.resolve_left h1)]
        refine ⟨hle, Nat.le_refl _, fun _ h => ?_, c, f, ha, ⟨addT { c1 with st := 4 } 1 c1.text, b1, ?_, b5.trans (txO_left hpl)⟩, hf, rfl⟩
        · exfalso
          rcases h with h | h | ⟨h1, h2⟩
          · exact h39 h
          · exact h92 h
          · rcases hbs with h | h
            · rw [h1] at h; cases h
            · rw [h2] at h; cases h
        · unfold addT
          simp only [b2, b3, b4]
      · rw [if_neg hbs]
        have hpl : plainS s c1 (rU s i : Nat) = .took { c1 with st := 4, text := c1.text ++ unitL s i } := by
          unfold plainS
          rw [if_neg n39, if_neg n92, rU_blk hi, rU_sgs hi, if_neg (fun h => hbs (.inl h)), if_neg (fun h => hbs (.inr h)), hx1]
        obtain ⟨f', e, ha2, hf2, _⟩ := run_step ha hi hf (b5.trans (txO_took hpl))
        rw [← unitW_dec hi] at e ha2 hf2
        obtain ⟨u1, u2, u3⟩ := unitW_bd s i hle
        have := u3 hi
        exact after (i + unitW s i) (x ++ seg s i (i + unitW s i)) _ f' (by omega) (by omega) ha2 ((TX.of4 (s := s) rfl).cast b2 b3 (by simp only [b4]; rfl)) hf2 e g (by omega) (by omega)
    · obtain rfl : i = s.size := by omega
      have hz : xtextF s g s.size x = .ok x s.size := by
        cases g with
        | zero => rfl
        | succ g => rw [xtextF, if_neg hi]
      rw [hz]
      obtain ⟨c1, b1, b2, b3, b4, b5⟩ := hX
      have hr : rU s s.size = 10 := rU_out hi
      have hpl : plainS s c1 (rU s s.size : Nat) = .left { c1 with st := 4 } := by rw [hr]; exact plain_10
      refine ⟨Nat.le_refl _, Nat.le_refl _, fun h => absurd h hi, c, f, ha, ⟨addT { c1 with st := 4 } 1 c1.text, b1, ?_, b5.trans (txO_left hpl)⟩, hf, rfl⟩
      unfold addT
      simp only [b2, b3, b4]

/-- What stands at a byte: the end; a token, and the place behind it; a fault. -/
inductive X1 where
  | fin
  | tok (k : Nat) (x : List UInt8) (next : Nat)
  | bad (no i : Nat)
def xoneV (s : ByteArray) (p : Nat) : X1 :=
  if p < s.size then
    (if B s p = 93 then .bad 25 p else if B s p = 42 then .bad 4 p
     else if B s p = 91 then (if xfindI s (93 : Nat) p < 0 then .bad 25 p else .tok 3 (evnV (s.extract (p + 1) (xfindI s (93 : Nat) p).toNat)) ((xfindI s (93 : Nat) p).toNat + 1))
     else if sgnN s p ≠ 0 then .tok 2 (seg s p (p + sgnN s p)) (p + sgnN s p)
     else match xtextV s p with | .ok x next => .tok 1 x next | .bad no i => .bad no i)
  else .fin
theorem one_run {p : Nat} {c : Sc} {f : Nat} (ha : Ahead s p c) (hb : BT s p c T) (hf : Fu s p f) (hp : p < s.size → isBlk (B s p : Nat) = false ∧ B s p ≠ 35) :
    match xoneV s p with
    | .fin => p = s.size ∧ finS (runS s f p c) = .ok (T ++ [⟨0, [], plNext s c.here p⟩])
    | .tok k x next => (k = 1 ∨ k = 2 ∨ k = 3) ∧ p < next ∧ next ≤ s.size ∧ ∃ c' f', Ahead s next c' ∧ BT s next c' (T ++ [⟨k, x, plNext s c.here p⟩]) ∧ Fu s next f' ∧ runS s f p c = runS s f' next c'
    | .bad no j => ∃ pa : Pl, (∃ n, plN s n = pa) ∧ pa.2.2 = j ∧ finS (runS s f p c) = .bad no pa.1 pa.2.1 := by
  have hle := ha.le
  unfold xoneV
  by_cases hps : p < s.size
  · rw [if_pos hps]
    obtain ⟨hk, h35⟩ := hp hps
    have r35 : ((rU s p : Nat) : Int) ≠ 35 := fun h => h35 ((rU_is hps (by decide)).1 (by omega))
    have hbk : ¬ isBlk (rU s p : Nat) = true := by rw [rU_blk hps, hk]; decide
    by_cases h93 : B s p = 93
    · rw [if_pos h93]
      have hr : rU s p = 93 := (rU_is hps (by decide)).2 h93
      obtain ⟨cc, b1, b2, b3⟩ := hb
      have hbs : betweenS s cc (rU s p : Nat) = .bad 25 cc.here := by
        rw [hr]
        unfold betweenS
        rw [if_neg (by decide), if_neg (by decide), if_neg (by decide), if_neg (by decide), if_pos (by decide)]
      obtain ⟨hn1, hn2⟩ := ha.pl
      refine ⟨cc.here, by rw [b1]; exact hn1, by rw [b1]; exact hn2, ?_⟩
      rw [run_bad hle hf (b3.trans hbs)]
      rfl
    rw [if_neg h93]
    by_cases h42 : B s p = 42
    · rw [if_pos h42]
      have hr : rU s p = 42 := (rU_is hps (by decide)).2 h42
      obtain ⟨cc, b1, b2, b3⟩ := hb
      have hbs : betweenS s cc (rU s p : Nat) = .bad 4 cc.here := by
        rw [hr]
        unfold betweenS
        rw [if_neg (by decide), if_neg (by decide), if_neg (by decide), if_neg (by decide), if_neg (by decide), if_pos (by decide)]
      obtain ⟨hn1, hn2⟩ := ha.pl
      refine ⟨cc.here, by rw [b1]; exact hn1, by rw [b1]; exact hn2, ?_⟩
      rw [run_bad hle hf (b3.trans hbs)]
      rfl
    rw [if_neg h42]
    by_cases h91 : B s p = 91
    · rw [if_pos h91]
      obtain ⟨o1, o2⟩ := option_run ha hb hf hps h91
      rcases xfindI_spec s 93 p hle with ⟨e1, h1⟩ | ⟨j, e1, h1, h2, h3, h4⟩
      · rw [e1, if_pos (by decide)]
        obtain ⟨hn1, hn2⟩ := ha.pl
        exact ⟨_, hn1, hn2, o2 h1⟩
      · rw [e1, if_neg (by omega), Int.toNat_natCast]
        exact ⟨.inr (.inr rfl), by omega, by omega, o1 j h1 h2 h3 h4⟩
    rw [if_neg h91]
    by_cases hsg : sgnN s p ≠ 0
    · rw [if_pos hsg]
      have := (sgn_stop s p hsg).1
      exact ⟨.inr (.inl rfl), by omega, this, sign_run ha hb hf hps hk h35 hsg⟩
    · rw [if_neg hsg]
      have hsn : ¬ isSgn (encL (rU s p : Nat)) = true := fun h => hsg ((sgn_first hps).1 h)
      have hfirst : B s p = 39 ∨ B s p = 92 ∨ isBlk (B s p : Nat) = false ∧ isSgs (B s p : Nat) = false := by
        by_cases h39 : B s p = 39
        · exact .inl h39
        by_cases h92 : B s p = 92
        · exact .inr (.inl h92)
        refine .inr (.inr ⟨hk, ?_⟩)
        have h0 : sgnN s p = 0 := by omega
        have hs : ∀ b : Nat, b ≠ 39 → b ≠ 92 → b ≠ 93 → b ≠ 42 → b ≠ 91 → b ≠ 35 → b ≠ 60 → b ≠ 61 → b ≠ 38 → b ≠ 47 → b ≠ 45 → isSgs (b : Nat) = false := fun b a1 a2 a3 a4 a5 a6 a7 a8 a9 a10 a11 => by
          unfold isSgs sgsI
          rw [← Bool.not_eq_true, List.contains_iff_mem]
          intro h
          simp only [List.mem_cons, List.not_mem_nil, or_false] at h
          omega
        have hne : B s p ≠ 60 ∧ B s p ≠ 61 ∧ B s p ≠ 38 ∧ B s p ≠ 47 ∧ B s p ≠ 45 := by
          unfold sgnN at h0
          refine ⟨fun h => ?_, fun h => ?_, fun h => ?_, fun h => ?_, fun h => ?_⟩
          · rw [if_pos h] at h0; repeat' split at h0
            all_goals omega
          · rw [if_neg (by omega), if_pos h] at h0; split at h0 <;> omega
          · rw [if_neg (by omega), if_neg (by omega), if_pos (.inl h)] at h0; omega
          · rw [if_neg (by omega), if_neg (by omega), if_pos (.inr (.inl h))] at h0; omega
          · rw [if_neg (by omega), if_neg (by omega), if_pos (.inr (.inr h))] at h0; omega
        exact hs _ h39 h92 h93 h42 h91 h35 hne.1 hne.2.1 hne.2.2.1 hne.2.2.2.1 hne.2.2.2.2
      obtain ⟨cc, b1, b2, b3⟩ := hb
      have r91 : ((rU s p : Nat) : Int) ≠ 91 := fun h => h91 ((rU_is hps (by decide)).1 (by omega))
      have r93 : ((rU s p : Nat) : Int) ≠ 93 := fun h => h93 ((rU_is hps (by decide)).1 (by omega))
      have r42 : ((rU s p : Nat) : Int) ≠ 42 := fun h => h42 ((rU_is hps (by decide)).1 (by omega))
      have hnl : ∀ c2, plainS s { cc with st := 4, «from» := cc.here, text := [] } (rU s p : Nat) ≠ .left c2 := fun c2 h => by
        unfold plainS at h
        rw [rU_blk hps, rU_sgs hps] at h
        split at h
        · cases h
        rename_i g39
        split at h
        · split at h <;> cases h
        rename_i g92
        rcases hfirst with h1 | h1 | ⟨h1, h2⟩
        · exact g39 (by rw [(rU_is hps (by decide)).2 h1]; rfl)
        · exact g92 (by rw [(rU_is hps (by decide)).2 h1]; rfl)
        · rw [if_neg (by rw [h1]; decide), if_neg (by rw [h2]; decide)] at h
          cases h
      have hX : TX s p c (plNext s c.here p) T [] := by
        refine ⟨{ cc with st := 4, «from» := cc.here, text := [] }, b1, b1, b2, rfl, b3.trans ?_⟩
        unfold betweenS
        rw [if_neg hbk, if_neg r35, if_neg hsn, if_neg r91, if_neg r93, if_neg r42]
        unfold txO
        cases hpl : plainS s { cc with st := 4, «from» := cc.here, text := [] } (rU s p : Nat) with
        | took c2 => rfl
        | bad no z => rfl
        | left c2 => exact absurd hpl (hnl c2)
      have := xtext_run (s := s) (fr := plNext s c.here p) (T := T) s.size p [] c f (by omega) ha hX hf
      unfold xtextV
      cases hz : xtextF s s.size p [] with
      | ok y next =>
        rw [hz] at this
        obtain ⟨q1, q2, q3, q4⟩ := this
        exact ⟨.inl rfl, q3 hps hfirst, q1, q4⟩
      | bad no j => rw [hz] at this; exact this
  · rw [if_neg hps]
    obtain rfl : p = s.size := by omega
    obtain ⟨cc, b1, b2, b3⟩ := hb
    rw [rU_out hps] at b3
    have h10 : betweenS s cc ((10 : Nat) : Int) = .ok { cc with st := 0, «from» := cc.here } := between10 s cc
    refine ⟨rfl, ?_⟩
    rw [run_fin hf (b3.trans h10)]
    show endS _ = _
    unfold endS
    rw [if_neg (by simp), if_neg (by simp)]
    simp only [b1, b2]

/-- The scanner ahead of a token: what is still to come answers R. -/
def XS (s : ByteArray) (i : Nat) (T : List Tk) (R : SR) : Prop := ∃ c f, Ahead s i c ∧ BT s i c T ∧ Fu s i f ∧ finS (runS s f i c) = R
theorem XS.first (s : ByteArray) : XS s 0 [] (finS (runS s (s.size + 1) 0 c0S)) := ⟨c0S, s.size + 1, .inl ⟨rfl, rfl⟩, BT.of0 (s := s) (i := 0) (c := c0S) rfl, by unfold Fu; omega, rfl⟩
/-- One token more. -/
theorem XS.step {i : Nat} {R : SR} (h : XS s i T R) : i ≤ xpastF s (s.size + 1) i ∧ xpastF s (s.size + 1) i ≤ s.size ∧ ∃ pl : Pl, (∃ n, plN s n = pl) ∧ pl.2.2 = xpastF s (s.size + 1) i ∧
    match xoneV s (xpastF s (s.size + 1) i) with
    | .fin => xpastF s (s.size + 1) i = s.size ∧ R = .ok (T ++ [⟨0, [], pl⟩])
    | .tok k x next => (k = 1 ∨ k = 2 ∨ k = 3) ∧ xpastF s (s.size + 1) i < next ∧ next ≤ s.size ∧ XS s next (T ++ [⟨k, x, pl⟩]) R
    | .bad no j => ∃ pa : Pl, (∃ n, plN s n = pa) ∧ pa.2.2 = j ∧ R = .bad no pa.1 pa.2.1 := by
  obtain ⟨c, f, ha, hb, hf, hR⟩ := h
  obtain ⟨p1, p2, p3, c', f', q1, q2, q3, q4⟩ := past_run (s := s) (T := T) (s.size + 1) i c f ha hb (by omega) hf
  rw [q4] at hR
  refine ⟨p2, p1, plNext s c'.here (xpastF s (s.size + 1) i), q1.pl.1, q1.pl.2, ?_⟩
  have := one_run q1 q2 q3 p3
  cases hz : xoneV s (xpastF s (s.size + 1) i) with
  | fin => rw [hz] at this; exact ⟨this.1, hR.symm.trans this.2⟩
  | tok k x next =>
    rw [hz] at this
    obtain ⟨a1, a2, a3, c2, f2, a4, a5, a6, a7⟩ := this
    exact ⟨a1, a2, a3, c2, f2, a4, a5, a6, by rw [← a7]; exact hR⟩
  | bad no j =>
    rw [hz] at this
    obtain ⟨pa, a1, a2, a3⟩ := this
    exact ⟨pa, a1, a2, hR.symm.trans a3⟩
end
end Go.Proofs.YtlfdpdlhppgakaaGreatDoor
/- The document's answer for scan: text: the walk. -/
namespace Go.Proofs.YtlfdpdlhppgakaaGreatDoor
open Go Go.RowKit Go.Kt Go.Kt.Rg Go.Shelf Go.Lib
attribute [local go_sem] Oper.semAt_some

/-- A byte appended to a row of one's own, whatever else lies there. -/
theorem ownB_addY {Y : Nat → Prop} {wr : World} {ao : Option Addr} {cp m : Nat} {acc : List UInt8} (hown : OwnB Y (.slice ao m cp) acc wr) (hm : m = acc.length) (hY : ∀ b, wr.heap.size < b → Y b) (y : UInt8) (hl : acc.length + 1 ≤ 140737488355328) :
    ∃ g3 cap3 w3, (∀ ty, (Builtin.append_ #[51, 51] ty #[.slice ao m cp, .slice (some ⟨wr.heap.size, 0, none⟩) 1 1]).run Tryz.prog (wr.alloc (.cells #[.int .u8 (y.toNat : Nat)] 5)) = .ok (.slice (some ⟨g3, 0, none⟩) (m + 1) cap3) w3) ∧
      OwnB Y (.slice (some ⟨g3, 0, none⟩) (m + 1) cap3) (acc ++ [y]) w3 ∧ Keep (fun b => (Value.slice ao m cp).ownBlock = some b) wr w3 ∧ m + 1 = (acc ++ [y]).length := by
  obtain ⟨g3, cap3, w3, hrun, hown3, hk3, hg3, hz3⟩ := append_b (P := Tryz.prog) wr 51 5 Tryz.underlying51 tinfo5 hown.1 (.int .u8 (y.toNat : Nat)) rfl hl
  subst hm
  have e1 : acc.length + 1 = (acc ++ [y]).length := by simp
  refine ⟨g3, cap3, w3, hrun, ⟨?_, ?_⟩, hk3, e1⟩
  · rw [← e1]
    have e2 : Lib.byteCells (acc ++ [y]) = Lib.byteCells acc ++ [.int .u8 (y.toNat : Nat)] := by simp [Lib.byteCells]
    rw [e2]
    exact hown3
  · intro b hb2
    have : g3 = b := by simpa [Value.ownBlock] using hb2
    subst this
    rcases hg3 with h | h
    · exact hown.2 _ h
    · exact hY _ h
/-- A byte of a row of one's own. -/
theorem ownB_at {Y : Nat → Prop} {W : World} {ao : Option Addr} {cp : Nat} {l : List UInt8} (h : OwnB Y (.slice ao l.length cp) l W) {j : Nat} {y : UInt8} (hj : l[j]? = some y) : ∃ g, ao = some ⟨g, 0, none⟩ ∧ W.cell? ⟨g, j, none⟩ = some (.int .u8 (y.toNat : Nat)) := by
  have hlt := (List.getElem?_eq_some_iff.1 hj).1
  rcases h.1.2 with ⟨_, hn⟩ | ⟨g, cap, cur, fz, hv, _⟩
  · omega
  · injection hv with h1 h2 h3
    subst h1
    refine ⟨g, rfl, ?_⟩
    have := World.ownsRowF.cells h.1 (g := g) (by simp [Value.ownBlock]) j (.int .u8 (y.toNat : Nat)) (by simp [Lib.byteCells, hj])
    rw [Addr.add_lit] at this
    simpa using this
theorem xquo_bd (s : ByteArray) : ∀ (f k : Nat) (out y : List UInt8) (next : Nat), xquoF s f k out = some (y, next) → k < next ∧ next ≤ s.size ∧ y.length + k ≤ out.length + next := by
  intro f
  induction f with
  | zero => intro k out y next h; cases h
  | succ f ih =>
    intro k out y next h
    rw [xquoF] at h
    split at h
    · split at h
      · split at h
        · have := ih _ _ _ _ h
          simp only [List.length_append, List.length_cons, List.length_nil] at this
          omega
        · injection h with h
          injection h with h1 h2
          subst h1 h2
          omega
      · have := ih _ _ _ _ h
        simp only [List.length_append, List.length_cons, List.length_nil] at this
        omega
    · cases h

def textO (o : TxR) (e : Ending) : Prop := match o with
  | .ok x next => e = .returned (.tuple #[.string ⟨x.toArray⟩, .int .i64 (next : Nat), .int .i64 0])
  | .bad no j => e = .returned (.tuple #[.string ⟨#[]⟩, .int .i64 (j : Nat), .int .i64 (no : Nat)])
set_option maxRecDepth 100000 in
set_option maxHeartbeats 4000000 in
theorem xtext_any (s : ByteArray) (i : Nat) (w : World) (hs : s.size ≤ 1048576) (hi : i ≤ s.size) :
    Calls Tryz.prog 42 #[.string s, .int .i64 (i : Nat)] w fun e w' => textO (xtextV s i) e ∧ Below w.heap.size w w' := by
  obtain ⟨R, hR⟩ : ∃ R, xtextF s s.size i [] = R := ⟨_, rfl⟩
  have hR2 : xtextV s i = R := hR
  rw [hR2]
  have HR := Lib.hid hR
  clear hR hR2
  go_enter Tryz.func42, Tryz.ntmps42
  go_wp2
  go_loopw [1, 7] (fun v o wr => ∃ (k f : Nat) (ao : Option Addr) (cp m : Nat) (acc : List UInt8), k ≤ s.size ∧ s.size ≤ k + f ∧ v = .int .i64 k ∧ o = .slice ao m cp ∧ m = acc.length ∧ m ≤ 4 * k ∧ OwnB (fun b => w.heap.size ≤ b) (.slice ao m cp) acc wr ∧ Below w.heap.size w wr ∧ xtextF s f k acc = R)
    (fun v _ _ => s.size - (RowKit.intOf v).toNat)
  case atStart => exact ⟨i, s.size, none, 0, 0, [], hi, by omega, rfl, rfl, rfl, by omega, OwnB.nil _ _, Below.refl _ _, HR.out⟩
  case round =>
    obtain ⟨k, f, ao, cp, m, acc, hk, hf, rfl, rfl, hm, hmk, hown, hb, hc⟩ := hrel
    by_cases hlt : k < s.size
    · have HI : ∀ w, (Instr.index 9 (.string s) (.int .i64 (k : Nat))).run Tryz.prog w = .ok (.int .u8 (bAt s k)) w := fun w => run_bAt s k hlt w
      have hlt' : (k : Int) < s.size := by omega
      obtain ⟨f, rfl⟩ : ∃ f', f = f' + 1 := ⟨f - 1, by omega⟩
      rw [xtextF, if_pos hlt] at hc
      by_cases h39 : B s k = 39
      · rw [if_pos h39] at hc
        have hb39 : bAt s k = 39 := by rw [bAt_B, h39]; rfl
        rw [hb39] at HI
        have CQ := Lib.hid (fun V => xquoted_any s k V (by omega) (by omega))
        cases hq : xquoV s k with
        | none =>
          rw [hq] at CQ hc
          have HO : Hid (textO R (.returned (.tuple #[.string ⟨#[]⟩, .int .i64 (k : Nat), .int .i64 10]))) := Lib.hid (by rw [← hc]; rfl)
          have HB := Lib.hid hb
          clear hc hown hb hm h39 hb39 hq
          go_wp2_with (go_at_call 63; refine (CQ.out _).mono ?_; rintro e w1 ⟨hq1, hw1⟩; have hq2 : e = _ := hq1; subst hq2)
          go_ret3
          exact ⟨HO.out, HB.out.trans (hw1.mono HB.out.size)⟩
        | some r =>
          obtain ⟨bs, nx⟩ := r
          rw [hq] at CQ hc
          simp only at hc
          obtain ⟨x1, x2, x3⟩ := xquo_bd s _ _ _ _ _ hq
          simp only [List.length_nil] at x3
          have HM : Hid (m = acc.length ∧ m + bs.length ≤ 100000000 ∧ k < nx ∧ nx ≤ s.size ∧ m + bs.length ≤ 4 * nx ∧ xtextF s f nx (acc ++ bs) = R) := Lib.hid ⟨hm, by omega, by omega, by omega, by omega, hc⟩
          have HN := Lib.hid (And.intro hown hb)
          clear hc hown hb hm h39 hb39 hq x1 x2 x3
          go_wp2_with (go_at_call 63; refine (CQ.out _).mono ?_; rintro e w1 ⟨⟨ap, pcp, rfl, hpart⟩, hw1⟩; have HP := Lib.hid (And.intro hpart hw1); clear hpart hw1)
          obtain ⟨rs, hrs⟩ : ∃ rs, wr.heap.size = rs := ⟨_, rfl⟩
          have HX : Hid (OwnB (fun b => w.heap.size ≤ b ∧ (b < rs ∨ w1.heap.size ≤ b)) (.slice ao m cp) acc w1 ∧ OwnB (fun b => rs ≤ b ∧ b < w1.heap.size) (.slice ap bs.length pcp) bs w1 ∧ Below w.heap.size w w1 ∧ w.heap.size ≤ rs ∧ rs ≤ w1.heap.size) := Lib.hid (by
            obtain ⟨hown, hb⟩ := HN.out
            obtain ⟨hpart, hpb⟩ := HP.out
            rw [hrs] at hpart hpb
            have hz := hpb.size
            rw [hrs] at hz
            have hz2 := hb.size
            rw [hrs] at hz2
            refine ⟨(hown.lt.keep (X := fun _ => False) (B := w1) ⟨hpb.os, hpb.tape, hpb.output, hpb.size, fun c hc _ => hpb.block c (by rw [← hrs]; exact hc)⟩ (fun _ h => h.elim)).weaken (fun b h => ⟨h.1, .inl (by rw [← hrs]; exact h.2)⟩), hpart.lt, hb.trans (hpb.mono hz2), hz2, hz⟩)
          clear HP HN
          have hbz : bs.length ≤ 100000000 := by have := HM.out.2.1; omega
          go_wp2
          go_loopw [7, 13] (fun o jv wi => ∃ (j : Nat) (ao2 : Option Addr) (cp2 m2 : Nat), j ≤ bs.length ∧ jv = .int .i64 j ∧ o = .slice ao2 m2 cp2 ∧ m2 = m + j ∧ OwnB (fun b => w.heap.size ≤ b ∧ (b < rs ∨ w1.heap.size ≤ b)) (.slice ao2 m2 cp2) (acc ++ bs.take j) wi ∧ OwnB (fun b => rs ≤ b ∧ b < w1.heap.size) (.slice ap bs.length pcp) bs wi ∧ Below w.heap.size w wi ∧ w1.heap.size ≤ wi.heap.size)
            (fun _ jv _ => bs.length - (RowKit.intOf jv).toNat)
          case atStart => exact ⟨0, ao, cp, m, by omega, rfl, rfl, rfl, by simpa using HX.out.1, HX.out.2.1, HX.out.2.2.1, Nat.le_refl _⟩
          case round =>
            obtain ⟨j, ao2, cp2, m2, hj, rfl, rfl, hm2, hown2, hpart2, hb2, hz2⟩ := hrel
            by_cases hjl : j < bs.length
            · obtain ⟨y, hy⟩ : ∃ y, bs[j]? = some y := ⟨bs[j], List.getElem?_eq_getElem hjl⟩
              obtain ⟨g, rfl, pc⟩ := ownB_at hpart2 hy
              have hal : m2 = (acc ++ bs.take j).length := by rw [List.length_append, List.length_take, hm2, HM.out.1]; omega
              obtain ⟨g3, cap3, w3, hrun, hown3, hk3, hl3⟩ := ownB_addY hown2 hal (fun b hb => ⟨by have := HX.out.2.2.2; omega, .inr (by omega)⟩) y (by rw [← hal, hm2]; have := HM.out.2.1; omega)
              have HG : Hid (OwnB (fun b => w.heap.size ≤ b ∧ (b < rs ∨ w1.heap.size ≤ b)) (.slice (some ⟨g3, 0, none⟩) (m2 + 1) cap3) (acc ++ bs.take (j + 1)) w3 ∧ OwnB (fun b => rs ≤ b ∧ b < w1.heap.size) (.slice (some ⟨g, 0, none⟩) bs.length pcp) bs w3 ∧ Below w.heap.size w w3 ∧ w1.heap.size ≤ w3.heap.size) := Lib.hid (by
                refine ⟨?_, hpart2.keep hk3 (fun b hb hp => ?_), hb2.trans (hk3.below hb2.size fun b h => (hown2.2 b h).1), Nat.le_trans hz2 hk3.size⟩
                · rw [List.take_add_one, hy]
                  have e2 : acc ++ (bs.take j ++ (some y).toList) = acc ++ bs.take j ++ [y] := by simp
                  rw [e2]
                  exact hown3
                · have := (hown2.2 b hb).2
                  omega)
              have HR2 := Lib.hid hrun
              have HJ := Lib.hid hm2
              clear hrun hown3 hk3 hl3 hown2 hpart2 hb2 hz2 hal hm2 hy
              go_wp2_with (at_builtin; refine wpList_append_eq rfl rfl rfl rfl HR2.out ?_)
              go_roundw
              case rel => exact ⟨j + 1, some ⟨g3, 0, none⟩, cap3, m2 + 1, by omega, by go_num, rfl, by rw [HJ.out, Nat.add_assoc], HG.out⟩
              case measure => simp [RowKit.intOf]; omega
            · obtain rfl : j = bs.length := by omega
              rw [List.take_length] at hown2
              have HG := Lib.hid (And.intro hown2 (And.intro hb2 hm2))
              clear hown2 hb2 hm2 hpart2 hz2
              go_wp2
              go_roundw
              case rel => exact ⟨nx, f, ao2, cp2, m2, acc ++ bs, HM.out.2.2.2.1, by have := HM.out.2.2.1; omega, rfl, rfl, by rw [List.length_append, ← HM.out.1]; exact HG.out.2.2, by rw [HG.out.2.2]; exact HM.out.2.2.2.2.1, HG.out.1.weaken (fun _ h => h.1), HG.out.2.1, HM.out.2.2.2.2.2⟩
              case measure => have := HM.out.2.2; simp [RowKit.intOf]; omega
      · rw [if_neg h39] at hc
        have hb39 : (bAt s k == 39) = false := by rw [bAt_B]; simp; omega
        by_cases h92 : B s k = 92
        · rw [if_pos h92] at hc
          have hb92 : bAt s k = 92 := by rw [bAt_B, h92]; rfl
          rw [hb92] at HI
          clear hb39
          have CE := Lib.hid (fun V => xescaped_any s k V (by omega) hlt h92)
          cases hq : unescV (s.extract k s.size) with
          | none =>
            rw [hq] at CE hc
            have HO : Hid (textO R (.returned (.tuple #[.string ⟨#[]⟩, .int .i64 (k : Nat), .int .i64 9]))) := Lib.hid (by rw [← hc]; rfl)
            have HB := Lib.hid hb
            clear hc hown hb hm h39 hq h92 hb92
            go_wp2_with (go_at_call 64; refine (CE.out _).mono ?_; rintro e w1 ⟨hq1, hw1⟩; have hq2 : e = _ := hq1; subst hq2)
            go_ret3
            exact ⟨HO.out, HB.out.trans (hw1.mono HB.out.size)⟩
          | some r =>
            obtain ⟨bs, kk⟩ := r
            rw [hq] at CE hc
            simp only at hc
            have hz := rest_z (s := s) k
            obtain ⟨x1, -, x2⟩ := unesc_bd (by omega) hq
            have x3 := unesc_le (by omega) hq
            have x4 := unesc_ge hq
            obtain ⟨nx, hnx⟩ : ∃ nx, k + kk = nx := ⟨_, rfl⟩
            rw [hnx] at hc
            have CE2 : Hid (∀ V, Calls Tryz.prog 64 #[.string s, .int .i64 (k : Nat)] V fun e w' => (∃ ao cp, e = .returned (.tuple #[.slice ao bs.length cp, .int .i64 (nx : Nat), .int .i64 0]) ∧ OwnB (fun b => V.heap.size ≤ b) (.slice ao bs.length cp) bs w') ∧ Below V.heap.size V w') := Lib.hid fun V => by
              rw [← hnx]
              exact CE.out V
            have HM : Hid (m = acc.length ∧ m + bs.length ≤ 100000000 ∧ k < nx ∧ nx ≤ s.size ∧ m + bs.length ≤ 4 * nx ∧ xtextF s f nx (acc ++ bs) = R) := Lib.hid ⟨hm, by omega, by omega, by omega, by omega, hc⟩
            have HN := Lib.hid (And.intro hown hb)
            clear hc hown hb hm h39 hq x1 x2 x3 x4 h92 hb92 hnx hz CE
            go_wp2_with (go_at_call 64; refine (CE2.out _).mono ?_; rintro e w1 ⟨⟨ap, pcp, rfl, hpart⟩, hw1⟩; have HP := Lib.hid (And.intro hpart hw1); clear hpart hw1)
            obtain ⟨rs, hrs⟩ : ∃ rs, wr.heap.size = rs := ⟨_, rfl⟩
            have HX : Hid (OwnB (fun b => w.heap.size ≤ b ∧ (b < rs ∨ w1.heap.size ≤ b)) (.slice ao m cp) acc w1 ∧ OwnB (fun b => rs ≤ b ∧ b < w1.heap.size) (.slice ap bs.length pcp) bs w1 ∧ Below w.heap.size w w1 ∧ w.heap.size ≤ rs ∧ rs ≤ w1.heap.size) := Lib.hid (by
              obtain ⟨hown, hb⟩ := HN.out
              obtain ⟨hpart, hpb⟩ := HP.out
              rw [hrs] at hpart hpb
              have hz := hpb.size
              rw [hrs] at hz
              have hz2 := hb.size
              rw [hrs] at hz2
              refine ⟨(hown.lt.keep (X := fun _ => False) (B := w1) ⟨hpb.os, hpb.tape, hpb.output, hpb.size, fun c hc _ => hpb.block c (by rw [← hrs]; exact hc)⟩ (fun _ h => h.elim)).weaken (fun b h => ⟨h.1, .inl (by rw [← hrs]; exact h.2)⟩), hpart.lt, hb.trans (hpb.mono hz2), hz2, hz⟩)
            clear HP HN
            have hbz : bs.length ≤ 100000000 := by have := HM.out.2.1; omega
            go_wp2
            go_loopw [7, 13] (fun o jv wi => ∃ (j : Nat) (ao2 : Option Addr) (cp2 m2 : Nat), j ≤ bs.length ∧ jv = .int .i64 j ∧ o = .slice ao2 m2 cp2 ∧ m2 = m + j ∧ OwnB (fun b => w.heap.size ≤ b ∧ (b < rs ∨ w1.heap.size ≤ b)) (.slice ao2 m2 cp2) (acc ++ bs.take j) wi ∧ OwnB (fun b => rs ≤ b ∧ b < w1.heap.size) (.slice ap bs.length pcp) bs wi ∧ Below w.heap.size w wi ∧ w1.heap.size ≤ wi.heap.size)
              (fun _ jv _ => bs.length - (RowKit.intOf jv).toNat)
            case atStart => exact ⟨0, ao, cp, m, by omega, rfl, rfl, rfl, by simpa using HX.out.1, HX.out.2.1, HX.out.2.2.1, Nat.le_refl _⟩
            case round =>
              obtain ⟨j, ao2, cp2, m2, hj, rfl, rfl, hm2, hown2, hpart2, hb2, hz2⟩ := hrel
              by_cases hjl : j < bs.length
              · obtain ⟨y, hy⟩ : ∃ y, bs[j]? = some y := ⟨bs[j], List.getElem?_eq_getElem hjl⟩
                obtain ⟨g, rfl, pc⟩ := ownB_at hpart2 hy
                have hal : m2 = (acc ++ bs.take j).length := by rw [List.length_append, List.length_take, hm2, HM.out.1]; omega
                obtain ⟨g3, cap3, w3, hrun, hown3, hk3, hl3⟩ := ownB_addY hown2 hal (fun b hb => ⟨by have := HX.out.2.2.2; omega, .inr (by omega)⟩) y (by rw [← hal, hm2]; have := HM.out.2.1; omega)
                have HG : Hid (OwnB (fun b => w.heap.size ≤ b ∧ (b < rs ∨ w1.heap.size ≤ b)) (.slice (some ⟨g3, 0, none⟩) (m2 + 1) cap3) (acc ++ bs.take (j + 1)) w3 ∧ OwnB (fun b => rs ≤ b ∧ b < w1.heap.size) (.slice (some ⟨g, 0, none⟩) bs.length pcp) bs w3 ∧ Below w.heap.size w w3 ∧ w1.heap.size ≤ w3.heap.size) := Lib.hid (by
                  refine ⟨?_, hpart2.keep hk3 (fun b hb hp => ?_), hb2.trans (hk3.below hb2.size fun b h => (hown2.2 b h).1), Nat.le_trans hz2 hk3.size⟩
                  · rw [List.take_add_one, hy]
                    have e2 : acc ++ (bs.take j ++ (some y).toList) = acc ++ bs.take j ++ [y] := by simp
                    rw [e2]
                    exact hown3
                  · have := (hown2.2 b hb).2
                    omega)
                have HR2 := Lib.hid hrun
                have HJ := Lib.hid hm2
                clear hrun hown3 hk3 hl3 hown2 hpart2 hb2 hz2 hal hm2 hy
                go_wp2_with (at_builtin; refine wpList_append_eq rfl rfl rfl rfl HR2.out ?_)
                go_roundw
                case rel => exact ⟨j + 1, some ⟨g3, 0, none⟩, cap3, m2 + 1, by omega, by go_num, rfl, by rw [HJ.out, Nat.add_assoc], HG.out⟩
                case measure => simp [RowKit.intOf]; omega
              · obtain rfl : j = bs.length := by omega
                rw [List.take_length] at hown2
                have HG := Lib.hid (And.intro hown2 (And.intro hb2 hm2))
                clear hown2 hb2 hm2 hpart2 hz2
                go_wp2
                go_roundw
                case rel => exact ⟨nx, f, ao2, cp2, m2, acc ++ bs, HM.out.2.2.2.1, by have := HM.out.2.2.1; omega, rfl, rfl, by rw [List.length_append, ← HM.out.1]; exact HG.out.2.2, by rw [HG.out.2.2]; exact HM.out.2.2.2.2.1, HG.out.1.weaken (fun _ h => h.1), HG.out.2.1, HM.out.2.2.2.2.2⟩
                case measure => have := HM.out.2.2; simp [RowKit.intOf]; omega
        · rw [if_neg h92] at hc
          have hb92 : (bAt s k == 92) = false := by rw [bAt_B]; simp; omega
          have CB := Lib.hid (fun V => xBlank_any (bAt s k) V)
          have CS := Lib.hid (fun V => xSigns_any (bAt s k) V)
          rw [← bAt_B] at hc
          cases hbk : isBlk (bAt s k) with
          | true =>
            rw [if_pos (.inl hbk)] at hc
            rw [hbk] at CB
            subst hm
            have ht := hown.text
            have HO : Hid (textO R (.returned (.tuple #[.string ⟨acc.toArray⟩, .int .i64 (k : Nat), .int .i64 0])) ∧ Below w.heap.size w wr) := Lib.hid ⟨by rw [← hc]; rfl, hb⟩
            generalize bAt s k = b at *
            clear hc hown hb h39 h92 hbk
            go_wp2_with (first | (go_at_call 43; refine (CB.out _).mono ?_; rintro e w1 ⟨rfl, rfl⟩) | (simp only [ht]))
            all_goals
              go_ret3
              exact HO.out
          | false =>
            rw [hbk] at CB
            cases hsg : isSgs (bAt s k) with
            | true =>
              rw [if_pos (.inr hsg)] at hc
              rw [hsg] at CS
              subst hm
              have ht := hown.text
              have HO : Hid (textO R (.returned (.tuple #[.string ⟨acc.toArray⟩, .int .i64 (k : Nat), .int .i64 0])) ∧ Below w.heap.size w wr) := Lib.hid ⟨by rw [← hc]; rfl, hb⟩
              generalize bAt s k = b at *
              clear hc hown hb h39 h92 hbk hsg
              go_wp2_with (first | (go_at_call 43; refine (CB.out _).mono ?_; rintro e w1 ⟨rfl, rfl⟩) | (go_at_call 37; refine (CS.out _).mono ?_; rintro e w1 ⟨rfl, rfl⟩) | (simp only [ht]))
              all_goals
                go_ret3
                exact HO.out
            | false =>
              rw [if_neg (by rw [hbk, hsg]; decide)] at hc
              rw [hsg] at CS
              have hw := dec_width s k hlt
              have hsl := seg_len s k (k + unitW s k) (by omega) (by rw [unitW_dec hlt]; omega)
              have CN : Hid (∀ V, Calls Tryz.prog 44 #[.string s, .int .i64 (k : Nat)] V fun e w' => e = .returned (.tuple #[.int .i32 ((ptU s k).1 : Nat), .int .i64 (unitW s k : Nat)]) ∧ V = w') := Lib.hid fun V => by
                have := refNext_any s ((k : Nat) : Int) V (by omega)
                rw [ptP_in s k hlt, ptU_wide_eq, ← unitW_dec hlt] at this
                exact this
              have CY : Hid (∀ V, Calls Tryz.prog 38 #[.int .i32 ((ptU s k).1 : Nat)] V (NewB (seg s k (k + unitW s k)) V)) := Lib.hid fun V => by
                have := refBytes_any ((ptU s k).1 : Nat) V (ptU_point s k hlt)
                rw [ptU_bytes s k hlt, ptU_wide_eq, ← unitW_dec hlt] at this
                exact this
              rw [← unitW_dec hlt] at hw
              generalize (ptU s k).1 = pt at *
              generalize hbs : seg s k (k + unitW s k) = bs at *
              generalize unitW s k = uw at *
              obtain ⟨nx, hnx⟩ : ∃ nx, k + uw = nx := ⟨_, rfl⟩
              rw [hnx] at hc
              generalize bAt s k = b at *
              have hn4 : (uw : Int) ≤ 4 := by omega
              have hbl : bs.length ≤ 4 := by omega
              have HM : Hid (m = acc.length ∧ m + bs.length ≤ 100000000 ∧ k < nx ∧ nx ≤ s.size ∧ m + bs.length ≤ 4 * nx ∧ xtextF s f nx (acc ++ bs) = R) := Lib.hid ⟨hm, by omega, by omega, by omega, by omega, hc⟩
              have HN := Lib.hid (And.intro hown hb)
              have HNX : Hid ((k : Int) + (uw : Nat) = (nx : Nat)) := Lib.hid (by omega)
              clear hc hown hb hm h39 h92 hbk hsg hbs hw hsl hnx
              go_wp2_with (first | (go_at_call 43; refine (CB.out _).mono ?_; rintro e w1 ⟨rfl, rfl⟩) | (go_at_call 37; refine (CS.out _).mono ?_; rintro e w1 ⟨rfl, rfl⟩) | (go_at_call 44; refine (CN.out _).mono ?_; rintro e w1 ⟨rfl, rfl⟩) | fail)
              refine (CY.out _).mono ?_
              rintro e w1 ⟨rfl, hw1⟩
              obtain ⟨ap, hap⟩ : ∃ ap, (some (⟨wr.heap.size, 0, none⟩ : Addr)) = ap := ⟨_, rfl⟩
              have HP : Hid (OwnB (fun b => wr.heap.size ≤ b) (.slice ap bs.length bs.length) bs w1 ∧ Below wr.heap.size wr w1) := Lib.hid (by
                rw [← hap, hw1]
                exact ⟨newB_own (by omega), (Below.refl _ wr).alloc (Nat.le_refl _) _⟩)
              rw [hap]
              clear hap hw1 hbl
              obtain ⟨rs, hrs⟩ : ∃ rs, wr.heap.size = rs := ⟨_, rfl⟩
              have HX : Hid (OwnB (fun b => w.heap.size ≤ b ∧ (b < rs ∨ w1.heap.size ≤ b)) (.slice ao m cp) acc w1 ∧ OwnB (fun b => rs ≤ b ∧ b < w1.heap.size) (.slice ap bs.length bs.length) bs w1 ∧ Below w.heap.size w w1 ∧ w.heap.size ≤ rs ∧ rs ≤ w1.heap.size) := Lib.hid (by
                obtain ⟨hown, hb⟩ := HN.out
                obtain ⟨hpart, hpb⟩ := HP.out
                rw [hrs] at hpart hpb
                have hz := hpb.size
                rw [hrs] at hz
                have hz2 := hb.size
                rw [hrs] at hz2
                refine ⟨(hown.lt.keep (X := fun _ => False) (B := w1) ⟨hpb.os, hpb.tape, hpb.output, hpb.size, fun c hc _ => hpb.block c (by rw [← hrs]; exact hc)⟩ (fun _ h => h.elim)).weaken (fun b h => ⟨h.1, .inl (by rw [← hrs]; exact h.2)⟩), hpart.lt, hb.trans (hpb.mono hz2), hz2, hz⟩)
              clear HP HN
              have hbz : bs.length ≤ 100000000 := by have := HM.out.2.1; omega
              go_wp2
              rw [HNX.out]
              go_loopw [7, 13] (fun o jv wi => ∃ (j : Nat) (ao2 : Option Addr) (cp2 m2 : Nat), j ≤ bs.length ∧ jv = .int .i64 j ∧ o = .slice ao2 m2 cp2 ∧ m2 = m + j ∧ OwnB (fun b => w.heap.size ≤ b ∧ (b < rs ∨ w1.heap.size ≤ b)) (.slice ao2 m2 cp2) (acc ++ bs.take j) wi ∧ OwnB (fun b => rs ≤ b ∧ b < w1.heap.size) (.slice ap bs.length bs.length) bs wi ∧ Below w.heap.size w wi ∧ w1.heap.size ≤ wi.heap.size)
                (fun _ jv _ => bs.length - (RowKit.intOf jv).toNat)
              case atStart => exact ⟨0, ao, cp, m, by omega, rfl, rfl, rfl, by simpa using HX.out.1, HX.out.2.1, HX.out.2.2.1, Nat.le_refl _⟩
              case round =>
                obtain ⟨j, ao2, cp2, m2, hj, rfl, rfl, hm2, hown2, hpart2, hb2, hz2⟩ := hrel
                by_cases hjl : j < bs.length
                · obtain ⟨y, hy⟩ : ∃ y, bs[j]? = some y := ⟨bs[j], List.getElem?_eq_getElem hjl⟩
                  obtain ⟨g, rfl, pc⟩ := ownB_at hpart2 hy
                  have hal : m2 = (acc ++ bs.take j).length := by rw [List.length_append, List.length_take, hm2, HM.out.1]; omega
                  obtain ⟨g3, cap3, w3, hrun, hown3, hk3, hl3⟩ := ownB_addY hown2 hal (fun b hb => ⟨by have := HX.out.2.2.2; omega, .inr (by omega)⟩) y (by rw [← hal, hm2]; have := HM.out.2.1; omega)
                  have HG : Hid (OwnB (fun b => w.heap.size ≤ b ∧ (b < rs ∨ w1.heap.size ≤ b)) (.slice (some ⟨g3, 0, none⟩) (m2 + 1) cap3) (acc ++ bs.take (j + 1)) w3 ∧ OwnB (fun b => rs ≤ b ∧ b < w1.heap.size) (.slice (some ⟨g, 0, none⟩) bs.length bs.length) bs w3 ∧ Below w.heap.size w w3 ∧ w1.heap.size ≤ w3.heap.size) := Lib.hid (by
                    refine ⟨?_, hpart2.keep hk3 (fun b hb hp => ?_), hb2.trans (hk3.below hb2.size fun b h => (hown2.2 b h).1), Nat.le_trans hz2 hk3.size⟩
                    · rw [List.take_add_one, hy]
                      have e2 : acc ++ (bs.take j ++ (some y).toList) = acc ++ bs.take j ++ [y] := by simp
                      rw [e2]
                      exact hown3
                    · have := (hown2.2 b hb).2
                      omega)
                  have HR2 := Lib.hid hrun
                  have HJ := Lib.hid hm2
                  clear hrun hown3 hk3 hl3 hown2 hpart2 hb2 hz2 hal hm2 hy
                  go_wp2_with (at_builtin; refine wpList_append_eq rfl rfl rfl rfl HR2.out ?_)
                  go_roundw
                  case rel => exact ⟨j + 1, some ⟨g3, 0, none⟩, cap3, m2 + 1, by omega, by go_num, rfl, by rw [HJ.out, Nat.add_assoc], HG.out⟩
                  case measure => simp [RowKit.intOf]; omega
                · obtain rfl : j = bs.length := by omega
                  rw [List.take_length] at hown2
                  have HG := Lib.hid (And.intro hown2 (And.intro hb2 hm2))
                  clear hown2 hb2 hm2 hpart2 hz2
                  go_wp2
                  go_roundw
                  case rel => exact ⟨nx, f, ao2, cp2, m2, acc ++ bs, HM.out.2.2.2.1, by have := HM.out.2.2.1; omega, rfl, rfl, by rw [List.length_append, ← HM.out.1]; exact HG.out.2.2, by rw [HG.out.2.2]; exact HM.out.2.2.2.2.1, HG.out.1.weaken (fun _ h => h.1), HG.out.2.1, HM.out.2.2.2.2.2⟩
                  case measure => have := HM.out.2.2; simp [RowKit.intOf]; omega
    · have hke : k = s.size := by omega
      have hRe : R = .ok acc k := by
        rw [← hc]
        cases f with
        | zero => rfl
        | succ f => rw [xtextF, if_neg hlt]
      subst hm
      have ht := hown.text
      have HO : Hid (textO R (.returned (.tuple #[.string ⟨acc.toArray⟩, .int .i64 (k : Nat), .int .i64 0])) ∧ Below w.heap.size w wr) := Lib.hid ⟨by rw [hRe]; rfl, hb⟩
      have hge : ¬ (k : Int) < s.size := by omega
      clear hc hRe hown hb hke
      go_wp2_with (simp only [ht])
      all_goals
        go_ret3
        exact HO.out
end Go.Proofs.YtlfdpdlhppgakaaGreatDoor
/- The document's answer for scan: what stands in brackets, evened: the walk, and that it is the program's. -/
namespace Go.Proofs.YtlfdpdlhppgakaaGreatDoor
open Go Go.RowKit Go.Kt Go.Kt.Rg Go.Shelf Go.Lib
attribute [local go_sem] Oper.semAt_some

def sepS (s : ByteArray) (i : Nat) (out : List UInt8) : List UInt8 := if 0 < i ∧ isBlk (B s (i - 1) : Nat) = true ∧ out ≠ [] then out ++ [32] else out
def spcF (s : ByteArray) : Nat → Nat → List UInt8 → List UInt8
  | 0, _, out => out
  | f + 1, i, out => if i < s.size then (if isBlk (B s i : Nat) = true then spcF s f (i + 1) out else spcF s f (i + 1) (sepS s i out ++ [UInt8.ofNat (B s i)])) else out
def spcV (s : ByteArray) : List UInt8 := spcF s s.size 0 []

theorem join_snoc (sep : List UInt8) : ∀ (l : List (List UInt8)) (x : List UInt8), Lib.join (l ++ [x]) sep = if l = [] then x else Lib.join l sep ++ sep ++ x
  | [], x => by rw [if_pos rfl]; exact Lib.join_one x sep
  | a :: l, x => by
    rw [if_neg (by simp), List.cons_append, Lib.join_cons, Lib.join_cons]
    unfold Lib.joinTail
    simp
def jnS (s : ByteArray) (acc : List (Nat × Nat)) : List UInt8 := Lib.join (acc.map fun x => (s.extract x.1 x.2).data.toList) [32]
theorem jnS_snoc (s : ByteArray) (acc : List (Nat × Nat)) (a b : Nat) : jnS s (acc ++ [(a, b)]) = if acc = [] then seg s a b else jnS s acc ++ [32] ++ seg s a b := by
  unfold jnS
  rw [List.map_append, List.map_cons, List.map_nil, join_snoc]
  simp only [List.map_eq_nil_iff]
  rfl
theorem jnS_ne {s : ByteArray} {acc : List (Nat × Nat)} (h : ∀ x ∈ acc, x.1 < x.2 ∧ x.2 ≤ s.size) (hne : acc ≠ []) : jnS s acc ≠ [] := by
  obtain ⟨a, l, rfl⟩ := List.exists_cons_of_ne_nil hne
  have h1 := h a (.head _)
  unfold jnS
  rw [List.map_cons, Lib.join_cons]
  intro he
  have h2 := congrArg List.length he
  rw [List.length_append] at h2
  have h3 : (s.extract a.1 a.2).data.toList.length = a.2 - a.1 := seg_len s a.1 a.2 (by omega) h1.2
  simp only [List.length_nil] at h2
  omega
/-- A unit that is no blank's. -/
theorem spc_unit (s : ByteArray) : ∀ (w f i : Nat) (out : List UInt8), 1 ≤ w → i + w ≤ s.size → (∀ j, j < w → isBlk (B s (i + j) : Nat) = false) → spcF s (f + w) i out = spcF s f (i + w) (sepS s i out ++ seg s i (i + w)) := by
  intro w
  induction w with
  | zero => intro f i out h; omega
  | succ w ih =>
    intro f i out _ hz hb
    have h0 := hb 0 (by omega)
    rw [Nat.add_zero] at h0
    rw [show f + (w + 1) = (f + w) + 1 by omega, spcF, if_pos (by omega), if_neg (by rw [h0]; decide)]
    rcases Nat.eq_zero_or_pos w with rfl | hw
    · rw [Nat.add_zero, Nat.zero_add, one_byte (by omega)]
    · rw [ih f (i + 1) _ hw (by omega) (fun j hj => by have := hb (j + 1) (by omega); rw [show i + 1 + j = i + (j + 1) by omega]; exact this)]
      have hs : sepS s (i + 1) (sepS s i out ++ [UInt8.ofNat (B s i)]) = sepS s i out ++ [UInt8.ofNat (B s i)] := by
        generalize sepS s i out ++ [UInt8.ofNat (B s i)] = X
        unfold sepS
        rw [if_neg (fun h => by
          have := h.2.1
          rw [Nat.add_sub_cancel, h0] at this
          cases this)]
      rw [hs, show i + 1 + w = i + (w + 1) by omega]
      congr 1
      rw [List.append_assoc, ← seg_app s i (i + 1) (i + (w + 1)) (by omega) (by omega), one_byte (by omega)]
theorem unit_noblk {s : ByteArray} {k : Nat} (hk : k < s.size) (h : isBlk (B s k : Nat) = false) : ∀ j, j < (Utf8.decode s k).2 → isBlk (B s (k + j) : Nat) = false := by
  intro j hj
  rcases Nat.eq_zero_or_pos j with rfl | h0
  · exact h
  · by_cases hlo : B s (k + j) < 128
    · have h3 := (dec_width s k hk).2.2
      have := asc_fit (s := s) (i := k) (j := k + j) (by omega) hlo (by omega)
      omega
    · exact isBlk_hi (by omega)
theorem spans_spc (s : ByteArray) : ∀ (f i g : Nat) (st : Option Nat) (acc : List (Nat × Nat)) (out : List UInt8), i ≤ s.size → s.size ≤ i + f → s.size ≤ i + g → (∀ x ∈ acc, x.1 < x.2 ∧ x.2 ≤ s.size) →
    (match st with
      | none => out = jnS s acc ∧ (0 < i → isBlk (B s (i - 1) : Nat) = true)
      | some a => a < i ∧ out = (if acc = [] then seg s a i else jnS s acc ++ [32] ++ seg s a i) ∧ isBlk (B s (i - 1) : Nat) = false) →
    (i = 0 → acc = []) →
    jnS s (closeSpans s (spansFromP blkN s f i st acc)) = spcF s g i out := by
  intro f
  induction f with
  | zero =>
    intro i g st acc out h1 h2 h3 h4 h5 _
    obtain rfl : i = s.size := by omega
    have hsp : spcF s g s.size out = out := by
      cases g with
      | zero => rfl
      | succ g => rw [spcF, if_neg (Nat.lt_irrefl _)]
    rw [hsp, spansFromP_end _ _ _ _ _ _ (Nat.lt_irrefl _)]
    cases st with
    | none => exact h5.1.symm
    | some a =>
      show jnS s (acc ++ [(a, s.size)]) = out
      rw [jnS_snoc, h5.2.1]
  | succ f ih =>
    intro i g st acc out h1 h2 h3 h4 h5 h0
    by_cases hi : i < s.size
    · have hw := dec_width s i hi
      have hbl : blkN (Utf8.decode s i).1 = isBlk (B s i : Nat) := by
        show isBlk ((Utf8.decode s i).1 : Nat) = _
        have := rU_blk hi
        rw [rU_in hi] at this
        exact this
      unfold spansFromP
      rw [if_pos hi, hbl]
      by_cases hb : isBlk (B s i : Nat) = true
      · rw [if_pos hb]
        have hw1 : (Utf8.decode s i).2 = 1 := by rw [dec_lo s i (blk_asc hb)]
        obtain ⟨g, rfl⟩ : ∃ g', g = g' + 1 := ⟨g - 1, by omega⟩
        rw [hw1, spcF, if_pos hi, if_pos hb]
        cases st with
        | none => exact ih (i + 1) g none acc out (by omega) (by omega) (by omega) h4 ⟨h5.1, fun _ => by rw [Nat.add_sub_cancel]; exact hb⟩ (by omega)
        | some a =>
          obtain ⟨q1, q2, q3⟩ := h5
          refine ih (i + 1) g none (acc ++ [(a, i)]) out (by omega) (by omega) (by omega) (fun x hx => ?_) ⟨by rw [jnS_snoc, q2], fun _ => by rw [Nat.add_sub_cancel]; exact hb⟩ (by omega)
          rcases List.mem_append.1 hx with hx | hx
          · exact h4 x hx
          · rw [List.mem_singleton] at hx
            subst hx
            exact ⟨q1, by simp only; omega⟩
      · rw [if_neg hb]
        have hbf : isBlk (B s i : Nat) = false := by simpa using hb
        have hnb := unit_noblk hi hbf
        have hlast : isBlk (B s (i + (Utf8.decode s i).2 - 1) : Nat) = false := by
          have := hnb ((Utf8.decode s i).2 - 1) (by omega)
          rwa [show i + ((Utf8.decode s i).2 - 1) = i + (Utf8.decode s i).2 - 1 by omega] at this
        have hsu := spc_unit s (Utf8.decode s i).2 (g - (Utf8.decode s i).2) i out hw.1 hw.2.2 hnb
        rw [show g - (Utf8.decode s i).2 + (Utf8.decode s i).2 = g by omega] at hsu
        rw [hsu]
        cases st with
        | none =>
          obtain ⟨q1, q2⟩ := h5
          refine ih (i + (Utf8.decode s i).2) (g - (Utf8.decode s i).2) (some i) acc _ (by omega) (by omega) (by omega) h4 ⟨by omega, ?_, hlast⟩ (by omega)
          unfold sepS
          by_cases ha : acc = []
          · rw [if_pos ha]
            have ho : out = [] := by rw [q1, ha]; rfl
            rw [if_neg (fun h => h.2.2 ho), ho, List.nil_append]
          · rw [if_neg ha]
            have hi0 : 0 < i := Nat.pos_of_ne_zero fun h => ha (h0 h)
            rw [if_pos ⟨hi0, q2 hi0, by rw [q1]; exact jnS_ne h4 ha⟩, q1]
        | some a =>
          obtain ⟨q1, q2, q3⟩ := h5
          refine ih (i + (Utf8.decode s i).2) (g - (Utf8.decode s i).2) (some a) acc _ (by omega) (by omega) (by omega) h4 ⟨by omega, ?_, hlast⟩ (by omega)
          unfold sepS
          rw [if_neg (fun h => by rw [q3] at h; cases h.2.1), q2]
          by_cases ha : acc = []
          · rw [if_pos ha, if_pos ha, seg_app s a i _ (by omega) (by omega)]
          · rw [if_neg ha, if_neg ha, List.append_assoc, seg_app s a i _ (by omega) (by omega)]
    · obtain rfl : i = s.size := by omega
      have hsp : spcF s g s.size out = out := by
        cases g with
        | zero => rfl
        | succ g => rw [spcF, if_neg (Nat.lt_irrefl _)]
      rw [hsp, spansFromP_end _ _ _ _ _ _ (Nat.lt_irrefl _)]
      cases st with
      | none => exact h5.1.symm
      | some a =>
        show jnS s (acc ++ [(a, s.size)]) = out
        rw [jnS_snoc, h5.2.1]
theorem spc_evn (s : ByteArray) : spcV s = evnV s := by
  have h := spans_spc s s.size 0 s.size none [] [] (Nat.zero_le _) (by omega) (by omega) (fun x hx => by cases hx) ⟨rfl, fun h => absurd h (Nat.lt_irrefl _)⟩ (fun _ => rfl)
  unfold spcV
  rw [← h]
  unfold evnV jnS goFieldsP spansOfP
  rw [List.map_map]
  rfl

set_option maxRecDepth 100000 in
set_option maxHeartbeats 8000000 in
theorem xspaced_any (s : ByteArray) (w : World) (hs : s.size ≤ 1048576) :
    Calls Tryz.prog 40 #[.string s] w fun e w' => e = .returned (.string ⟨(evnV s).toArray⟩) ∧ Below w.heap.size w w' := by
  obtain ⟨R, hR⟩ : ∃ R, spcF s s.size 0 [] = R := ⟨_, rfl⟩
  have hR2 : evnV s = R := (spc_evn s).symm.trans hR
  rw [hR2]
  have HR := Lib.hid hR
  clear hR hR2
  go_enter Tryz.func40, Tryz.ntmps40
  go_wp2
  go_loopw [3, 4] (fun o v wr => ∃ (k f : Nat) (ao : Option Addr) (cp m : Nat) (acc : List UInt8), k ≤ s.size ∧ s.size ≤ k + f ∧ v = .int .i64 k ∧ o = .slice ao m cp ∧ m = acc.length ∧ m ≤ 2 * k ∧ OwnB (fun b => w.heap.size ≤ b) (.slice ao m cp) acc wr ∧ Below w.heap.size w wr ∧ spcF s f k acc = R)
    (fun _ v _ => s.size - (RowKit.intOf v).toNat)
  case atStart => exact ⟨0, s.size, none, 0, 0, [], Nat.zero_le _, by omega, rfl, rfl, rfl, by omega, OwnB.nil _ _, Below.refl _ _, HR.out⟩
  case round =>
    obtain ⟨k, f, ao, cp, m, acc, hk, hf, rfl, rfl, hm, hmk, hown, hb, hc⟩ := hrel
    by_cases hlt : k < s.size
    · have HI : ∀ w, (Instr.index 9 (.string s) (.int .i64 (k : Nat))).run Tryz.prog w = .ok (.int .u8 (bAt s k)) w := fun w => run_bAt s k hlt w
      have hlt' : (k : Int) < s.size := by omega
      obtain ⟨f, rfl⟩ : ∃ f', f = f' + 1 := ⟨f - 1, by omega⟩
      rw [spcF, if_pos hlt] at hc
      have CB := Lib.hid (fun V => xBlank_any (bAt s k) V)
      cases hbk : isBlk (B s k : Nat) with
      | true =>
        rw [if_pos hbk] at hc
        rw [bAt_B, hbk] at CB
        have HG := Lib.hid (And.intro hown (And.intro hb (And.intro hm hc)))
        rw [← bAt_B] at CB
        generalize bAt s k = b at *
        clear hc hown hb hm hbk
        go_wp2_with (go_at_call 43; refine (CB.out _).mono ?_; rintro e w1 ⟨rfl, rfl⟩)
        go_roundw
        case rel => exact ⟨k + 1, f, ao, cp, m, acc, by omega, by omega, by go_num, rfl, HG.out.2.2.1, by omega, HG.out.1, HG.out.2.1, HG.out.2.2.2⟩
        case measure => simp [RowKit.intOf]; omega
      | false =>
        rw [if_neg (by rw [hbk]; decide)] at hc
        rw [bAt_B, hbk, ← bAt_B] at CB
        have hy : (((UInt8.ofNat (B s k)).toNat : Nat) : Int) = bAt s k := by
          rw [bAt_B, UInt8.toNat_ofNat']
          have := B_lt s k
          omega
        rcases Nat.eq_zero_or_pos k with hk0 | hk0
        · have hsep : sepS s k acc = acc := by unfold sepS; rw [if_neg (fun h => by omega)]
          rw [hsep] at hc
          have hkn : ¬ (0 : Int) < (k : Nat) := by omega
          obtain ⟨g3, cap3, w3, hrun, hown3, hb3, hl3⟩ := ownB_add hown hm hb (Nat.le_refl _) (UInt8.ofNat (B s k)) (by omega)
          rw [hy] at hrun
          have HN := Lib.hid hrun
          have HG := Lib.hid (And.intro hown3 (And.intro hb3 (And.intro hl3 hc)))
          generalize bAt s k = b at *
          clear hrun hown3 hb3 hl3 hc hown hb hy hm hbk hsep hk0
          go_wp2_with (first | (at_builtin; refine wpList_append_eq rfl rfl rfl rfl HN.out ?_) | (go_at_call 43; refine (CB.out _).mono ?_; rintro e w1 ⟨rfl, rfl⟩))
          go_roundw
          case rel => exact ⟨k + 1, f, some ⟨g3, 0, none⟩, cap3, m + 1, _, by omega, by omega, by go_num, rfl, HG.out.2.2.1, by omega, HG.out.1, HG.out.2.1, HG.out.2.2.2⟩
          case measure => simp [RowKit.intOf]; omega
        · have hk1 : ((k : Int) - 1).toNat = k - 1 := by omega
          have hkp : (0 : Int) < k := by omega
          have HJ : ∀ w, (Instr.index 9 (.string s) (.int .i64 ((k : Int) - 1))).run Tryz.prog w = .ok (.int .u8 (bAt s (k - 1))) w := fun w => by
            have := run_bAt s (k - 1) (by omega) w
            rwa [show ((k - 1 : Nat) : Int) = (k : Int) - 1 by omega] at this
          have CP := Lib.hid (fun V => xBlank_any (bAt s (k - 1)) V)
          by_cases hs2 : isBlk (B s (k - 1) : Nat) = true ∧ acc ≠ []
          · have hsep : sepS s k acc = acc ++ [32] := by unfold sepS; rw [if_pos ⟨hk0, hs2.1, hs2.2⟩]
            rw [hsep] at hc
            rw [bAt_B, hs2.1, ← bAt_B] at CP
            have hmp : (0 : Int) < m := by
              have := List.length_pos_iff.2 hs2.2
              omega
            obtain ⟨g3, cap3, w3, hrun, hown3, hb3, hl3⟩ := ownB_add hown hm hb (Nat.le_refl _) 32 (by omega)
            obtain ⟨g4, cap4, w4, hrun4, hown4, hb4, hl4⟩ := ownB_add hown3 hl3 hb3 (Nat.le_refl _) (UInt8.ofNat (B s k)) (by rw [← hl3]; omega)
            rw [hy] at hrun4
            rw [show ((32 : UInt8).toNat : Int) = 32 from rfl] at hrun
            have HN := Lib.hid hrun
            have HN4 := Lib.hid hrun4
            have HG := Lib.hid (And.intro hown4 (And.intro hb4 (And.intro hl4 hc)))
            generalize bAt s k = b at *
            generalize bAt s (k - 1) = b2 at *
            clear hrun hown3 hb3 hl3 hrun4 hown4 hb4 hl4 hc hown hb hy hm hbk hsep hs2 hk1
            go_wp2_with (first | (go_at_call 43; refine (CB.out _).mono ?_; clear CB; rintro e w1 ⟨rfl, rfl⟩) | (go_at_call 43; refine (CP.out _).mono ?_; clear CP; rintro e w1 ⟨rfl, rfl⟩) | (at_builtin; refine wpList_append_eq rfl rfl rfl rfl HN.out ?_; clear HN) | (at_builtin; refine wpList_append_eq rfl rfl rfl rfl HN4.out ?_; clear HN4))
            go_roundw
            case rel => exact ⟨k + 1, f, some ⟨g4, 0, none⟩, cap4, m + 1 + 1, _, by omega, by omega, by go_num, rfl, HG.out.2.2.1, by omega, HG.out.1, HG.out.2.1, HG.out.2.2.2⟩
            case measure => simp [RowKit.intOf]; omega
          · have hsep : sepS s k acc = acc := by unfold sepS; rw [if_neg (fun h => hs2 h.2)]
            rw [hsep] at hc
            cases hb1 : isBlk (B s (k - 1) : Nat) with
            | false =>
              obtain ⟨g3, cap3, w3, hrun, hown3, hb3, hl3⟩ := ownB_add hown hm hb (Nat.le_refl _) (UInt8.ofNat (B s k)) (by omega)
              rw [hy] at hrun
              have HN := Lib.hid hrun
              have HG := Lib.hid (And.intro hown3 (And.intro hb3 (And.intro hl3 hc)))
              generalize bAt s k = b at *
              rw [bAt_B, hb1, ← bAt_B] at CP
              generalize bAt s (k - 1) = b2 at *
              clear hrun hown3 hb3 hl3 hc hown hb hy hm hbk hsep hs2 hk1 hb1
              go_wp2_with (first | (go_at_call 43; refine (CB.out _).mono ?_; clear CB; rintro e w1 ⟨rfl, rfl⟩) | (go_at_call 43; refine (CP.out _).mono ?_; clear CP; rintro e w1 ⟨rfl, rfl⟩) | (at_builtin; refine wpList_append_eq rfl rfl rfl rfl HN.out ?_; clear HN))
              go_roundw
              case rel => exact ⟨k + 1, f, some ⟨g3, 0, none⟩, cap3, m + 1, _, by omega, by omega, by go_num, rfl, HG.out.2.2.1, by omega, HG.out.1, HG.out.2.1, HG.out.2.2.2⟩
              case measure => simp [RowKit.intOf]; omega
            | true =>
              have ha : acc = [] := by
                by_cases h : acc = []
                · exact h
                · exact absurd ⟨hb1, h⟩ hs2
              have hm0 : m = 0 := by rw [hm, ha]; rfl
              subst hm0
              obtain ⟨g3, cap3, w3, hrun, hown3, hb3, hl3⟩ := ownB_add hown hm hb (Nat.le_refl _) (UInt8.ofNat (B s k)) (by omega)
              rw [hy] at hrun
              rw [Nat.zero_add] at hrun hown3 hl3
              have HN := Lib.hid hrun
              have HG := Lib.hid (And.intro hown3 (And.intro hb3 (And.intro hl3 hc)))
              generalize bAt s k = b at *
              rw [bAt_B, hb1, ← bAt_B] at CP
              generalize bAt s (k - 1) = b2 at *
              clear hrun hown3 hb3 hl3 hc hown hb hy hm hbk hsep hs2 hk1 hb1 ha
              go_wp2_with (first | (go_at_call 43; refine (CB.out _).mono ?_; clear CB; rintro e w1 ⟨rfl, rfl⟩) | (go_at_call 43; refine (CP.out _).mono ?_; clear CP; rintro e w1 ⟨rfl, rfl⟩) | (at_builtin; refine wpList_append_eq rfl rfl rfl rfl HN.out ?_; clear HN))
              go_roundw
              case rel => exact ⟨k + 1, f, some ⟨g3, 0, none⟩, cap3, 1, _, by omega, by omega, by go_num, rfl, HG.out.2.2.1, by omega, HG.out.1, HG.out.2.1, HG.out.2.2.2⟩
              case measure => simp [RowKit.intOf]; omega
    · have hke : k = s.size := by omega
      have hRe : R = acc := by
        rw [← hc]
        cases f with
        | zero => rfl
        | succ f => rw [spcF, if_neg hlt]
      subst hm
      have ht := hown.text
      have HO : Hid ((⟨acc.toArray⟩ : ByteArray) = ⟨R.toArray⟩ ∧ Below w.heap.size w wr) := Lib.hid ⟨by rw [hRe], hb⟩
      have hge : ¬ (k : Int) < s.size := by omega
      clear hc hRe hown hb hke
      go_wp2_with (simp only [ht])
      all_goals
        go_ret
        exact ⟨by rw [← HO.out.1]; rfl, HO.out.2⟩
end Go.Proofs.YtlfdpdlhppgakaaGreatDoor
/- A token in memory: five cells, loaded and stored. -/
namespace Go.Proofs.YtlfdpdlhppgakaaGreatDoor
open Go Go.RowKit Go.Kt Go.Shelf Go.Lib

abbrev tkA (k : Int) (t : ByteArray) (l c i : Int) : Value := .agg #[.int .i64 k, .string t, .int .i64 l, .int .i64 c, .int .i64 i]
abbrev tkX (k : Int) (t : ByteArray) (l c i : Int) : Array Value := #[.int .i64 k, .string t, .int .i64 l, .int .i64 c, .int .i64 i]
set_option maxRecDepth 100000 in
theorem load_tok (V : World) (g o : Nat) (a b c d e : Value) (h0 : V.cell? ⟨g, o, none⟩ = some a) (h1 : V.cell? ⟨g, o + 1, none⟩ = some b) (h2 : V.cell? ⟨g, o + 2, none⟩ = some c) (h3 : V.cell? ⟨g, o + 3, none⟩ = some d) (h4 : V.cell? ⟨g, o + 4, none⟩ = some e) :
    (Instr.loadAt 39 (.pointer (some ⟨g, o, none⟩))).run Tryz.prog V = .ok (.agg #[a, b, c, d, e]) V := by
  go_simp
def set5 (V : World) (n : Nat) (k : Int) (t : ByteArray) (l c i : Int) : World :=
  ((((V.setCell ⟨n, 0, none⟩ (.int .i64 k)).setCell ⟨n, 1, none⟩ (.string t)).setCell ⟨n, 2, none⟩ (.int .i64 l)).setCell ⟨n, 3, none⟩ (.int .i64 c)).setCell ⟨n, 4, none⟩ (.int .i64 i)
theorem setc_at {W : World} {n i : Nat} {cs : Array Value} {T : TypeId} {u : Value} (h : W.heap[n]? = some (.cells cs T (0, 0))) :
    (W.setCell ⟨n, i, none⟩ u).heap[n]? = some (.cells (cs.setIfInBounds i u) T (0, 0)) := by
  have hlt := (Array.getElem?_eq_some_iff.1 h).1
  have h' : W.heap[n] = .cells cs T (0, 0) := by rw [Array.getElem?_eq_getElem hlt] at h; exact Option.some.inj h
  simp [World.setCell, hlt, Array.getElem_modify, h']
theorem cell_at5 {W : World} {n i : Nat} {cs : Array Value} {T : TypeId} {u : Value} (h : W.heap[n]? = some (.cells cs T (0, 0))) (hu : cs[i]? = some u) : W.cell? ⟨n, i, none⟩ = some u := by rw [Lib.cell_of_heap h]; exact hu
theorem frozen_at5 {W : World} {n i : Nat} {cs : Array Value} {T : TypeId} (h : W.heap[n]? = some (.cells cs T (0, 0))) : W.frozen? ⟨n, i, none⟩ = false := by simp [World.frozen?, h]
theorem set5_at {V : World} {n : Nat} {a b c d e : Value} (k : Int) (t : ByteArray) (l c' i : Int) (h : V.heap[n]? = some (.cells #[a, b, c, d, e] 39 (0, 0))) : (set5 V n k t l c' i).heap[n]? = some (.cells (tkX k t l c' i) 39 (0, 0)) :=
  setc_at (setc_at (setc_at (setc_at (setc_at h))))
theorem set5_below {D : Nat} {V : World} {n : Nat} (hn : D ≤ n) (k : Int) (t : ByteArray) (l c i : Int) : Below D V (set5 V n k t l c i) := by
  unfold set5
  exact (((((Below.refl D V).setCell (p := ⟨n, 0, none⟩) hn _).setCell (p := ⟨n, 1, none⟩) hn _).setCell (p := ⟨n, 2, none⟩) hn _).setCell (p := ⟨n, 3, none⟩) hn _).setCell (p := ⟨n, 4, none⟩) hn _
set_option maxRecDepth 100000 in
theorem store_new (V : World) (n : Nat) (a b c d e : Value) (k : Int) (t : ByteArray) (l c' i : Int) (h : V.heap[n]? = some (.cells #[a, b, c, d, e] 39 (0, 0))) :
    (Instr.storeAt 39 (.pointer (some ⟨n, 0, none⟩)) (tkA k t l c' i)).run Tryz.prog V = .ok () (set5 V n k t l c' i) := by
  have h1 := setc_at (i := 0) (u := .int .i64 k) h
  have h2 := setc_at (i := 1) (u := .string t) h1
  have h3 := setc_at (i := 2) (u := .int .i64 l) h2
  have h4 := setc_at (i := 3) (u := .int .i64 c') h3
  have q0 := cell_at5 h (i := 0) rfl
  have q1 := cell_at5 h1 (i := 1) rfl
  have q2 := cell_at5 h2 (i := 2) rfl
  have q3 := cell_at5 h3 (i := 3) rfl
  have q4 := cell_at5 h4 (i := 4) rfl
  have f0 := frozen_at5 h (i := 0)
  have f1 := frozen_at5 h1 (i := 1)
  have f2 := frozen_at5 h2 (i := 2)
  have f3 := frozen_at5 h3 (i := 3)
  have f4 := frozen_at5 h4 (i := 4)
  unfold set5
  clear h h1 h2 h3 h4
  go_simp
theorem wpList_store_eq {P : Program} {ops : Array Oper} {rest : List Oper} {o : Oper} {a : Act} {Q : Exit → Act → World → Prop} {w w' : World} {p v : Value} (hgd : o.guard = none) {ty : TypeId} {x y : Operand}
    (ho : o.op = .store ty x y) (hd : o.dst = none) (hx : a.eval x = p) (hy : a.eval y = v) (hrun : (Instr.storeAt ty p v).run P w = .ok () w') (h : wpList P ops Q rest a w') : wpList P ops Q (o :: rest) a w := by
  refine wpList_plain hgd fun K hK => ?_
  refine wp_skipped (exec_store ho hx hy hrun) ?_
  rw [hd]
  exact hK _ _ h

/-- What a block of five cells holds, cell by cell. -/
theorem cells5 {V : World} {n : Nat} {k : Int} {t : ByteArray} {l c i : Int} {T : TypeId} (h : V.heap[n]? = some (.cells (tkX k t l c i) T (0, 0))) :
    V.cell? ⟨n, 0, none⟩ = some (.int .i64 k) ∧ V.cell? ⟨n, 1, none⟩ = some (.string t) ∧ V.cell? ⟨n, 2, none⟩ = some (.int .i64 l) ∧ V.cell? ⟨n, 3, none⟩ = some (.int .i64 c) ∧ V.cell? ⟨n, 4, none⟩ = some (.int .i64 i) :=
  ⟨cell_at5 h rfl, cell_at5 h rfl, cell_at5 h rfl, cell_at5 h rfl, cell_at5 h rfl⟩
theorem set_0 {V : World} {n : Nat} {k : Int} {t : ByteArray} {l c i : Int} {T : TypeId} (k2 : Int) (h : V.heap[n]? = some (.cells (tkX k t l c i) T (0, 0))) : (V.setCell ⟨n, 0, none⟩ (.int .i64 k2)).heap[n]? = some (.cells (tkX k2 t l c i) T (0, 0)) := setc_at h
theorem set_t {V : World} {n : Nat} {k : Int} {t : ByteArray} {l c i : Int} {T : TypeId} (t2 : ByteArray) (h : V.heap[n]? = some (.cells (tkX k t l c i) T (0, 0))) : (V.setCell ⟨n, 1, none⟩ (.string t2)).heap[n]? = some (.cells (tkX k t2 l c i) T (0, 0)) := setc_at h
theorem set5_block {V : World} {n m : Nat} (hnm : m < n) (hm : m < V.heap.size) (k : Int) (t : ByteArray) (l c i : Int) : (set5 V n k t l c i).heap[m]? = V.heap[m]? := (set5_below (D := n) (V := V) (Nat.le_refl _) k t l c i).block m hnm
theorem setc_other {V : World} {n m i : Nat} {u : Value} (hnm : m ≠ n) : (V.setCell ⟨n, i, none⟩ u).heap[m]? = V.heap[m]? := by
  by_cases h : n < V.heap.size
  · simp [World.setCell, Array.getElem?_modify]
    intro h2
    exact absurd h2.symm hnm
  · simp [World.setCell, Array.getElem?_modify]
    intro h2
    exact absurd h2.symm hnm
end Go.Proofs.YtlfdpdlhppgakaaGreatDoor
