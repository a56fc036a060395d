/- cells: whether a byte lies within a unit; whether an edge lies at a byte. -/
import Derived.Test.YthhepebkfokddaaGreatDoorIh
import Derived.Test.YthhepebkfokddaaGreatDoorIg
import Derived.Test.YthhepebkfokddaaGreatDoorGz1
namespace Go.Proofs.YthhepebkfokddaaGreatDoor
open Go Go.RowKit Go.Kt

theorem withP_yes {s : ByteArray} {a : Int} (k : Nat) (h1 : 1 ≤ k) (h4 : k < 4) (h : (k : Int) < (decP s (a - k)).2) : withP s a = true := by
  unfold withP
  simp only [Bool.or_eq_true, decide_eq_true_eq]
  rcases (by omega : k = 1 ∨ k = 2 ∨ k = 3) with rfl | rfl | rfl
  · exact .inl (.inl (by simpa using h))
  · exact .inl (.inr (by simpa using h))
  · exact .inr (by simpa using h)
theorem withP_no {s : ByteArray} {a : Int} (h : ∀ k : Nat, 1 ≤ k → k < 4 → ¬ (k : Int) < (decP s (a - k)).2) : withP s a = false := by
  have h1 := h 1 (by omega) (by omega)
  have h2 := h 2 (by omega) (by omega)
  have h3 := h 3 (by omega) (by omega)
  unfold withP
  simp only [Bool.or_eq_false_iff, decide_eq_false_iff_not]
  exact ⟨⟨by simpa using h1, by simpa using h2⟩, by simpa using h3⟩
theorem cempty (s : ByteArray) (h : s.size = 0) : s = ⟨#[]⟩ := by
  cases s with
  | mk d => simp at h; exact h
theorem cfull (s : ByteArray) (h : s.size ≠ 0) : s.toList.isEmpty = false := by
  cases e : s.toList with
  | nil =>
    rw [ByteArray.toList_eq] at e
    have h3 : ([] : List UInt8).length = s.size := by rw [← e]; simp
    rw [List.length_nil] at h3
    omega
  | cons => rfl

set_option maxRecDepth 100000 in
set_option maxHeartbeats 1000000 in
theorem cwithin (s : ByteArray) (a : Int) (w : World) (hT : Lib.Utf8Tabs 3 4 w) (hs : s.size ≤ 4611686018427387904) (ha : 0 ≤ a ∧ a ≤ 4611686018427387904) :
    Calls Tryz.prog 25 #[.string s, .int .i64 a] w fun e w' => e = .returned (.bool (withP s a)) ∧ Below w.heap.size w w' := by
  have CD := Lib.hid (fun W (h : Below w.heap.size w W) b => utfDecode_any s b W (tabs_below hT (tabs_size hT) h) hs)
  obtain ⟨ha0, ha1⟩ := ha
  clear hT hs
  go_enter Tryz.func25, Tryz.ntmps25
  go_wp2
  go_loopw [5] (fun v wr => ∃ k : Nat, v = .int .i64 k ∧ 1 ≤ k ∧ k ≤ 4 ∧ Below w.heap.size w wr ∧ Hid (∀ j : Nat, 1 ≤ j → j < k → (decP s (a - j)).2 ≤ (j : Int))) (fun v _ => 4 - (RowKit.intOf v).toNat)
  case atStart => exact ⟨1, rfl, by omega, by omega, Below.refl _ _, Lib.hid fun j h1 h2 => by omega⟩
  case round =>
    obtain ⟨k, rfl, hk1, hk4, hb, HN⟩ := hrel
    have HB := Lib.hid hb
    by_cases hlt : k < 4
    · have e1 : (k : Int) < 4 := by omega
      have e2 : (1 : Int) ≤ k := by omega
      have e3 : wrap64 (a - k) = a - k := by unfold wrap64; omega
      have CD1 := Lib.hid (CD.out wr hb (a - k))
      have HY : Hid ((k : Int) < (decP s (a - k)).2 → withP s a = true) := Lib.hid (withP_yes k hk1 hlt)
      have HZ : Hid (¬ (k : Int) < (decP s (a - k)).2 → ∀ j : Nat, 1 ≤ j → j < k + 1 → (decP s (a - j)).2 ≤ (j : Int)) := Lib.hid fun h j h1 h2 => by
        rcases Nat.lt_or_ge j k with h3 | h3
        · exact HN.out j h1 h3
        · obtain rfl : j = k := by omega
          exact Int.not_lt.1 h
      obtain ⟨r, hr⟩ : ∃ r, (decP s (a - k)).1 = r := ⟨_, rfl⟩
      obtain ⟨v, hv⟩ : ∃ r, (decP s (a - k)).2 = r := ⟨_, rfl⟩
      rw [hv] at HY HZ
      rw [hr, hv] at CD1
      clear hr hv hb hlt
      by_cases hc : (k : Int) < v
      · have HW := Lib.hid (HY.out hc)
        clear HY HZ HN
        go_wp2_with fail
        refine CD1.out.mono ?_
        rintro e w1 ⟨rfl, hb1⟩
        have HB1 := Lib.hid (HB.out.trans (hb1.mono HB.out.size))
        clear hb1
        go_wp2
        go_ret
        exact ⟨by rw [HW.out]; rfl, HB1.out⟩
      · have HW := Lib.hid (HZ.out hc)
        clear HY HZ HN
        go_wp2_with fail
        refine CD1.out.mono ?_
        rintro e w1 ⟨rfl, hb1⟩
        have HB1 := Lib.hid (HB.out.trans (hb1.mono HB.out.size))
        clear hb1
        go_wp2
        go_roundw
        case rel => exact ⟨k + 1, by go_num, by omega, by omega, HB1.out, HW⟩
        case measure => simp [RowKit.intOf]; omega
    · obtain rfl : k = 4 := by omega
      have HW := Lib.hid (withP_no fun j h1 h2 => Int.not_lt.2 (HN.out j h1 h2))
      clear HN hb hlt
      go_wp2
      go_ret
      exact ⟨by rw [HW.out]; rfl, HB.out⟩

/-- The unit ahead of a byte. -/
theorem bef_in (s : ByteArray) (a : Int) (h0 : 0 < a) (h1 : a ≤ s.size) : 0 ≤ (befP s a).2 ∧ (befP s a).2 ≤ 5 := by
  unfold befP
  rw [if_pos (by omega)]
  have : ∀ f k : Nat, k ≤ 5 → 0 ≤ (befK s a.toNat f k).2 ∧ (befK s a.toNat f k).2 ≤ 5 := by
    intro f
    induction f with
    | zero => intro k _; exact ⟨(by decide : (0 : Int) ≤ 1), (by decide : (1 : Int) ≤ 5)⟩
    | succ f ih =>
      intro k hk
      unfold befK
      split
      · split
        · exact ⟨by show (0 : Int) ≤ (k : Int); omega, by show (k : Int) ≤ 5; omega⟩
        · exact ih (k + 1) (by omega)
      · exact ⟨by decide, by decide⟩
  exact this 5 1 (by omega)

set_option maxRecDepth 100000 in
set_option maxHeartbeats 1000000 in
theorem cEdge {gp : Nat} {S : RdS} {md : MdT} (s : ByteArray) (a : Int) (w : World) (hP : PrW gp S md w) (hT : Lib.Utf8Tabs 3 4 w) (hs : s.size ≤ 4611686018427387904) :
    Calls Tryz.prog 7 #[.pointer (some ⟨gp, 0, none⟩), .string s, .int .i64 a] w fun e w' => e = .returned (.bool (edgP S s a)) ∧ Below w.heap.size w w' := by
  have HE : Hid (edgP S s a = if s.size = 0 ∨ a < 0 ∨ s.size < a then false else if a = 0 ∨ a = s.size then true else if withP s a then false else edgU (untP S s (a - (befP s a).2)) (untP S s a)) := Lib.hid rfl
  rw [HE.out]
  clear HE
  have CT := Lib.hid (fun W (h : Below w.heap.size w W) => tabs_below hT (tabs_size hT) h)
  by_cases hz : s.size = 0
  · rw [if_pos (.inl hz)]
    obtain rfl := cempty s hz
    clear hz hP hT hs
    go_enter Tryz.func7, Tryz.ntmps7
    go_wp2
    go_ret
    exact ⟨rfl, Below.refl _ _⟩
  have hne := cfull s hz
  by_cases h1 : a < 0
  · rw [if_pos (.inr (.inl h1))]
    clear hz hP hT hs
    go_enter Tryz.func7, Tryz.ntmps7
    go_wp2
    go_ret
    exact ⟨rfl, Below.refl _ _⟩
  have g1 : ¬ a < 0 := h1
  by_cases h2 : (s.size : Int) < a
  · rw [if_pos (.inr (.inr h2))]
    clear hz hP hT hs
    go_enter Tryz.func7, Tryz.ntmps7
    go_wp2
    go_ret
    exact ⟨rfl, Below.refl _ _⟩
  rw [if_neg (by omega)]
  by_cases h3 : a = 0
  · rw [if_pos (.inl h3)]
    subst h3
    clear hz hP hT hs
    go_enter Tryz.func7, Tryz.ntmps7
    go_wp2
    go_ret
    exact ⟨rfl, Below.refl _ _⟩
  have g3 : (a == 0) = false := by rw [beq_eq_false_iff_ne]; exact h3
  by_cases h4 : a = s.size
  · rw [if_pos (.inr h4)]
    have g4 : (a == (s.size : Int)) = true := by rw [beq_iff_eq]; exact h4
    clear hz hP hT hs h3 h4
    go_enter Tryz.func7, Tryz.ntmps7
    go_wp2
    go_ret
    exact ⟨rfl, Below.refl _ _⟩
  have g4 : (a == (s.size : Int)) = false := by rw [beq_eq_false_iff_ne]; exact h4
  rw [if_neg (by omega)]
  have CW := Lib.hid (cwithin s a w hT hs (by omega))
  have CB := Lib.hid (fun W (h : Below w.heap.size w W) => utfBefore_any s a W (CT.out W h) hs)
  have CN := Lib.hid (fun W (h : Below w.heap.size w W) b => cunit s b W (hP.below h) (CT.out W h) hs)
  have HH := Lib.hid (fun b => untP_han S s b)
  have CE := Lib.hid (fun (u v : CU) W hu hv => cedge u v W hu hv)
  have hbf := bef_in s a (by omega) (by omega)
  obtain ⟨hb0, hb5⟩ := hbf
  obtain ⟨r, hr⟩ : ∃ r, (befP s a).1 = r := ⟨_, rfl⟩
  obtain ⟨v, hv⟩ : ∃ r, (befP s a).2 = r := ⟨_, rfl⟩
  rw [hr, hv] at CB
  rw [hv] at hb0 hb5 ⊢
  have e3 : wrap64 (a - v) = a - v := by unfold wrap64; omega
  clear hr hv hP hT h1 h3 h4 hz
  cases hw : withP s a with
  | true =>
    rw [hw] at CW
    simp only [if_true]
    clear hw CB CN HH CE CT e3
    go_enter Tryz.func7, Tryz.ntmps7
    go_wp2_with fail
    refine CW.out.mono ?_
    rintro e w1 ⟨rfl, hb1⟩
    have HB1 := Lib.hid hb1
    clear hb1
    go_wp2
    go_ret
    exact ⟨rfl, HB1.out⟩
  | false =>
    rw [hw] at CW
    simp only [Bool.false_eq_true, if_false]
    clear hw CT
    go_enter Tryz.func7, Tryz.ntmps7
    go_wp2_with fail
    refine CW.out.mono ?_
    rintro e w1 ⟨rfl, hb1⟩
    have HB1 := Lib.hid hb1
    clear hb1
    go_wp2_with fail
    refine (CB.out w1 HB1.out).mono ?_
    rintro e w2 ⟨rfl, hb2⟩
    have HB2 := Lib.hid (HB1.out.trans (hb2.mono HB1.out.size))
    clear hb2
    go_wp2_with fail
    refine (CN.out w2 HB2.out (a - v)).mono ?_
    rintro e w3 ⟨rfl, hb3⟩
    have HB3 := Lib.hid (HB2.out.trans (hb3.mono HB2.out.size))
    clear hb3
    go_wp2_with fail
    refine (CN.out w3 HB3.out a).mono ?_
    rintro e w4 ⟨rfl, hb4⟩
    have HB4 := Lib.hid (HB3.out.trans (hb4.mono HB3.out.size))
    clear hb4
    go_wp2_with fail
    refine (CE.out _ _ w4 (HH.out _) (HH.out _)).mono ?_
    rintro e w5 ⟨rfl, hb5'⟩
    have HB5 := Lib.hid (HB4.out.trans (hb5'.mono HB4.out.size))
    clear hb5'
    go_wp2
    go_ret
    exact ⟨rfl, HB5.out⟩
end Go.Proofs.YthhepebkfokddaaGreatDoor
