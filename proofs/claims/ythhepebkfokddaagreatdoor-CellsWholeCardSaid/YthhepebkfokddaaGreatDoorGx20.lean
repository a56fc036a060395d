/- Parts of the proof of what the last text says. -/
import Derived.Test.YthhepebkfokddaaGreatDoorIdx
import Derived.Test.YthhepebkfokddaaGreatDoorIex
import Derived.Test.YthhepebkfokddaaGreatDoorIfx
import Derived.Test.YthhepebkfokddaaGreatDoorGx19
import Derived.Test.YthhepebkfokddaaGreatDoorIbx
namespace Go.Proofs.YthhepebkfokddaaGreatDoor
open Go Go.RowKit Go.Kt
set_option maxRecDepth 100000 in
set_option maxHeartbeats 2000000 in
theorem cunit {gp : Nat} {S : RdS} {md : MdT} (s : ByteArray) (a : Int) (w : World) (hP : PrW gp S md w) (hT : Lib.Utf8Tabs 3 4 w) (hs : s.size ≤ 4611686018427387904) :
 Calls Tryz.prog 28 #[.pointer (some ⟨gp, 0, none⟩), .string s, .int .i64 a] w fun e w' => e = .returned (cuV (untP S s a)) ∧ Below w.heap.size w w' := by
 have HU : Hid (untP S s a = if (decP s a).1 = 65533 ∧ (decP s a).2 = 1 then ⟨65533, true, false, false, 0⟩
  else ⟨(decP s a).1, decide ((decP s a).1 = 10) || decide ((decP s a).1 = 13) || decide (kndV S (decP s a).1 = 5), decide (kndV S (decP s a).1 = 3) || decide (kndV S (decP s a).1 = 6) || decide (0 < clsV S (decP s a).1), decide (kndV S (decP s a).1 = 6), hanK (decP s a).1⟩) := Lib.hid rfl
 rw [HU.out]
 obtain ⟨w0, hw0⟩ : ∃ W, w.alloc cuZ = W := ⟨_, rfl⟩
 have hb0 : Below w.heap.size w w0 := by rw [← hw0]; exact (Below.refl _ w).alloc (Nat.le_refl _) _
 have hg0 : w0.heap[w.heap.size]? = some (.cells #[.int .i32 0, .bool false, .bool false, .bool false, .int .i64 0] 71 (0, 0)) := by rw [← hw0]; exact World.alloc_heap_new _ _
 have CD := Lib.hid (utfDecode_any s a w0 (tabs_below hT (tabs_size hT) hb0) hs)
 have CK := Lib.hid (fun W (h : Below w.heap.size w W) r => pkndP W (hP.below h) r)
 have CC := Lib.hid (fun W (h : Below w.heap.size w W) r => pclsP W (hP.below h) r)
 have HW0 := Lib.hid hw0
 have H0 := Lib.hid (And.intro hb0 hg0)
 obtain ⟨r, hr⟩ : ∃ r, (decP s a).1 = r := ⟨_, rfl⟩
 obtain ⟨v, hv⟩ : ∃ r, (decP s a).2 = r := ⟨_, rfl⟩
 rw [hr, hv] at CD ⊢
 clear hw0 hb0 hg0 hP hT hs HU hr hv
 by_cases hbad : r = 65533 ∧ v = 1
 ·rw [if_pos hbad]
  obtain ⟨rfl, rfl⟩ := hbad
  go_enter Tryz.func28, Tryz.ntmps28
  go_wp2_with fail
  rw [HW0.out]
  refine CD.out.mono ?_
  rintro e w1 ⟨rfl, hb1⟩
  have hg1 : w1.heap[w.heap.size]? = some (.cells #[.int .i32 0, .bool false, .bool false, .bool false, .int .i64 0] 71 (0, 0)) := (hb1.block _ (Array.getElem?_eq_some_iff.1 H0.out.2).1).trans H0.out.2
  have H1 : Hid (Below w.heap.size w w1 ∧ w1.heap[w.heap.size]? = some (.cells #[.int .i32 0, .bool false, .bool false, .bool false, .int .i64 0] 71 (0, 0))) := Lib.hid ⟨H0.out.1.trans (hb1.mono H0.out.1.size), hg1⟩
  clear hb1 hg1
  obtain ⟨⟨c0, c1, c2, c3, c4⟩, hf⟩ := cu_cells H1.out.2
  have f0 := hf 0
  have f1 := hf 1
  have f2 := hf 2
  have f3 := hf 3
  have f4 := hf 4
  clear hf
  go_wp2_with fail
  (try simp only [Exit.inBlock, Exit.then])
  refine bodyPost_ret (results_cell_row rfl _ _ w.heap.size 71 #[.int .i32 65533, .bool true, .bool false, .bool false, .int .i64 0] (0, 0) _ rfl (cuSet_at ⟨65533, true, false, false, 0⟩ H1.out.2) Tryz.underlying71 rfl (by kernel_rfl)) rfl ?_
  exact ⟨rfl, H1.out.1.trans (cuSet_below (V := w1) (Nat.le_refl _) ⟨65533, true, false, false, 0⟩)⟩
 ·rw [if_neg hbad]
  obtain ⟨k, hk⟩ : ∃ k, kndV S r = k := ⟨_, rfl⟩
  obtain ⟨c, hcl⟩ : ∃ c, clsV S r = c := ⟨_, rfl⟩
  obtain ⟨h, hh⟩ : ∃ h, hanK r = h := ⟨_, rfl⟩
  have CH := Lib.hid (fun W => chan r W)
  rw [hh] at CH
  have HH : Hid (CuIn gp s a w w0 r v k c h) := Lib.hid ⟨HW0.out, H0, CD, Lib.hid fun W h => (by rw [← hk]; exact CK.out W h r), Lib.hid fun W h => (by rw [← hcl]; exact CC.out W h r), CH⟩
  rw [hk, hcl, hh]
  clear hk hcl hh
  obtain ⟨u, hu⟩ : ∃ u : CU, (⟨r, decide (r = 10) || decide (r = 13) || decide (k = 5), decide (k = 3) || decide (k = 6) || decide (0 < c), decide (k = 6), h⟩ : CU) = u := ⟨_, rfl⟩
  rw [hu]
  have bf : ∀ {x y : Int}, ¬ x = y → (x == y) = false := fun h => by rw [beq_eq_false_iff_ne]; exact h
  by_cases r10 : r = 10
  ·subst r10
   by_cases k3 : k = 3
   ·subst k3
    rw [show u = ⟨10, true, true, false, h⟩ by rw [← hu]; clear hu; simp [*]]
    exact ua3 HH
   by_cases k6 : k = 6
   ·subst k6
    rw [show u = ⟨10, true, true, true, h⟩ by rw [← hu]; clear hu; simp [*]]
    exact ua6 HH
   by_cases hc : 0 < c
   ·rw [show u = ⟨10, true, true, false, h⟩ by rw [← hu]; clear hu; simp [*]]
    exact uac HH (bf k3) (bf k6) hc
   ·rw [show u = ⟨10, true, false, false, h⟩ by rw [← hu]; clear hu; simp [*]]
    exact uan HH (bf k3) (bf k6) hc
  by_cases r13 : r = 13
  ·subst r13
   by_cases k3 : k = 3
   ·subst k3
    rw [show u = ⟨13, true, true, false, h⟩ by rw [← hu]; clear hu; simp [*]]
    exact ub3 HH
   by_cases k6 : k = 6
   ·subst k6
    rw [show u = ⟨13, true, true, true, h⟩ by rw [← hu]; clear hu; simp [*]]
    exact ub6 HH
   by_cases hc : 0 < c
   ·rw [show u = ⟨13, true, true, false, h⟩ by rw [← hu]; clear hu; simp [*]]
    exact ubc HH (bf k3) (bf k6) hc
   ·rw [show u = ⟨13, true, false, false, h⟩ by rw [← hu]; clear hu; simp [*]]
    exact ubn HH (bf k3) (bf k6) hc
  have r10' := bf r10
  have r13' := bf r13
  by_cases h1 : r = 65533
  ·subst h1
   have hg2 : (v == 1) = false := bf fun e => hbad ⟨rfl, e⟩
   by_cases k3 : k = 3
   ·subst k3
    rw [show u = ⟨65533, false, true, false, h⟩ by rw [← hu]; clear hu; simp [*]]
    exact uf3 HH hg2
   by_cases k6 : k = 6
   ·subst k6
    rw [show u = ⟨65533, false, true, true, h⟩ by rw [← hu]; clear hu; simp [*]]
    exact uf6 HH hg2
   by_cases k5 : k = 5
   ·subst k5
    by_cases hc : 0 < c
    ·rw [show u = ⟨65533, true, true, false, h⟩ by rw [← hu]; clear hu; simp [*]]
     exact uf5c HH hg2 hc
    ·rw [show u = ⟨65533, true, false, false, h⟩ by rw [← hu]; clear hu; simp [*]]
     exact uf5n HH hg2 hc
   by_cases hc : 0 < c
   ·rw [show u = ⟨65533, false, true, false, h⟩ by rw [← hu]; clear hu; simp [*]]
    exact ufc HH hg2 (bf k3) (bf k6) (bf k5) hc
   ·rw [show u = ⟨65533, false, false, false, h⟩ by rw [← hu]; clear hu; simp [*]]
    exact ufn HH hg2 (bf k3) (bf k6) (bf k5) hc
  have hg := bf h1
  by_cases k3 : k = 3
  ·subst k3
   rw [show u = ⟨r, false, true, false, h⟩ by rw [← hu]; clear hu; simp [*]]
   exact uo3 HH hg r10' r13'
  by_cases k6 : k = 6
  ·subst k6
   rw [show u = ⟨r, false, true, true, h⟩ by rw [← hu]; clear hu; simp [*]]
   exact uo6 HH hg r10' r13'
  by_cases k5 : k = 5
  ·subst k5
   by_cases hc : 0 < c
   ·rw [show u = ⟨r, true, true, false, h⟩ by rw [← hu]; clear hu; simp [*]]
    exact uo5c HH hg r10' r13' hc
   ·rw [show u = ⟨r, true, false, false, h⟩ by rw [← hu]; clear hu; simp [*]]
    exact uo5n HH hg r10' r13' hc
  by_cases hc : 0 < c
  ·rw [show u = ⟨r, false, true, false, h⟩ by rw [← hu]; clear hu; simp [*]]
   exact uoc HH hg r10' r13' (bf k3) (bf k6) (bf k5) hc
  ·rw [show u = ⟨r, false, false, false, h⟩ by rw [← hu]; clear hu; simp [*]]
   exact uon HH hg r10' r13' (bf k3) (bf k6) (bf k5) hc
end Go.Proofs.YthhepebkfokddaaGreatDoor
namespace Go.Proofs.YthhepebkfokddaaGreatDoor
open Go Go.RowKit Go.Kt
theorem withP_yes {s : ByteArray} {a : Int} (k : Nat) (h1 : 1 ≤ k) (h4 : k < 4) (h : (k : Int) < (decP s (a - k)).2) : withP s a = true := by
 unfold withP
 simp only [Bool.or_eq_true, decide_eq_true_eq]
 rcases (by omega : k = 1 ∨ k = 2 ∨ k = 3) with rfl | rfl | rfl
 ·exact .inl (.inl (by simpa using h))
 ·exact .inl (.inr (by simpa using h))
 ·exact .inr (by simpa using h)
theorem withP_no {s : ByteArray} {a : Int} (h : ∀ k : Nat, 1 ≤ k → k < 4 → ¬ (k : Int) < (decP s (a - k)).2) : withP s a = false := by
 have h1 := h 1 (by omega) (by omega)
 have h2 := h 2 (by omega) (by omega)
 have h3 := h 3 (by omega) (by omega)
 unfold withP
 simp only [Bool.or_eq_false_iff, decide_eq_false_iff_not]
 exact ⟨⟨by simpa using h1, by simpa using h2⟩, by simpa using h3⟩
theorem cempty (s : ByteArray) (h : s.size = 0) : s = ⟨#[]⟩ := by
 cases s with
 | mk d => simp at h; exact h
theorem cfull (s : ByteArray) (h : s.size ≠ 0) : s.toList.isEmpty = false := by
 cases e : s.toList with
 | nil =>
   rw [ByteArray.toList_eq] at e
   have h3 : ([] : List UInt8).length = s.size := by rw [← e]; simp
   rw [List.length_nil] at h3
   omega
 | cons => rfl
set_option maxRecDepth 100000 in
set_option maxHeartbeats 1000000 in
theorem cwithin (s : ByteArray) (a : Int) (w : World) (hT : Lib.Utf8Tabs 3 4 w) (hs : s.size ≤ 4611686018427387904) (ha : 0 ≤ a ∧ a ≤ 4611686018427387904) :
 Calls Tryz.prog 25 #[.string s, .int .i64 a] w fun e w' => e = .returned (.bool (withP s a)) ∧ Below w.heap.size w w' := by
 have CD := Lib.hid (fun W (h : Below w.heap.size w W) b => utfDecode_any s b W (tabs_below hT (tabs_size hT) h) hs)
 obtain ⟨ha0, ha1⟩ := ha
 clear hT hs
 go_enter Tryz.func25, Tryz.ntmps25
 go_wp2
 go_loopw [5] (fun v wr => ∃ k : Nat, v = .int .i64 k ∧ 1 ≤ k ∧ k ≤ 4 ∧ Below w.heap.size w wr ∧ Hid (∀ j : Nat, 1 ≤ j → j < k → (decP s (a - j)).2 ≤ (j : Int))) (fun v _ => 4 - (RowKit.intOf v).toNat)
 case atStart => exact ⟨1, rfl, by omega, by omega, Below.refl _ _, Lib.hid fun j h1 h2 => by omega⟩
 case round =>
  obtain ⟨k, rfl, hk1, hk4, hb, HN⟩ := hrel
  have HB := Lib.hid hb
  by_cases hlt : k < 4
  ·have e1 : (k : Int) < 4 := by omega
   have e2 : (1 : Int) ≤ k := by omega
   have e3 : wrap64 (a - k) = a - k := by unfold wrap64; omega
   have CD1 := Lib.hid (CD.out wr hb (a - k))
   have HY : Hid ((k : Int) < (decP s (a - k)).2 → withP s a = true) := Lib.hid (withP_yes k hk1 hlt)
   have HZ : Hid (¬ (k : Int) < (decP s (a - k)).2 → ∀ j : Nat, 1 ≤ j → j < k + 1 → (decP s (a - j)).2 ≤ (j : Int)) := Lib.hid fun h j h1 h2 => by
    rcases Nat.lt_or_ge j k with h3 | h3
    ·exact HN.out j h1 h3
    ·obtain rfl : j = k := by omega
     exact Int.not_lt.1 h
   obtain ⟨r, hr⟩ : ∃ r, (decP s (a - k)).1 = r := ⟨_, rfl⟩
   obtain ⟨v, hv⟩ : ∃ r, (decP s (a - k)).2 = r := ⟨_, rfl⟩
   rw [hv] at HY HZ
   rw [hr, hv] at CD1
   clear hr hv hb hlt
   by_cases hc : (k : Int) < v
   ·have HW := Lib.hid (HY.out hc)
    clear HY HZ HN
    go_wp2_with fail
    refine CD1.out.mono ?_
    rintro e w1 ⟨rfl, hb1⟩
    have HB1 := Lib.hid (HB.out.trans (hb1.mono HB.out.size))
    clear hb1
    go_wp2
    go_ret
    exact ⟨by rw [HW.out]; rfl, HB1.out⟩
   ·have HW := Lib.hid (HZ.out hc)
    clear HY HZ HN
    go_wp2_with fail
    refine CD1.out.mono ?_
    rintro e w1 ⟨rfl, hb1⟩
    have HB1 := Lib.hid (HB.out.trans (hb1.mono HB.out.size))
    clear hb1
    go_wp2
    go_roundw
    case rel => exact ⟨k + 1, by go_num, by omega, by omega, HB1.out, HW⟩
    case measure => simp [RowKit.intOf]; omega
  ·obtain rfl : k = 4 := by omega
   have HW := Lib.hid (withP_no fun j h1 h2 => Int.not_lt.2 (HN.out j h1 h2))
   clear HN hb hlt
   go_wp2
   go_ret
   exact ⟨by rw [HW.out]; rfl, HB.out⟩
theorem bef_in (s : ByteArray) (a : Int) (h0 : 0 < a) (h1 : a ≤ s.size) : 0 ≤ (befP s a).2 ∧ (befP s a).2 ≤ 5 := by
 unfold befP
 rw [if_pos (by omega)]
 have : ∀ f k : Nat, k ≤ 5 → 0 ≤ (befK s a.toNat f k).2 ∧ (befK s a.toNat f k).2 ≤ 5 := by
  intro f
  induction f with
  | zero => intro k _; exact ⟨(by decide : (0 : Int) ≤ 1), (by decide : (1 : Int) ≤ 5)⟩
  | succ f ih =>
    intro k hk
    unfold befK
    split
    ·split
     ·exact ⟨by show (0 : Int) ≤ (k : Int); omega, by show (k : Int) ≤ 5; omega⟩
     ·exact ih (k + 1) (by omega)
    ·exact ⟨by decide, by decide⟩
 exact this 5 1 (by omega)
set_option maxRecDepth 100000 in
set_option maxHeartbeats 1000000 in
theorem cEdge {gp : Nat} {S : RdS} {md : MdT} (s : ByteArray) (a : Int) (w : World) (hP : PrW gp S md w) (hT : Lib.Utf8Tabs 3 4 w) (hs : s.size ≤ 4611686018427387904) :
 Calls Tryz.prog 7 #[.pointer (some ⟨gp, 0, none⟩), .string s, .int .i64 a] w fun e w' => e = .returned (.bool (edgP S s a)) ∧ Below w.heap.size w w' := by
 have HE : Hid (edgP S s a = if s.size = 0 ∨ a < 0 ∨ s.size < a then false else if a = 0 ∨ a = s.size then true else if withP s a then false else edgU (untP S s (a - (befP s a).2)) (untP S s a)) := Lib.hid rfl
 rw [HE.out]
 clear HE
 have CT := Lib.hid (fun W (h : Below w.heap.size w W) => tabs_below hT (tabs_size hT) h)
 by_cases hz : s.size = 0
 ·rw [if_pos (.inl hz)]
  obtain rfl := cempty s hz
  clear hz hP hT hs
  go_enter Tryz.func7, Tryz.ntmps7
  go_wp2
  go_ret
  exact ⟨rfl, Below.refl _ _⟩
 have hne := cfull s hz
 by_cases h1 : a < 0
 ·rw [if_pos (.inr (.inl h1))]
  clear hz hP hT hs
  go_enter Tryz.func7, Tryz.ntmps7
  go_wp2
  go_ret
  exact ⟨rfl, Below.refl _ _⟩
 have g1 : ¬ a < 0 := h1
 by_cases h2 : (s.size : Int) < a
 ·rw [if_pos (.inr (.inr h2))]
  clear hz hP hT hs
  go_enter Tryz.func7, Tryz.ntmps7
  go_wp2
  go_ret
  exact ⟨rfl, Below.refl _ _⟩
 rw [if_neg (by omega)]
 by_cases h3 : a = 0
 ·rw [if_pos (.inl h3)]
  subst h3
  clear hz hP hT hs
  go_enter Tryz.func7, Tryz.ntmps7
  go_wp2
  go_ret
  exact ⟨rfl, Below.refl _ _⟩
 have g3 : (a == 0) = false := by rw [beq_eq_false_iff_ne]; exact h3
 by_cases h4 : a = s.size
 ·rw [if_pos (.inr h4)]
  have g4 : (a == (s.size : Int)) = true := by rw [beq_iff_eq]; exact h4
  clear hz hP hT hs h3 h4
  go_enter Tryz.func7, Tryz.ntmps7
  go_wp2
  go_ret
  exact ⟨rfl, Below.refl _ _⟩
 have g4 : (a == (s.size : Int)) = false := by rw [beq_eq_false_iff_ne]; exact h4
 rw [if_neg (by omega)]
 have CW := Lib.hid (cwithin s a w hT hs (by omega))
 have CB := Lib.hid (fun W (h : Below w.heap.size w W) => utfBefore_any s a W (CT.out W h) hs)
 have CN := Lib.hid (fun W (h : Below w.heap.size w W) b => cunit s b W (hP.below h) (CT.out W h) hs)
 have HH := Lib.hid (fun b => untP_han S s b)
 have CE := Lib.hid (fun (u v : CU) W hu hv => cedge u v W hu hv)
 have hbf := bef_in s a (by omega) (by omega)
 obtain ⟨hb0, hb5⟩ := hbf
 obtain ⟨r, hr⟩ : ∃ r, (befP s a).1 = r := ⟨_, rfl⟩
 obtain ⟨v, hv⟩ : ∃ r, (befP s a).2 = r := ⟨_, rfl⟩
 rw [hr, hv] at CB
 rw [hv] at hb0 hb5 ⊢
 have e3 : wrap64 (a - v) = a - v := by unfold wrap64; omega
 clear hr hv hP hT h1 h3 h4 hz
 cases hw : withP s a with
 | true =>
   rw [hw] at CW
   simp only [if_true]
   clear hw CB CN HH CE CT e3
   go_enter Tryz.func7, Tryz.ntmps7
   go_wp2_with fail
   refine CW.out.mono ?_
   rintro e w1 ⟨rfl, hb1⟩
   have HB1 := Lib.hid hb1
   clear hb1
   go_wp2
   go_ret
   exact ⟨rfl, HB1.out⟩
 | false =>
   rw [hw] at CW
   simp only [Bool.false_eq_true, if_false]
   clear hw CT
   go_enter Tryz.func7, Tryz.ntmps7
   go_wp2_with fail
   refine CW.out.mono ?_
   rintro e w1 ⟨rfl, hb1⟩
   have HB1 := Lib.hid hb1
   clear hb1
   go_wp2_with fail
   refine (CB.out w1 HB1.out).mono ?_
   rintro e w2 ⟨rfl, hb2⟩
   have HB2 := Lib.hid (HB1.out.trans (hb2.mono HB1.out.size))
   clear hb2
   go_wp2_with fail
   refine (CN.out w2 HB2.out (a - v)).mono ?_
   rintro e w3 ⟨rfl, hb3⟩
   have HB3 := Lib.hid (HB2.out.trans (hb3.mono HB2.out.size))
   clear hb3
   go_wp2_with fail
   refine (CN.out w3 HB3.out a).mono ?_
   rintro e w4 ⟨rfl, hb4⟩
   have HB4 := Lib.hid (HB3.out.trans (hb4.mono HB3.out.size))
   clear hb4
   go_wp2_with fail
   refine (CE.out _ _ w4 (HH.out _) (HH.out _)).mono ?_
   rintro e w5 ⟨rfl, hb5'⟩
   have HB5 := Lib.hid (HB4.out.trans (hb5'.mono HB4.out.size))
   clear hb5'
   go_wp2
   go_ret
   exact ⟨rfl, HB5.out⟩
end Go.Proofs.YthhepebkfokddaaGreatDoor
