/- The walk of RangesLaws (written by gen_nv.py). -/
import Derived.Test.YtjbkpcdpdifpnaaGreatDoorNu
import Derived.Deep.Cut
namespace Go.Proofs.YtjbkpcdpdifpnaaGreatDoor
open Go Go.RowKit Go.Kt Go.Kt.Rg

theorem count_is (l : List Run) (b : Nat) (k : Int) (w : World) (h : SetAt l b w) (hc : Canon l) (e : cntL l = k) :
    Calls Tryz.prog 29 #[ptrV b] w fun e w' => e = .returned (.int .i64 k) ∧ Below w.heap.size w w' := by
  rw [← e]; exact rcount_any l b w h hc
theorem has_is (l : List Run) (b : Nat) (r : Int) (t : Bool) (w : World) (h : SetAt l b w) (hc : Canon l) (hE : REnv w) (hr : -2147483648 ≤ r ∧ r ≤ 2147483647) (e : hasB l r = t) :
    Calls Tryz.prog 27 #[ptrV b, .int .i32 r] w fun e w' => e = .returned (.bool t) ∧ Below w.heap.size w w' := by
  rw [← e]; exact rhas_any l b r w h hc hE.1 hr
theorem has_all {A B : List Run} (hA : Canon A) (hB : Canon B) (r : Int) :
    (hasB A r = true ∧ hasB (notL 0 A) r = false ∧ (numB r).2 = true ∧ hasB (bothL A B) r = hasB B r) ∨ (hasB A r = false ∧ hasB (notL 0 A) r = (numB r).2 ∧ hasB (bothL A B) r = false) := by
  have h1 := has_not hA r
  have h2 := has_both hA hB r
  cases hx : hasB A r
  · rw [hx] at h1 h2
    exact .inr ⟨rfl, by simpa using h1.1, by simpa using h2⟩
  · rw [hx] at h1 h2
    exact .inl ⟨rfl, by simpa using h1.2, by simpa using h1.1.symm, by simpa using h2⟩
theorem numB_cases (r : Int) : (r < 0 ∧ (numB r).2 = false) ∨ (0 ≤ r ∧ r < 55296 ∧ (numB r).2 = true) ∨ (55296 ≤ r ∧ r < 57344 ∧ (numB r).2 = false) ∨ (57344 ≤ r ∧ r ≤ 1114111 ∧ (numB r).2 = true) ∨ (1114111 < r ∧ r < 1114240 ∧ (numB r).2 = false) ∨ (1114240 ≤ r ∧ r ≤ 1114367 ∧ (numB r).2 = true) ∨ (1114367 < r ∧ (numB r).2 = false) := by
  unfold numB
  split
  · simp; omega
  split
  · simp; omega
  split
  · simp; omega
  split
  · simp; omega
  split
  · simp; omega
  split
  · simp; omega
  · simp; omega

set_option maxRecDepth 100000 in
set_option maxHeartbeats 8000000 in
theorem rangesLaws_walk (l1 l2 l3 : List (Int × Int)) (v1 v2 v3 : Value) (r : Int) (w : World) (h1 : SpA w v1 l1) (h2 : SpA w v2 l2) (h3 : SpA w v3 l3) (hE : REnv w) (m1 : l1.length ≤ 9223372036854775807) (m2 : l2.length ≤ 9223372036854775807) (m3 : l3.length ≤ 9223372036854775807) (k1 : Runy l1) (k2 : Runy l2) (k3 : Runy l3) (hr : -2147483648 ≤ r ∧ r ≤ 2147483647) :
    Calls Tryz.prog 10 #[v1, v2, v3, .int .i32 r] w fun e w' => e = .returned (.bool true) ∧ Below w.heap.size w w' := by
  have C1 := Lib.hid (some_any l1 v1 w h1 hE.1 m1 k1)
  have C2 : Hid (∀ V, Below w.heap.size w V → Calls Tryz.prog 23 #[v2] V fun e w' => ∃ s b, e = .returned (ptrV b) ∧ SetAt s b w' ∧ Canon s ∧ Below V.heap.size V w') := Lib.hid fun V hV => some_any l2 v2 V (h2.below hV) (hE.1.next hV) m2 k2
  have C3 : Hid (∀ V, Below w.heap.size w V → Calls Tryz.prog 23 #[v3] V fun e w' => ∃ s b, e = .returned (ptrV b) ∧ SetAt s b w' ∧ Canon s ∧ Below V.heap.size V w') := Lib.hid fun V hV => some_any l3 v3 V (h3.below hV) (hE.1.next hV) m3 k3
  have TE := Lib.hid hE
  clear h1 h2 h3 hE m1 m2 m3 k1 k2 k3
  go_enter Tryz.func10, Tryz.ntmps10
  go_wp2_with fail
  refine C1.out.mono ?_
  rintro e w1 ⟨A, a, rfl, ha, hA, hn⟩
  have TA := Lib.hid ha
  have KA := Lib.hid hA
  have HV := Lib.hid hn
  replace TE := Lib.hid (TE.out.below hn)
  clear ha hA hn
  go_wp2_with fail
  refine (C2.out w1 HV.out).mono ?_
  rintro e w2 ⟨B, b, rfl, hb, hB, hn⟩
  have TB := Lib.hid hb
  have KB := Lib.hid hB
  replace TA := Lib.hid (TA.out.below hn)
  replace HV := Lib.hid (HV.out.trans (hn.mono HV.out.size))
  replace TE := Lib.hid (TE.out.below hn)
  clear hb hB hn
  go_wp2_with fail
  refine (C3.out w2 HV.out).mono ?_
  rintro e w3 ⟨C, c, rfl, hc, hC, hn⟩
  have TC := Lib.hid hc
  have KC := Lib.hid hC
  replace TA := Lib.hid (TA.out.below hn)
  replace TB := Lib.hid (TB.out.below hn)
  replace HV := Lib.hid (HV.out.trans (hn.mono HV.out.size))
  replace TE := Lib.hid (TE.out.below hn)
  clear hc hC hn C1 C2 C3
  go_wp2_with fail
  refine (rworks_any w3 TE.out).mono ?_
  rintro e u0 ⟨rfl, hn⟩
  replace TA := Lib.hid (TA.out.below hn)
  replace TB := Lib.hid (TB.out.below hn)
  replace TC := Lib.hid (TC.out.below hn)
  replace HV := Lib.hid (HV.out.trans (hn.mono HV.out.size))
  replace TE := Lib.hid (TE.out.below hn)
  clear hn
  go_wp2_with fail
  refine (rjoin_any A B a b _ TA.out TB.out KA.out KB.out).mono ?_
  rintro e u1 ⟨b38, rfl, hs, hn⟩
  replace HV := Lib.hid (HV.out.trans (hn.mono HV.out.size)); replace TA := Lib.hid (TA.out.below hn); replace TB := Lib.hid (TB.out.below hn); replace TC := Lib.hid (TC.out.below hn); replace TE := Lib.hid (TE.out.below hn)
  have T38 := Lib.hid hs
  clear hn hs
  go_wp2_with fail
  refine (rnot_any (joinL A B) b38 _ T38.out (join_canon KA.out KB.out)).mono ?_
  rintro e u2 ⟨b39, rfl, hs, hn⟩
  replace HV := Lib.hid (HV.out.trans (hn.mono HV.out.size)); replace TA := Lib.hid (TA.out.below hn); replace TB := Lib.hid (TB.out.below hn); replace TC := Lib.hid (TC.out.below hn); replace TE := Lib.hid (TE.out.below hn)
  clear T38
  have T39 := Lib.hid hs
  clear hn hs
  go_wp2_with fail
  refine (rnot_any A a _ TA.out KA.out).mono ?_
  rintro e u3 ⟨b41, rfl, hs, hn⟩
  replace HV := Lib.hid (HV.out.trans (hn.mono HV.out.size)); replace TA := Lib.hid (TA.out.below hn); replace TB := Lib.hid (TB.out.below hn); replace TC := Lib.hid (TC.out.below hn); replace TE := Lib.hid (TE.out.below hn)
  replace T39 := Lib.hid (T39.out.below hn)
  have T41 := Lib.hid hs
  clear hn hs
  go_wp2_with fail
  refine (rnot_any B b _ TB.out KB.out).mono ?_
  rintro e u4 ⟨b43, rfl, hs, hn⟩
  replace HV := Lib.hid (HV.out.trans (hn.mono HV.out.size)); replace TA := Lib.hid (TA.out.below hn); replace TB := Lib.hid (TB.out.below hn); replace TC := Lib.hid (TC.out.below hn); replace TE := Lib.hid (TE.out.below hn)
  replace T39 := Lib.hid (T39.out.below hn)
  replace T41 := Lib.hid (T41.out.below hn)
  have T43 := Lib.hid hs
  clear hn hs
  go_wp2_with fail
  refine (rboth_any (notL 0 A) (notL 0 B) b41 b43 _ T41.out T43.out (not_canon _ KA.out) (not_canon _ KB.out)).mono ?_
  rintro e u5 ⟨b44, rfl, hs, hn⟩
  replace HV := Lib.hid (HV.out.trans (hn.mono HV.out.size)); replace TA := Lib.hid (TA.out.below hn); replace TB := Lib.hid (TB.out.below hn); replace TC := Lib.hid (TC.out.below hn); replace TE := Lib.hid (TE.out.below hn)
  replace T39 := Lib.hid (T39.out.below hn)
  clear T41 T43
  have T44 := Lib.hid hs
  clear hn hs
  go_wp2_with fail
  refine (same_yes (bothL (notL 0 A) (notL 0 B)) b39 b44 _ (by have h := T39.out; rw [law1 KA.out KB.out] at h; exact h) T44.out (both_canon _ _ (not_canon _ KA.out) (not_canon _ KB.out)) TE.out).mono ?_
  rintro e u6 ⟨rfl, hn⟩
  replace HV := Lib.hid (HV.out.trans (hn.mono HV.out.size)); replace TA := Lib.hid (TA.out.below hn); replace TB := Lib.hid (TB.out.below hn); replace TC := Lib.hid (TC.out.below hn); replace TE := Lib.hid (TE.out.below hn)
  clear T39 T44
  clear hn
  go_wp2_with fail
  refine (rboth_any A B a b _ TA.out TB.out KA.out KB.out).mono ?_
  rintro e u7 ⟨b49, rfl, hs, hn⟩
  replace HV := Lib.hid (HV.out.trans (hn.mono HV.out.size)); replace TA := Lib.hid (TA.out.below hn); replace TB := Lib.hid (TB.out.below hn); replace TC := Lib.hid (TC.out.below hn); replace TE := Lib.hid (TE.out.below hn)
  have T49 := Lib.hid hs
  clear hn hs
  go_wp2_with fail
  refine (rnot_any (bothL A B) b49 _ T49.out (both_canon _ _ KA.out KB.out)).mono ?_
  rintro e u8 ⟨b50, rfl, hs, hn⟩
  replace HV := Lib.hid (HV.out.trans (hn.mono HV.out.size)); replace TA := Lib.hid (TA.out.below hn); replace TB := Lib.hid (TB.out.below hn); replace TC := Lib.hid (TC.out.below hn); replace TE := Lib.hid (TE.out.below hn)
  clear T49
  have T50 := Lib.hid hs
  clear hn hs
  go_wp2_with fail
  refine (rnot_any A a _ TA.out KA.out).mono ?_
  rintro e u9 ⟨b52, rfl, hs, hn⟩
  replace HV := Lib.hid (HV.out.trans (hn.mono HV.out.size)); replace TA := Lib.hid (TA.out.below hn); replace TB := Lib.hid (TB.out.below hn); replace TC := Lib.hid (TC.out.below hn); replace TE := Lib.hid (TE.out.below hn)
  replace T50 := Lib.hid (T50.out.below hn)
  have T52 := Lib.hid hs
  clear hn hs
  go_wp2_with fail
  refine (rnot_any B b _ TB.out KB.out).mono ?_
  rintro e u10 ⟨b54, rfl, hs, hn⟩
  replace HV := Lib.hid (HV.out.trans (hn.mono HV.out.size)); replace TA := Lib.hid (TA.out.below hn); replace TB := Lib.hid (TB.out.below hn); replace TC := Lib.hid (TC.out.below hn); replace TE := Lib.hid (TE.out.below hn)
  replace T50 := Lib.hid (T50.out.below hn)
  replace T52 := Lib.hid (T52.out.below hn)
  have T54 := Lib.hid hs
  clear hn hs
  go_wp2_with fail
  refine (rjoin_any (notL 0 A) (notL 0 B) b52 b54 _ T52.out T54.out (not_canon _ KA.out) (not_canon _ KB.out)).mono ?_
  rintro e u11 ⟨b55, rfl, hs, hn⟩
  replace HV := Lib.hid (HV.out.trans (hn.mono HV.out.size)); replace TA := Lib.hid (TA.out.below hn); replace TB := Lib.hid (TB.out.below hn); replace TC := Lib.hid (TC.out.below hn); replace TE := Lib.hid (TE.out.below hn)
  replace T50 := Lib.hid (T50.out.below hn)
  clear T52 T54
  have T55 := Lib.hid hs
  clear hn hs
  go_wp2_with fail
  refine (same_yes (joinL (notL 0 A) (notL 0 B)) b50 b55 _ (by have h := T50.out; rw [law2 KA.out KB.out] at h; exact h) T55.out (join_canon (not_canon _ KA.out) (not_canon _ KB.out)) TE.out).mono ?_
  rintro e u12 ⟨rfl, hn⟩
  replace HV := Lib.hid (HV.out.trans (hn.mono HV.out.size)); replace TA := Lib.hid (TA.out.below hn); replace TB := Lib.hid (TB.out.below hn); replace TC := Lib.hid (TC.out.below hn); replace TE := Lib.hid (TE.out.below hn)
  clear T50 T55
  clear hn
  go_wp2_with fail
  refine (rnot_any A a _ TA.out KA.out).mono ?_
  rintro e u13 ⟨b60, rfl, hs, hn⟩
  replace HV := Lib.hid (HV.out.trans (hn.mono HV.out.size)); replace TA := Lib.hid (TA.out.below hn); replace TB := Lib.hid (TB.out.below hn); replace TC := Lib.hid (TC.out.below hn); replace TE := Lib.hid (TE.out.below hn)
  have T60 := Lib.hid hs
  clear hn hs
  go_wp2_with fail
  refine (rnot_any (notL 0 A) b60 _ T60.out (not_canon _ KA.out)).mono ?_
  rintro e u14 ⟨b61, rfl, hs, hn⟩
  replace HV := Lib.hid (HV.out.trans (hn.mono HV.out.size)); replace TA := Lib.hid (TA.out.below hn); replace TB := Lib.hid (TB.out.below hn); replace TC := Lib.hid (TC.out.below hn); replace TE := Lib.hid (TE.out.below hn)
  clear T60
  have T61 := Lib.hid hs
  clear hn hs
  go_wp2_with fail
  refine (same_yes A b61 a _ (by have h := T61.out; rw [law3 KA.out] at h; exact h) TA.out KA.out TE.out).mono ?_
  rintro e u15 ⟨rfl, hn⟩
  replace HV := Lib.hid (HV.out.trans (hn.mono HV.out.size)); replace TA := Lib.hid (TA.out.below hn); replace TB := Lib.hid (TB.out.below hn); replace TC := Lib.hid (TC.out.below hn); replace TE := Lib.hid (TE.out.below hn)
  clear T61
  clear hn
  go_wp2_with fail
  refine (rjoin_any B C b c _ TB.out TC.out KB.out KC.out).mono ?_
  rintro e u16 ⟨b68, rfl, hs, hn⟩
  replace HV := Lib.hid (HV.out.trans (hn.mono HV.out.size)); replace TA := Lib.hid (TA.out.below hn); replace TB := Lib.hid (TB.out.below hn); replace TC := Lib.hid (TC.out.below hn); replace TE := Lib.hid (TE.out.below hn)
  have T68 := Lib.hid hs
  clear hn hs
  go_wp2_with fail
  refine (rboth_any A (joinL B C) a b68 _ TA.out T68.out KA.out (join_canon KB.out KC.out)).mono ?_
  rintro e u17 ⟨b69, rfl, hs, hn⟩
  replace HV := Lib.hid (HV.out.trans (hn.mono HV.out.size)); replace TA := Lib.hid (TA.out.below hn); replace TB := Lib.hid (TB.out.below hn); replace TC := Lib.hid (TC.out.below hn); replace TE := Lib.hid (TE.out.below hn)
  clear T68
  have T69 := Lib.hid hs
  clear hn hs
  go_wp2_with fail
  refine (rboth_any A B a b _ TA.out TB.out KA.out KB.out).mono ?_
  rintro e u18 ⟨b72, rfl, hs, hn⟩
  replace HV := Lib.hid (HV.out.trans (hn.mono HV.out.size)); replace TA := Lib.hid (TA.out.below hn); replace TB := Lib.hid (TB.out.below hn); replace TC := Lib.hid (TC.out.below hn); replace TE := Lib.hid (TE.out.below hn)
  replace T69 := Lib.hid (T69.out.below hn)
  have T72 := Lib.hid hs
  clear hn hs
  go_wp2_with fail
  refine (rboth_any A C a c _ TA.out TC.out KA.out KC.out).mono ?_
  rintro e u19 ⟨b75, rfl, hs, hn⟩
  replace HV := Lib.hid (HV.out.trans (hn.mono HV.out.size)); replace TA := Lib.hid (TA.out.below hn); replace TB := Lib.hid (TB.out.below hn); replace TC := Lib.hid (TC.out.below hn); replace TE := Lib.hid (TE.out.below hn)
  replace T69 := Lib.hid (T69.out.below hn)
  replace T72 := Lib.hid (T72.out.below hn)
  have T75 := Lib.hid hs
  clear hn hs
  go_wp2_with fail
  refine (rjoin_any (bothL A B) (bothL A C) b72 b75 _ T72.out T75.out (both_canon _ _ KA.out KB.out) (both_canon _ _ KA.out KC.out)).mono ?_
  rintro e u20 ⟨b76, rfl, hs, hn⟩
  replace HV := Lib.hid (HV.out.trans (hn.mono HV.out.size)); replace TA := Lib.hid (TA.out.below hn); replace TB := Lib.hid (TB.out.below hn); replace TC := Lib.hid (TC.out.below hn); replace TE := Lib.hid (TE.out.below hn)
  replace T69 := Lib.hid (T69.out.below hn)
  clear T72 T75
  have T76 := Lib.hid hs
  clear hn hs
  go_wp2_with fail
  refine (same_yes (joinL (bothL A B) (bothL A C)) b69 b76 _ (by have h := T69.out; rw [law4 KA.out KB.out KC.out] at h; exact h) T76.out (join_canon (both_canon _ _ KA.out KB.out) (both_canon _ _ KA.out KC.out)) TE.out).mono ?_
  rintro e u21 ⟨rfl, hn⟩
  replace HV := Lib.hid (HV.out.trans (hn.mono HV.out.size)); replace TA := Lib.hid (TA.out.below hn); replace TB := Lib.hid (TB.out.below hn); replace TC := Lib.hid (TC.out.below hn); replace TE := Lib.hid (TE.out.below hn)
  clear T69 T76
  clear hn
  go_wp2_with fail
  refine (rless_any A B a b _ TA.out TB.out KA.out KB.out).mono ?_
  rintro e u22 ⟨b81, rfl, hs, hn⟩
  replace HV := Lib.hid (HV.out.trans (hn.mono HV.out.size)); replace TA := Lib.hid (TA.out.below hn); replace TB := Lib.hid (TB.out.below hn); replace TC := Lib.hid (TC.out.below hn); replace TE := Lib.hid (TE.out.below hn)
  have T81 := Lib.hid hs
  clear hn hs
  go_wp2_with fail
  refine (rnot_any B b _ TB.out KB.out).mono ?_
  rintro e u23 ⟨b84, rfl, hs, hn⟩
  replace HV := Lib.hid (HV.out.trans (hn.mono HV.out.size)); replace TA := Lib.hid (TA.out.below hn); replace TB := Lib.hid (TB.out.below hn); replace TC := Lib.hid (TC.out.below hn); replace TE := Lib.hid (TE.out.below hn)
  replace T81 := Lib.hid (T81.out.below hn)
  have T84 := Lib.hid hs
  clear hn hs
  go_wp2_with fail
  refine (rboth_any A (notL 0 B) a b84 _ TA.out T84.out KA.out (not_canon _ KB.out)).mono ?_
  rintro e u24 ⟨b85, rfl, hs, hn⟩
  replace HV := Lib.hid (HV.out.trans (hn.mono HV.out.size)); replace TA := Lib.hid (TA.out.below hn); replace TB := Lib.hid (TB.out.below hn); replace TC := Lib.hid (TC.out.below hn); replace TE := Lib.hid (TE.out.below hn)
  replace T81 := Lib.hid (T81.out.below hn)
  clear T84
  have T85 := Lib.hid hs
  clear hn hs
  go_wp2_with fail
  refine (same_yes (bothL A (notL 0 B)) b81 b85 _ T81.out T85.out (both_canon _ _ KA.out (not_canon _ KB.out)) TE.out).mono ?_
  rintro e u25 ⟨rfl, hn⟩
  replace HV := Lib.hid (HV.out.trans (hn.mono HV.out.size)); replace TA := Lib.hid (TA.out.below hn); replace TB := Lib.hid (TB.out.below hn); replace TC := Lib.hid (TC.out.below hn); replace TE := Lib.hid (TE.out.below hn)
  clear T81 T85
  clear hn
  go_wp2_with fail
  refine (rless_any A B a b _ TA.out TB.out KA.out KB.out).mono ?_
  rintro e u26 ⟨b91, rfl, hs, hn⟩
  replace HV := Lib.hid (HV.out.trans (hn.mono HV.out.size)); replace TA := Lib.hid (TA.out.below hn); replace TB := Lib.hid (TB.out.below hn); replace TC := Lib.hid (TC.out.below hn); replace TE := Lib.hid (TE.out.below hn)
  have T91 := Lib.hid hs
  clear hn hs
  go_wp2_with fail
  refine (rboth_any A B a b _ TA.out TB.out KA.out KB.out).mono ?_
  rintro e u27 ⟨b94, rfl, hs, hn⟩
  replace HV := Lib.hid (HV.out.trans (hn.mono HV.out.size)); replace TA := Lib.hid (TA.out.below hn); replace TB := Lib.hid (TB.out.below hn); replace TC := Lib.hid (TC.out.below hn); replace TE := Lib.hid (TE.out.below hn)
  replace T91 := Lib.hid (T91.out.below hn)
  have T94 := Lib.hid hs
  clear hn hs
  go_wp2_with fail
  refine (rjoin_any (lessL A B) (bothL A B) b91 b94 _ T91.out T94.out (less_canon KA.out KB.out) (both_canon _ _ KA.out KB.out)).mono ?_
  rintro e u28 ⟨b95, rfl, hs, hn⟩
  replace HV := Lib.hid (HV.out.trans (hn.mono HV.out.size)); replace TA := Lib.hid (TA.out.below hn); replace TB := Lib.hid (TB.out.below hn); replace TC := Lib.hid (TC.out.below hn); replace TE := Lib.hid (TE.out.below hn)
  clear T91 T94
  have T95 := Lib.hid hs
  clear hn hs
  go_wp2_with fail
  refine (same_yes A b95 a _ (by have h := T95.out; rw [law5 KA.out KB.out] at h; exact h) TA.out KA.out TE.out).mono ?_
  rintro e u29 ⟨rfl, hn⟩
  replace HV := Lib.hid (HV.out.trans (hn.mono HV.out.size)); replace TA := Lib.hid (TA.out.below hn); replace TB := Lib.hid (TB.out.below hn); replace TC := Lib.hid (TC.out.below hn); replace TE := Lib.hid (TE.out.below hn)
  clear T95
  clear hn
  go_wp2_with fail
  obtain ⟨yA, e2⟩ : ∃ x, cntL (notL 0 A) = x := ⟨_, rfl⟩
  obtain ⟨q, e4⟩ : ∃ x, cntL (bothL A B) = x := ⟨_, rfl⟩
  obtain ⟨zB, e5⟩ : ∃ x, cntL B = x := ⟨_, rfl⟩
  have s1 := cnt_not KA.out
  have s2 := law7 KA.out KB.out
  have bA := cnt_bd KA.out (Int.le_refl _) (by unfold allN; omega)
  have bB := cnt_bd KB.out (Int.le_refl _) (by unfold allN; omega)
  have bQ := cnt_bd (both_canon _ _ KA.out KB.out) (Int.le_refl _) (by unfold allN; omega)
  rw [e2] at s1
  rw [e4, e5] at s2
  rw [e4] at bQ
  rw [e5] at bB
  unfold allN at s1 bA bB bQ
  have e1 : cntL A = 1112192 - yA := by omega
  have e3 : cntL (joinL A B) = (1112192 - yA) + zB - q := by omega
  have by1 : 0 ≤ yA := by omega
  have by2 : yA ≤ 1112192 := by omega
  have bz1 := bB.1
  have bz2 := bB.2
  have bq1 := bQ.1
  have bq2 := bQ.2
  have HN := Lib.hid (And.intro e1 (And.intro e2 (And.intro e3 (And.intro e4 e5))))
  clear e1 e2 e3 e4 e5 s1 s2 bA bB bQ
  refine (count_is A a _ _ TA.out KA.out HN.out.1).mono ?_
  rintro e u30 ⟨rfl, hn⟩
  replace HV := Lib.hid (HV.out.trans (hn.mono HV.out.size)); replace TA := Lib.hid (TA.out.below hn); replace TB := Lib.hid (TB.out.below hn); replace TC := Lib.hid (TC.out.below hn); replace TE := Lib.hid (TE.out.below hn)
  clear hn
  go_wp2_with fail
  refine (rnot_any A a _ TA.out KA.out).mono ?_
  rintro e u31 ⟨b102, rfl, hs, hn⟩
  replace HV := Lib.hid (HV.out.trans (hn.mono HV.out.size)); replace TA := Lib.hid (TA.out.below hn); replace TB := Lib.hid (TB.out.below hn); replace TC := Lib.hid (TC.out.below hn); replace TE := Lib.hid (TE.out.below hn)
  have T102 := Lib.hid hs
  clear hn hs
  go_wp2_with fail
  refine (count_is (notL 0 A) b102 _ _ T102.out (not_canon _ KA.out) HN.out.2.1).mono ?_
  rintro e u32 ⟨rfl, hn⟩
  replace HV := Lib.hid (HV.out.trans (hn.mono HV.out.size)); replace TA := Lib.hid (TA.out.below hn); replace TB := Lib.hid (TB.out.below hn); replace TC := Lib.hid (TC.out.below hn); replace TE := Lib.hid (TE.out.below hn)
  clear T102
  clear hn
  go_wp2_with fail
  refine (rjoin_any A B a b _ TA.out TB.out KA.out KB.out).mono ?_
  rintro e u33 ⟨b109, rfl, hs, hn⟩
  replace HV := Lib.hid (HV.out.trans (hn.mono HV.out.size)); replace TA := Lib.hid (TA.out.below hn); replace TB := Lib.hid (TB.out.below hn); replace TC := Lib.hid (TC.out.below hn); replace TE := Lib.hid (TE.out.below hn)
  have T109 := Lib.hid hs
  clear hn hs
  go_wp2_with fail
  refine (count_is (joinL A B) b109 _ _ T109.out (join_canon KA.out KB.out) HN.out.2.2.1).mono ?_
  rintro e u34 ⟨rfl, hn⟩
  replace HV := Lib.hid (HV.out.trans (hn.mono HV.out.size)); replace TA := Lib.hid (TA.out.below hn); replace TB := Lib.hid (TB.out.below hn); replace TC := Lib.hid (TC.out.below hn); replace TE := Lib.hid (TE.out.below hn)
  clear T109
  clear hn
  go_wp2_with fail
  refine (rboth_any A B a b _ TA.out TB.out KA.out KB.out).mono ?_
  rintro e u35 ⟨b113, rfl, hs, hn⟩
  replace HV := Lib.hid (HV.out.trans (hn.mono HV.out.size)); replace TA := Lib.hid (TA.out.below hn); replace TB := Lib.hid (TB.out.below hn); replace TC := Lib.hid (TC.out.below hn); replace TE := Lib.hid (TE.out.below hn)
  have T113 := Lib.hid hs
  clear hn hs
  go_wp2_with fail
  refine (count_is (bothL A B) b113 _ _ T113.out (both_canon _ _ KA.out KB.out) HN.out.2.2.2.1).mono ?_
  rintro e u36 ⟨rfl, hn⟩
  replace HV := Lib.hid (HV.out.trans (hn.mono HV.out.size)); replace TA := Lib.hid (TA.out.below hn); replace TB := Lib.hid (TB.out.below hn); replace TC := Lib.hid (TC.out.below hn); replace TE := Lib.hid (TE.out.below hn)
  clear T113
  clear hn
  go_wp2_with fail
  refine (count_is A a _ _ TA.out KA.out HN.out.1).mono ?_
  rintro e u37 ⟨rfl, hn⟩
  replace HV := Lib.hid (HV.out.trans (hn.mono HV.out.size)); replace TA := Lib.hid (TA.out.below hn); replace TB := Lib.hid (TB.out.below hn); replace TC := Lib.hid (TC.out.below hn); replace TE := Lib.hid (TE.out.below hn)
  clear hn
  go_wp2_with fail
  refine (count_is B b _ _ TB.out KB.out HN.out.2.2.2.2).mono ?_
  rintro e u38 ⟨rfl, hn⟩
  replace HV := Lib.hid (HV.out.trans (hn.mono HV.out.size)); replace TA := Lib.hid (TA.out.below hn); replace TB := Lib.hid (TB.out.below hn); replace TC := Lib.hid (TC.out.below hn); replace TE := Lib.hid (TE.out.below hn)
  clear hn
  go_upto_region 7 with fail
  clear HN by1 by2 bz1 bz2 bq1 bq2
  obtain ⟨t, ht⟩ : ∃ t, (numB r).2 = t := ⟨_, rfl⟩
  go_cut [15] from 123 (fun x wx => x = .bool t ∧ wx = u38)
  case first =>
    have HL := numB_cases r
    rw [ht] at HL
    rcases HL with ⟨h0, rfl⟩ | ⟨h0, h1, rfl⟩ | ⟨h0, h1, rfl⟩ | ⟨h0, h1, rfl⟩ | ⟨h0, h1, rfl⟩ | ⟨h0, h1, rfl⟩ | ⟨h0, rfl⟩
    all_goals
      go_wp2_with fail
      go_meet
      refine ⟨?_, rfl⟩
      first
        | rfl
        | (simp only [Value.bool.injEq, Bool.or_eq_false_iff, decide_eq_false_iff_not]; omega)
  case rest =>
    obtain ⟨rfl, rfl⟩ := hcut
    have HA := Lib.hid (by have h := has_all KA.out KB.out r; rw [ht] at h; exact h)
    clear ht
    go_wp2_with fail
    refine (rjoin_any A B a b _ TA.out TB.out KA.out KB.out).mono ?_
    rintro e u39 ⟨b155, rfl, hs, hn⟩
    replace HV := Lib.hid (HV.out.trans (hn.mono HV.out.size)); replace TA := Lib.hid (TA.out.below hn); replace TB := Lib.hid (TB.out.below hn); replace TC := Lib.hid (TC.out.below hn); replace TE := Lib.hid (TE.out.below hn)
    have T155 := Lib.hid hs
    clear hn hs
    go_wp2_with fail
    refine (rjoin_any B A b a _ TB.out TA.out KB.out KA.out).mono ?_
    rintro e u40 ⟨b158, rfl, hs, hn⟩
    replace HV := Lib.hid (HV.out.trans (hn.mono HV.out.size)); replace TA := Lib.hid (TA.out.below hn); replace TB := Lib.hid (TB.out.below hn); replace TC := Lib.hid (TC.out.below hn); replace TE := Lib.hid (TE.out.below hn)
    replace T155 := Lib.hid (T155.out.below hn)
    have T158 := Lib.hid hs
    clear hn hs
    go_wp2_with fail
    refine (same_yes (joinL B A) b155 b158 _ (by have h := T155.out; rw [law6 KA.out KB.out] at h; exact h) T158.out (join_canon KB.out KA.out) TE.out).mono ?_
    rintro e u41 ⟨rfl, hn⟩
    replace HV := Lib.hid (HV.out.trans (hn.mono HV.out.size)); replace TA := Lib.hid (TA.out.below hn); replace TB := Lib.hid (TB.out.below hn); replace TC := Lib.hid (TC.out.below hn); replace TE := Lib.hid (TE.out.below hn)
    clear T155 T158
    clear hn
    go_wp2_with fail
    obtain ⟨z, hz⟩ : ∃ z, hasB B r = z := ⟨_, rfl⟩
    rcases HA.out with ⟨x1, x2, x3, x4⟩ | ⟨x1, x2, x4⟩
    · subst x3
      rw [hz] at x4
      have X := Lib.hid (And.intro x1 (And.intro x2 (And.intro x4 hz)))
      clear x1 x2 x4 hz HA
      refine (has_is A a r _ _ TA.out KA.out TE.out hr X.out.1).mono ?_
      rintro e u42 ⟨rfl, hn⟩
      replace HV := Lib.hid (HV.out.trans (hn.mono HV.out.size)); replace TA := Lib.hid (TA.out.below hn); replace TB := Lib.hid (TB.out.below hn); replace TC := Lib.hid (TC.out.below hn); replace TE := Lib.hid (TE.out.below hn)
      clear hn
      go_wp2_with fail
      refine (has_is A a r _ _ TA.out KA.out TE.out hr X.out.1).mono ?_
      rintro e u43 ⟨rfl, hn⟩
      replace HV := Lib.hid (HV.out.trans (hn.mono HV.out.size)); replace TA := Lib.hid (TA.out.below hn); replace TB := Lib.hid (TB.out.below hn); replace TC := Lib.hid (TC.out.below hn); replace TE := Lib.hid (TE.out.below hn)
      clear hn
      go_wp2_with fail
      refine (rnot_any A a _ TA.out KA.out).mono ?_
      rintro e u44 ⟨b180, rfl, hs, hn⟩
      replace HV := Lib.hid (HV.out.trans (hn.mono HV.out.size)); replace TA := Lib.hid (TA.out.below hn); replace TB := Lib.hid (TB.out.below hn); replace TC := Lib.hid (TC.out.below hn); replace TE := Lib.hid (TE.out.below hn)
      have T180 := Lib.hid hs
      clear hn hs
      go_wp2_with fail
      refine (has_is (notL 0 A) b180 r _ _ T180.out (not_canon _ KA.out) TE.out hr X.out.2.1).mono ?_
      rintro e u45 ⟨rfl, hn⟩
      replace HV := Lib.hid (HV.out.trans (hn.mono HV.out.size)); replace TA := Lib.hid (TA.out.below hn); replace TB := Lib.hid (TB.out.below hn); replace TC := Lib.hid (TC.out.below hn); replace TE := Lib.hid (TE.out.below hn)
      clear T180
      clear hn
      go_wp2_with fail
      refine (rboth_any A B a b _ TA.out TB.out KA.out KB.out).mono ?_
      rintro e u46 ⟨b189, rfl, hs, hn⟩
      replace HV := Lib.hid (HV.out.trans (hn.mono HV.out.size)); replace TA := Lib.hid (TA.out.below hn); replace TB := Lib.hid (TB.out.below hn); replace TC := Lib.hid (TC.out.below hn); replace TE := Lib.hid (TE.out.below hn)
      have T189 := Lib.hid hs
      clear hn hs
      go_wp2_with fail
      refine (has_is (bothL A B) b189 r _ _ T189.out (both_canon _ _ KA.out KB.out) TE.out hr X.out.2.2.1).mono ?_
      rintro e u47 ⟨rfl, hn⟩
      replace HV := Lib.hid (HV.out.trans (hn.mono HV.out.size)); replace TA := Lib.hid (TA.out.below hn); replace TB := Lib.hid (TB.out.below hn); replace TC := Lib.hid (TC.out.below hn); replace TE := Lib.hid (TE.out.below hn)
      clear T189
      clear hn
      go_wp2_with fail
      refine (has_is A a r _ _ TA.out KA.out TE.out hr X.out.1).mono ?_
      rintro e u48 ⟨rfl, hn⟩
      replace HV := Lib.hid (HV.out.trans (hn.mono HV.out.size)); replace TA := Lib.hid (TA.out.below hn); replace TB := Lib.hid (TB.out.below hn); replace TC := Lib.hid (TC.out.below hn); replace TE := Lib.hid (TE.out.below hn)
      clear hn
      go_wp2_with fail
      refine (has_is B b r _ _ TB.out KB.out TE.out hr X.out.2.2.2).mono ?_
      rintro e u49 ⟨rfl, hn⟩
      replace HV := Lib.hid (HV.out.trans (hn.mono HV.out.size)); replace TA := Lib.hid (TA.out.below hn); replace TB := Lib.hid (TB.out.below hn); replace TC := Lib.hid (TC.out.below hn); replace TE := Lib.hid (TE.out.below hn)
      clear hn
      go_wp2_with fail
      go_ret
      exact ⟨by simp, HV.out⟩
    · have X := Lib.hid (And.intro x1 (And.intro x2 x4))
      clear x1 x2 x4 hz HA
      refine (has_is A a r _ _ TA.out KA.out TE.out hr X.out.1).mono ?_
      rintro e u50 ⟨rfl, hn⟩
      replace HV := Lib.hid (HV.out.trans (hn.mono HV.out.size)); replace TA := Lib.hid (TA.out.below hn); replace TB := Lib.hid (TB.out.below hn); replace TC := Lib.hid (TC.out.below hn); replace TE := Lib.hid (TE.out.below hn)
      clear hn
      go_wp2_with fail
      refine (rnot_any A a _ TA.out KA.out).mono ?_
      rintro e u51 ⟨b167, rfl, hs, hn⟩
      replace HV := Lib.hid (HV.out.trans (hn.mono HV.out.size)); replace TA := Lib.hid (TA.out.below hn); replace TB := Lib.hid (TB.out.below hn); replace TC := Lib.hid (TC.out.below hn); replace TE := Lib.hid (TE.out.below hn)
      have T167 := Lib.hid hs
      clear hn hs
      go_wp2_with fail
      refine (has_is (notL 0 A) b167 r _ _ T167.out (not_canon _ KA.out) TE.out hr X.out.2.1).mono ?_
      rintro e u52 ⟨rfl, hn⟩
      replace HV := Lib.hid (HV.out.trans (hn.mono HV.out.size)); replace TA := Lib.hid (TA.out.below hn); replace TB := Lib.hid (TB.out.below hn); replace TC := Lib.hid (TC.out.below hn); replace TE := Lib.hid (TE.out.below hn)
      clear T167
      clear hn
      go_wp2_with fail
      refine (has_is A a r _ _ TA.out KA.out TE.out hr X.out.1).mono ?_
      rintro e u53 ⟨rfl, hn⟩
      replace HV := Lib.hid (HV.out.trans (hn.mono HV.out.size)); replace TA := Lib.hid (TA.out.below hn); replace TB := Lib.hid (TB.out.below hn); replace TC := Lib.hid (TC.out.below hn); replace TE := Lib.hid (TE.out.below hn)
      clear hn
      go_wp2_with fail
      refine (rboth_any A B a b _ TA.out TB.out KA.out KB.out).mono ?_
      rintro e u54 ⟨b189, rfl, hs, hn⟩
      replace HV := Lib.hid (HV.out.trans (hn.mono HV.out.size)); replace TA := Lib.hid (TA.out.below hn); replace TB := Lib.hid (TB.out.below hn); replace TC := Lib.hid (TC.out.below hn); replace TE := Lib.hid (TE.out.below hn)
      have T189 := Lib.hid hs
      clear hn hs
      go_wp2_with fail
      refine (has_is (bothL A B) b189 r _ _ T189.out (both_canon _ _ KA.out KB.out) TE.out hr X.out.2.2).mono ?_
      rintro e u55 ⟨rfl, hn⟩
      replace HV := Lib.hid (HV.out.trans (hn.mono HV.out.size)); replace TA := Lib.hid (TA.out.below hn); replace TB := Lib.hid (TB.out.below hn); replace TC := Lib.hid (TC.out.below hn); replace TE := Lib.hid (TE.out.below hn)
      clear T189
      clear hn
      go_wp2_with fail
      refine (has_is A a r _ _ TA.out KA.out TE.out hr X.out.1).mono ?_
      rintro e u56 ⟨rfl, hn⟩
      replace HV := Lib.hid (HV.out.trans (hn.mono HV.out.size)); replace TA := Lib.hid (TA.out.below hn); replace TB := Lib.hid (TB.out.below hn); replace TC := Lib.hid (TC.out.below hn); replace TE := Lib.hid (TE.out.below hn)
      clear hn
      go_wp2_with fail
      go_ret
      exact ⟨by simp, HV.out⟩

theorem rlaws_c (v1 : Value) (l1 : List (Int × Int)) (v2 : Value) (l2 : List (Int × Int)) (v3 : Value) (l3 : List (Int × Int)) (r : Int) (w : World) (hE : REnv w) (h1 : SpA w v1 l1) (k1 : Runy l1) (m1 : l1.length ≤ 9223372036854775807)
    (h2 : SpA w v2 l2) (k2 : Runy l2) (m2 : l2.length ≤ 9223372036854775807) (h3 : SpA w v3 l3) (k3 : Runy l3) (m3 : l3.length ≤ 9223372036854775807) (hr : -2147483648 ≤ r ∧ r ≤ 2147483647) :
    Calls Tryz.prog 10 #[v1, v2, v3, .int .i32 r] w fun e w' => e = .returned (.bool true) ∧ Below w.heap.size w w' :=
  rangesLaws_walk l1 l2 l3 v1 v2 v3 r w h1 h2 h3 hE m1 m2 m3 k1 k2 k3 hr
end Go.Proofs.YtjbkpcdpdifpnaaGreatDoor
