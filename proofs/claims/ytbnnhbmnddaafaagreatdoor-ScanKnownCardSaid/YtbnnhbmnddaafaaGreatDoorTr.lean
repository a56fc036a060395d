/- ScanScan: its walk. -/
import Derived.Test.YtbnnhbmnddaafaaGreatDoorTq
import Derived.Test.YtbnnhbmnddaafaaGreatDoorGz13
namespace Go.Proofs.YtbnnhbmnddaafaaGreatDoor
open Go Go.RowKit Go.Kt Go.Shelf Go.Lib
attribute [local go_sem] Oper.semAt_some

set_option maxRecDepth 100000 in
set_option maxHeartbeats 4000000 in
theorem scanScan_c (s t : ByteArray) (w : World) (hE : SEnv w) (_hB : BTab w) (_hl : 6 < w.heap.size) (hs : s.size ≤ 140737488351232) (ht : t.size ≤ 140737488351232) :
    Calls Tryz.prog 11 #[.string s, .string t] w fun e w' => e = .returned (.bool true) ∧ Below w.heap.size w w' := by
  have CW := Lib.hid (fun V => works_any5 V)
  have CSs := Lib.hid (fun V => small_any s V hs)
  have CSt := Lib.hid (fun V => small_any t V ht)
  have HE := Lib.hid hE
  by_cases hsm : smallB s = false ∨ smallB t = false
  · cases h1 : smallB s with
    | false =>
      rw [h1] at CSs
      clear h1 hsm
      go_enter Tryz.func11, Tryz.ntmps11
      go_wp2_with (first | (go_at_call 27; refine (CSs.out _).mono ?_; clear CSs; rintro e w1 ⟨rfl, rfl⟩) | (go_at_call 28; refine (CW.out _ HE.out).mono ?_; rintro e w4 ⟨rfl, hb4⟩))
      go_ret
      exact ⟨rfl, hb4⟩
    | true =>
      have h2 : smallB t = false := by
        rcases hsm with h | h
        · rw [h1] at h; cases h
        · exact h
      rw [h1] at CSs
      rw [h2] at CSt
      clear h1 h2 hsm
      go_enter Tryz.func11, Tryz.ntmps11
      go_wp2_with (first | (go_at_call 27; refine (CSs.out _).mono ?_; clear CSs; rintro e w1 ⟨rfl, rfl⟩) | (go_at_call 27; refine (CSt.out _).mono ?_; clear CSt; rintro e w1 ⟨rfl, rfl⟩) | (go_at_call 28; refine (CW.out _ HE.out).mono ?_; rintro e w4 ⟨rfl, hb4⟩))
      go_ret
      exact ⟨rfl, hb4⟩
  have h1 : smallB s = true := by cases h : smallB s with | true => rfl | false => exact absurd (.inl h) hsm
  have h2 : smallB t = true := by cases h : smallB t with | true => rfl | false => exact absurd (.inr h) hsm
  have ls := tok_few h1
  have lt := tok_few h2
  rw [h1] at CSs
  rw [h2] at CSt
  have X1 := Lib.hid (xscan_any s w hs)
  have X2 := Lib.hid (fun V => xscan_any t V ht)
  have S1 := Lib.hid (fun V (h : SEnv V) => scan_any s V h hs)
  have S2 := Lib.hid (fun V (h : SEnv V) => scan_any t V h ht)
  have AT := Lib.hid (fun V (h : SEnv V) => at_scan (s := s) V h.err)
  have NU := Lib.hid (fun V => num_scan (s := t) V)
  generalize scanS s = R at *
  generalize scanS t = Q at *
  obtain ⟨A, hA⟩ : ∃ A, tokR R = A := ⟨_, rfl⟩
  obtain ⟨B, hB⟩ : ∃ B, tokR Q = B := ⟨_, rfl⟩
  rw [hA] at ls
  rw [hB] at lt
  have X1' : Hid (Calls Tryz.prog 29 #[.string s] w fun e w' => (∃ ao cap, e = .returned (.tuple #[.slice ao A.length cap, .int .i64 (noR R : Nat), .int .i64 (liR R : Nat), .int .i64 (coR R : Nat)]) ∧ OwnS (fun b => w.heap.size ≤ b) 30 5 (.slice ao A.length cap) A.length (tksC A) w') ∧ Below w.heap.size w w') := Lib.hid (X1.out.mono fun e w' h => ⟨by have := xscan_out h.1; rw [hA] at this; exact this, h.2⟩)
  have X2' : Hid (∀ V, Calls Tryz.prog 29 #[.string t] V fun e w' => (∃ ao cap, e = .returned (.tuple #[.slice ao B.length cap, .int .i64 (noR Q : Nat), .int .i64 (liR Q : Nat), .int .i64 (coR Q : Nat)]) ∧ OwnS (fun b => V.heap.size ≤ b) 30 5 (.slice ao B.length cap) B.length (tksC B) w') ∧ Below V.heap.size V w') := Lib.hid (fun V => (X2.out V).mono fun e w' h => ⟨by have := xscan_out h.1; rw [hB] at this; exact this, h.2⟩)
  have S1' : Hid (∀ V, SEnv V → Calls Tryz.prog 7 #[.string s] V fun e w' => (∃ ao cap, e = .returned (.tuple #[.slice ao A.length cap, errV R]) ∧ OwnS (fun b => V.heap.size ≤ b) 30 5 (.slice ao A.length cap) A.length (tksC A) w') ∧ Below V.heap.size V w') := Lib.hid (fun V hV => (S1.out V hV).mono fun e w' h => ⟨by have := scan_out h.1; rw [hA] at this; exact this, h.2⟩)
  have S2' : Hid (∀ V, SEnv V → Calls Tryz.prog 7 #[.string t] V fun e w' => (∃ ao cap, e = .returned (.tuple #[.slice ao B.length cap, errV Q]) ∧ OwnS (fun b => V.heap.size ≤ b) 30 5 (.slice ao B.length cap) B.length (tksC B) w') ∧ Below V.heap.size V w') := Lib.hid (fun V hV => (S2.out V hV).mono fun e w' h => ⟨by have := scan_out h.1; rw [hB] at this; exact this, h.2⟩)
  clear X1 X2 S1 S2 hA hB hsm h1 h2 hE _hB _hl hs ht
  have nn : (((noR Q : Nat) : Int) != ((noR Q : Nat) : Int)) = false := by simp
  generalize errV R = eR at *
  generalize errV Q = eQ at *
  generalize noR R = nR at *
  generalize noR Q = nQ at *
  generalize liR R = lR at *
  generalize liR Q = lQ at *
  generalize coR R = cR at *
  generalize coR Q = cQ at *
  go_enter Tryz.func11, Tryz.ntmps11
  go_wp2_with (first | (go_at_call 27; refine (CSs.out _).mono ?_; clear CSs; rintro e w1 ⟨rfl, rfl⟩) | (go_at_call 27; refine (CSt.out _).mono ?_; clear CSt; rintro e w1 ⟨rfl, rfl⟩) | fail)
  refine X1'.out.mono ?_
  rintro e w1 ⟨⟨a0, c0, rfl, o0⟩, b1⟩
  have z1 := b1.size
  have O0 := Lib.hid o0
  have B1 := Lib.hid b1
  clear o0 b1
  go_wp2_with fail
  refine (X2'.out _).mono ?_
  rintro e w2 ⟨⟨a5, c5, rfl, o5⟩, b2⟩
  have z2 := b2.size
  have O5 := Lib.hid o5
  have B2 := Lib.hid (B1.out.trans (b2.mono z1))
  have D2 := Lib.hid b2
  have HE2 := Lib.hid (HE.out.below B2.out)
  clear o5 b2
  go_wp2_with fail
  refine (S1'.out _ HE2.out).mono ?_
  rintro e w3 ⟨⟨a1, c1, rfl, o1⟩, b3⟩
  have z3 := b3.size
  have O1 := Lib.hid (own_bd o1)
  have HE3 := Lib.hid (HE2.out.below b3)
  have B3 := Lib.hid b3
  clear o1 b3
  go_wp2_with fail
  refine (S1'.out _ HE3.out).mono ?_
  rintro e w4 ⟨⟨a2, c2, rfl, o2⟩, b4⟩
  have z4 := b4.size
  have O2 := Lib.hid (own_bd o2)
  have HE4 := Lib.hid (HE3.out.below b4)
  have B4 := Lib.hid b4
  clear o2 b4
  go_wp2_with fail
  refine (S2'.out _ HE4.out).mono ?_
  rintro e w5 ⟨⟨a3, c3, rfl, o3⟩, b5⟩
  have z5 := b5.size
  have O3 := Lib.hid (own_bd o3)
  have HE5 := Lib.hid (HE4.out.below b5)
  have B5 := Lib.hid b5
  clear o3 b5
  go_wp2_with fail
  refine (S1'.out _ HE5.out).mono ?_
  rintro e w6 ⟨⟨a4, c4, rfl, o4⟩, b6⟩
  have z6 := b6.size
  have O4 := Lib.hid (own_bd o4)
  have HE6 := Lib.hid (HE5.out.below b6)
  have q5 : Below w5.heap.size w5 w6 := b6
  have q4 : Below w4.heap.size w4 w6 := B5.out.trans (b6.mono z5)
  have q3 : Below w3.heap.size w3 w6 := B4.out.trans (q4.mono z4)
  have q2 : Below w2.heap.size w2 w6 := B3.out.trans (q3.mono z3)
  have q1 : Below w1.heap.size w1 w6 := D2.out.trans (q2.mono z2)
  have q0 : Below w.heap.size w w6 := B2.out.trans (q2.mono (Nat.le_trans z1 z2))
  have T0 := Lib.hid (tkG_of (own_later O0.out q1))
  have T5 := Lib.hid (tkG_of (own_later O5.out q2))
  have T1 := Lib.hid (tkG_of (own_later O1.out q3))
  have T2 := Lib.hid (tkG_of (own_later O2.out q4))
  have T3 := Lib.hid (tkG_of (own_later O3.out q5))
  have T4 := Lib.hid (tkG_of O4.out)
  have QQ := Lib.hid (And.intro q0 (And.intro q3 (And.intro q4 q5)))
  clear q0 q1 q2 q3 q4 q5 b6
  -- the errors
  have A6 := Lib.hid (AT.out w6 HE6.out)
  go_wp2_with fail
  refine A6.out.mono ?_
  rintro e w7 ⟨rfl, d7⟩
  have D7 := Lib.hid d7
  have A7 := Lib.hid (AT.out w7 (HE6.out.below d7))
  clear d7
  go_wp2_with fail
  refine A7.out.mono ?_
  rintro e w8 ⟨rfl, d8⟩
  have D8 := Lib.hid (D7.out.trans (d8.mono D7.out.size))
  clear d8
  go_wp2_with fail
  refine (NU.out w8).mono ?_
  rintro e w9 ⟨rfl, d9⟩
  have D9 := Lib.hid (D8.out.trans (d9.mono D8.out.size))
  have A9 := Lib.hid (AT.out w9 (HE6.out.below D9.out))
  clear d9
  go_wp2_with fail
  refine A9.out.mono ?_
  rintro e w10 ⟨rfl, d10⟩
  have D10 := Lib.hid (D9.out.trans (d10.mono D9.out.size))
  clear d10
  -- the lists
  have C1 := Lib.hid (sameTokens_yes _ _ A w10 (T1.out.below D10.out) (T0.out.below D10.out) (by omega))
  go_wp2_with fail
  refine C1.out.mono ?_
  rintro e w11 ⟨rfl, d11⟩
  have D11 := Lib.hid (D10.out.trans (d11.below.mono D10.out.size))
  clear d11
  have C2 := Lib.hid (sameTokens_yes _ _ A w11 (T2.out.below D11.out) (T0.out.below D11.out) (by omega))
  go_wp2_with fail
  refine C2.out.mono ?_
  rintro e w12 ⟨rfl, d12⟩
  have D12 := Lib.hid (D11.out.trans (d12.below.mono D11.out.size))
  clear d12
  have C3 := Lib.hid (sameTokens_yes _ _ B w12 (T3.out.below D12.out) (T5.out.below D12.out) (by omega))
  go_wp2_with fail
  refine C3.out.mono ?_
  rintro e w13 ⟨rfl, d13⟩
  have D13 := Lib.hid (D12.out.trans (d13.below.mono D12.out.size))
  clear d13
  have C4 := Lib.hid (sameTokens_yes _ _ A w13 (T4.out.below D13.out) (T0.out.below D13.out) (by omega))
  go_wp2_with fail
  refine C4.out.mono ?_
  rintro e w14 ⟨rfl, d14⟩
  have D14 := Lib.hid (D13.out.trans (d14.below.mono D13.out.size))
  clear d14
  have fin : ∀ (W : World), Below w6.heap.size w6 W → HandT W.heap.size [.slice a1 A.length c1, .slice a2 A.length c2, .slice a3 B.length c3, .slice a4 A.length c4] (fun k => if k = 0 then A.length else if k = 1 then A.length else if k = 2 then B.length else A.length)
      (W.alloc (.cells #[.slice a1 A.length c1, .slice a2 A.length c2, .slice a3 B.length c3, .slice a4 A.length c4] 23 (0, 0))) := fun W h =>
    handedT4 (l0 := w2.heap.size) (l1 := w3.heap.size) (l2 := w4.heap.size) (l3 := w5.heap.size) (l4 := w6.heap.size) h.size z4 z5 z6
      (own_later (own_later O1.out QQ.out.2.1) h) (own_later (own_later O2.out QQ.out.2.2.1) h) (own_later (own_later O3.out QQ.out.2.2.2) h) (own_later O4.out h) (by omega) (by omega) (by omega) (by omega)
  obtain ⟨W, hW⟩ : ∃ W, w14.alloc (.cells #[.slice a1 A.length c1, .slice a2 A.length c2, .slice a3 B.length c3, .slice a4 A.length c4] 23 (0, 0)) = W := ⟨_, rfl⟩
  have hH := fin w14 D14.out
  rw [hW] at hH
  have hbW : Below w14.heap.size w14 W := by rw [← hW]; exact (Below.refl _ w14).alloc (Nat.le_refl _) _
  have C5 := Lib.hid (apartTokens_any w14.heap.size 4 _ _ W hH)
  have hX : ∀ b, Lk.Xs [.slice a1 A.length c1, .slice a2 A.length c2, .slice a3 B.length c3, .slice a4 A.length c4] b → w2.heap.size ≤ b := by
    rintro b ⟨v, hv, hb⟩
    simp only [List.mem_cons, List.not_mem_nil, or_false] at hv
    rcases hv with rfl | rfl | rfl | rfl
    · exact (O1.out.2 b hb).1
    · have := (O2.out.2 b hb).1; omega
    · have := (O3.out.2 b hb).1; omega
    · have := (O4.out.2 b hb).1; omega
  have HX := Lib.hid hX
  have hz0 := QQ.out.1.size
  have hb0W : Below w.heap.size w W := (QQ.out.1.trans (D14.out.mono hz0)).trans (hbW.mono (by have := D14.out.size; omega))
  have HB0W := Lib.hid hb0W
  have HW := Lib.hid hW
  clear fin hH hbW hX hb0W hW hz0
  go_wp2_with fail
  rw [HW.out]
  refine C5.out.mono ?_
  rintro e w15 ⟨rfl, hk15⟩
  have hb15 : Below w.heap.size w w15 := HB0W.out.trans (hk15.below HB0W.out.size (fun b hb => by have := HX.out b hb; omega))
  have C6 := Lib.hid (CW.out w15 (HE.out.below hb15))
  have HB15 := Lib.hid hb15
  clear hb15 hk15
  go_wp2_with fail
  refine C6.out.mono ?_
  rintro e w16 ⟨rfl, hb16⟩
  go_wp2
  go_ret
  exact ⟨rfl, HB15.out.trans (hb16.mono HB15.out.size)⟩
end Go.Proofs.YtbnnhbmnddaafaaGreatDoor
