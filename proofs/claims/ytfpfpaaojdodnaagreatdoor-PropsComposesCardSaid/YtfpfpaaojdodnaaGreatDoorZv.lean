/- props' law: PropsComposes: the walk. -/
import Derived.Test.YtfpfpaaojdodnaaGreatDoorZp
import Derived.Test.YtfpfpaaojdodnaaGreatDoorZn
namespace Go.Proofs.YtfpfpaaojdodnaaGreatDoor
open Go Go.RowKit Go.Kt Go.Kt.Rg Go.Maps

theorem cmp_i32 {k : Nat} {S : RdS} {L : List Nat} (hS : RdOk k S) (hL : L.Pairwise (· < ·)) {a b r : Int} (h : cmpV (mdOf S L) a b = some r) : I32 r := by
  unfold cmpV at h
  cases hs : synP a b with
  | some x =>
    rw [hs] at h
    cases h
    unfold synP at hs
    by_cases h1 : (leadP a && vowP b) = true
    · rw [if_pos h1] at hs
      simp [leadP, vowP] at h1
      cases hs
      exact ⟨by omega, by omega⟩
    · rw [if_neg h1] at hs
      by_cases h2 : (sylP a && decide ((a - 44032) % 28 = 0) && tailP b) = true
      · rw [if_pos h2] at hs
        simp [sylP, tailP] at h2
        cases hs
        exact ⟨by omega, by omega⟩
      · rw [if_neg h2] at hs
        cases hs
  | none =>
    rw [hs] at h
    cases hm : mdOf S L a b with
    | none => rw [hm] at h; cases h
    | some c =>
    rw [hm] at h
    obtain rfl : (c : Int) = r := Option.some.inj h
    have hq := (mdOf_spec S hL L.length (Nat.le_refl _)).1 a b c (by rw [List.take_length]; exact hm)
    obtain ⟨_, _, _, _, _, hd, _⟩ := hq
    have := valid_le (hS.ds _ _ hd).1.1
    exact ⟨by omega, by omega⟩
theorem errP_iface2 (no line : Nat) : ∃ t v, errP no line = .iface t v := by
  unfold errP
  split
  · exact ⟨_, _, rfl⟩
  · exact ⟨_, _, rfl⟩
/-- A list of three that was just made. -/
theorem slA_three (w : World) (a b c : Int) {W : World} (hW : w.alloc (.cells #[.int .i32 a, .int .i32 b, .int .i32 c] 21) = W) : SlA W (.slice (some ⟨w.heap.size, 0, none⟩) 3 3) [a, b, c] := by
  refine ⟨some ⟨w.heap.size, 0, none⟩, 3, rfl, .inr ⟨_, rfl, fun i x hx => ?_⟩⟩
  have hh : W.heap[w.heap.size]? = some (.cells #[.int .i32 a, .int .i32 b, .int .i32 c] 21 (0, 0)) := by rw [← hW]; exact World.alloc_heap_new w _
  rw [Addr.add_lit, Lib.cell_of_heap hh]
  match i, hx with
  | 0, hx => cases hx; rfl
  | 1, hx => cases hx; rfl
  | 2, hx => cases hx; rfl
  | i + 3, hx => simp at hx
set_option maxRecDepth 100000 in
set_option maxHeartbeats 4000000 in
theorem pcomposes_c (s : ByteArray) (a b : Int) (w : World) (hE : PEnv w ∧ KTabX w) (ha : I32 a) (hb : I32 b) :
    Calls Tryz.prog 4 #[.string s, .int .i32 a, .int .i32 b] w fun e w' => e = .returned (.bool true) ∧ Below w.heap.size w w' := by
  by_cases hbig : 4096 < s.size
  · have h1 : (4096 : Int) < s.size := by omega
    clear hbig hE ha hb
    go_enter Tryz.func4, Tryz.ntmps4
    go_wp2
    go_ret
    exact ⟨rfl, Below.refl _ _⟩
  have CWK : Hid (∀ W, Below w.heap.size w W → Calls Tryz.prog 12 #[] W fun e w' => e = .returned (.bool true) ∧ Below W.heap.size W w') := Lib.hid fun W h => pworks W (hE.1.below h)
  have CY := Lib.hid (yParse s w (by omega) hE.2)
  have CP := Lib.hid (fun W (h : Below w.heap.size w W) => pParse s W (hE.1.below h))
  have HI := Lib.hid (And.intro ha hb)
  have h1 : ¬ (4096 : Int) < s.size := by omega
  have ne1 : ∀ (t : TypeId) (v : Value) (W : World), (binOp .neq 25 (.iface t v) .nilIface).run Tryz.prog W = .ok (.bool true) W := fun t v W => by go_simp
  clear hE ha hb hbig
  go_enter Tryz.func4, Tryz.ntmps4
  go_wp2_with fail
  refine CY.out.mono ?_
  rintro e w1 ⟨no, line, S, L, hP, ⟨rfl, gx, X, cv, kv, fv, dv, B0, ρ, rfl, hPx, hXR, hln, hb1⟩ | ⟨h0, hb1, rfl⟩⟩
  · obtain ⟨w2, hw2⟩ : ∃ W, w1.alloc (.cells #[.int .i64 0, .int .i64 0] 30) = W := ⟨_, rfl⟩
    have hb2 : Below w1.heap.size w1 w2 := by rw [← hw2]; exact (Below.refl _ w1).alloc (Nat.le_refl _) _
    have c0 : w2.cell? ⟨w1.heap.size, 0, none⟩ = some (.int .i64 0) := by rw [← hw2, Lib.cell_of_heap (World.alloc_heap_new _ _)]; rfl
    have HW2 := Lib.hid hw2
    have HB : Hid (Below w.heap.size w w2) := Lib.hid (hb1.trans (hb2.mono hb1.size))
    have HX := Lib.hid (And.intro hP (And.intro (hPx.below hb2) (And.intro hXR hln)))
    have CP2 := Lib.hid (CP.out w2 HB.out)
    clear hP hPx hXR hln hb1 hb2 hw2
    go_wp2_with fail
    rw [HW2.out]
    refine CP2.out.mono ?_
    rintro e w3 ⟨no3, line3, S3, L3, hP3, hb3, h⟩
    obtain ⟨rfl, rfl, hSL⟩ := ParseR.uniq HX.out.1 hP3
    obtain ⟨rfl, rfl⟩ := hSL rfl
    rcases h with ⟨_, g, rfl, hW⟩ | ⟨h0, _⟩
    rotate_left
    · exact absurd rfl h0
    obtain ⟨_, _, hok, hLp, hLm⟩ := hP3.ok
    have c03 := (hb3.cell (lt_of_cell c0)).trans c0
    have hlens := HX.out.2.2.1.lens hok
    have hX := HX.out.2.2.1
    have CM := Lib.hid (pcmpP w3 hW a b HI.out.1 HI.out.2)
    have XM : Hid (∀ W (_ : Below w3.heap.size w3 W), Calls Tryz.prog 15 #[.pointer (some ⟨gx, 0, none⟩), .int .i32 a, .int .i32 b] W fun e w' => e = .returned (.tuple #[.int .i32 ((cmpV (mdOf S L) a b).getD 0), .bool (cmpV (mdOf S L) a b).isSome]) ∧ Below W.heap.size W w') := Lib.hid (fun W h =>
      ycompose X.cs X.dl (mdOf S L) a b W ((HX.out.2.1.below hb3).below h).rp ((HX.out.2.1.below hb3).below h).d.lf HI.out.1 (by have := HX.out.2.2.2.2; omega) ⟨by have := hlens.1.1; omega, by have := hlens.1.2; omega⟩ (fun x hx => (hlens.2 x hx).2.2)
        (fun hc => mdOf_cls S hLp (by rw [← hX.cs, xcls_eq hok] at hc; exact hc)) (fun hc o ho => hX.pair hLp hLm ho (by rw [← hX.cs, xcls_eq hok] at hc; exact hc)))
    have CA : Hid (∀ av l W, Below w3.heap.size w3 W → SlA W av l → (∀ x ∈ l, I32 x) → l.length ≤ 35184372087808 → Calls Tryz.prog 13 #[.pointer (some ⟨g, 0, none⟩), .pointer (some ⟨gx, 0, none⟩), av] W fun e w' => e = .returned (.bool true) ∧ Below W.heap.size W w') := Lib.hid fun av l W h h2 h3 h4 =>
      yasked hX hok (Nat.le_refl _) HX.out.2.2.2 hLp hLm av l W (hW.below h) ((HX.out.2.1.below hb3).below h) h2 h3 h4
    obtain ⟨m, hm⟩ : ∃ m, cmpV (mdOf S L) a b = m := ⟨_, rfl⟩
    have hr32 : I32 (m.getD 0) := by
      cases m with
      | none => exact ⟨by decide, by decide⟩
      | some r => exact cmp_i32 hok hLp hm
    rw [hm] at CM XM
    obtain ⟨zv, hzv⟩ : ∃ z, m.getD 0 = z := ⟨_, rfl⟩
    obtain ⟨zb, hzb⟩ : ∃ z, m.isSome = z := ⟨_, rfl⟩
    rw [hzv, hzb] at CM XM
    rw [hzv] at hr32
    have HZ := Lib.hid hr32
    replace HB := Lib.hid (HB.out.trans (hb3.mono HB.out.size))
    clear hP3 hb3 hW hok hLp hLm c0 hlens hX hm hzv hzb hr32
    go_wp2_with fail
    refine CM.out.mono ?_
    rintro e w4 ⟨rfl, hb4⟩
    have HB4 := Lib.hid hb4
    clear hb4 c03
    go_wp2_with fail
    refine (XM.out w4 HB4.out).mono ?_
    rintro e w5 ⟨rfl, hb5⟩
    replace HB4 := Lib.hid (HB4.out.trans (hb5.mono HB4.out.size))
    clear hb5
    obtain ⟨w6, hw6⟩ : ∃ W, w5.alloc (.cells #[.int .i32 a, .int .i32 b, .int .i32 zv] 21) = W := ⟨_, rfl⟩
    have hb6 : Below w5.heap.size w5 w6 := by rw [← hw6]; exact (Below.refl _ w5).alloc (Nat.le_refl _) _
    have HS := Lib.hid (slA_three w5 a b zv hw6)
    have HW6 := Lib.hid hw6
    replace HB4 := Lib.hid (HB4.out.trans (hb6.mono HB4.out.size))
    clear hw6 hb6
    go_wp2_with fail
    rw [HW6.out]
    refine (CA.out _ _ w6 HB4.out HS.out (fun x hx => ?_) (by simp)).mono ?_
    · simp only [List.mem_cons, List.not_mem_nil, or_false] at hx
      rcases hx with rfl | rfl | rfl
      · exact HI.out.1
      · exact HI.out.2
      · exact HZ.out
    rintro e w7 ⟨rfl, hb7⟩
    replace HB4 := Lib.hid (HB4.out.trans (hb7.mono HB4.out.size))
    replace HB := Lib.hid (HB.out.trans (HB4.out.mono HB.out.size))
    clear hb7
    go_wp2_with fail
    refine (CWK.out w7 HB.out).mono ?_
    rintro e w8 ⟨rfl, hb8⟩
    replace HB := Lib.hid (HB.out.trans (hb8.mono HB.out.size))
    clear hb8
    go_wp2
    go_ret
    exact ⟨rfl, HB.out⟩
  · obtain ⟨w2, hw2⟩ : ∃ W, w1.alloc (.cells #[.int .i64 (no : Nat), .int .i64 (line : Nat)] 30) = W := ⟨_, rfl⟩
    have hb2 : Below w1.heap.size w1 w2 := by rw [← hw2]; exact (Below.refl _ w1).alloc (Nat.le_refl _) _
    have c0 : w2.cell? ⟨w1.heap.size, 0, none⟩ = some (.int .i64 (no : Nat)) := by rw [← hw2, Lib.cell_of_heap (World.alloc_heap_new _ _)]; rfl
    have HW2 := Lib.hid hw2
    have HB : Hid (Below w.heap.size w w2) := Lib.hid (hb1.trans (hb2.mono hb1.size))
    have HX := Lib.hid (And.intro hP h0)
    have CP2 := Lib.hid (CP.out w2 HB.out)
    obtain ⟨N, hN⟩ : ∃ N : Int, ((no : Nat) : Int) = N := ⟨_, rfl⟩
    obtain ⟨K, hK⟩ : ∃ K : Int, ((line : Nat) : Int) = K := ⟨_, rfl⟩
    rw [hN] at c0
    rw [hN, hK] at HW2 ⊢
    have n0 : (N == 0) = false := by rw [beq_eq_false_iff_ne]; omega
    have n1 : (N != 0) = true := by rw [bne, n0]; rfl
    clear hP hb1 hb2 hw2 h0 hN hK
    go_wp2_with fail
    rw [HW2.out]
    refine CP2.out.mono ?_
    rintro e w3 ⟨no3, line3, S3, L3, hP3, hb3, h⟩
    obtain ⟨rfl, rfl, _⟩ := ParseR.uniq HX.out.1 hP3
    rcases h with ⟨h9, _⟩ | ⟨_, rfl⟩
    · exact absurd h9 HX.out.2
    obtain ⟨t, v, hv⟩ := errP_iface2 no line
    rw [hv]
    have c03 := (hb3.cell (lt_of_cell c0)).trans c0
    replace HB := Lib.hid (HB.out.trans (hb3.mono HB.out.size))
    clear hP3 hb3 c0 hv
    go_wp2_with fail
    refine (CWK.out w3 HB.out).mono ?_
    rintro e w5 ⟨rfl, hb5⟩
    replace HB := Lib.hid (HB.out.trans (hb5.mono HB.out.size))
    clear hb5 c03
    go_wp2
    go_ret
    exact ⟨rfl, HB.out⟩
end Go.Proofs.YtfpfpaaojdodnaaGreatDoor
