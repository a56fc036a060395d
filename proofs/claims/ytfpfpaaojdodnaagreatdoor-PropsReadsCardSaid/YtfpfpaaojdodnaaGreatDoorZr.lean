/- props' laws: PropsReads and PropsComposes: the walks. -/
import Derived.Test.YtfpfpaaojdodnaaGreatDoorZp
import Derived.Test.YtfpfpaaojdodnaaGreatDoorZn
namespace Go.Proofs.YtfpfpaaojdodnaaGreatDoor
open Go Go.RowKit Go.Kt Go.Kt.Rg Go.Maps

set_option maxRecDepth 100000 in
set_option maxHeartbeats 4000000 in
theorem preads_c (s : ByteArray) (av : Value) (ask : List Int) (w : World) (hE : (PEnv w ∧ KTabX w) ∧ ErrT w) (hv : SlA w av ask) (hr : ∀ x ∈ ask, I32 x) (hl : ask.length ≤ 35184372087808) :
    Calls Tryz.prog 3 #[.string s, av] w fun e w' => e = .returned (.bool true) ∧ Below w.heap.size w w' := by
  have hlt : 1 < w.heap.size := lt_of_cell hE.2
  by_cases hbig : 4096 < s.size
  · have h1 : (4096 : Int) < s.size := by omega
    obtain ⟨ao, cap, rfl, hv2⟩ := hv
    clear hbig hE hr hl hv2
    go_enter Tryz.func3, Tryz.ntmps3
    go_wp2
    go_ret
    exact ⟨rfl, Below.refl _ _⟩
  have hsz : s.data.toList.length ≤ 65536 := by have := Lib.size_eq s; omega
  have CWK : Hid (∀ W, Below w.heap.size w W → Calls Tryz.prog 12 #[] W fun e w' => e = .returned (.bool true) ∧ Below W.heap.size W w') := Lib.hid fun W h => pworks W (hE.1.1.below h)
  have CP := Lib.hid (pParse s w hE.1.1)
  have CY := Lib.hid (fun W (h : Below w.heap.size w W) => yParse s W (by omega) (hE.1.2.below h))
  have HER := Lib.hid (fun W (h : Below w.heap.size w W) => hE.2.below hlt h)
  have HV := Lib.hid (And.intro hv (And.intro hr (And.intro hl hsz)))
  have HLT := Lib.hid hlt
  have h1 : ¬ (4096 : Int) < s.size := by omega
  obtain ⟨ao, cap, rfl, hv2⟩ := hv
  clear hE hr hl hv2 hsz hbig hlt
  obtain ⟨n, hn⟩ : ∃ n, ask.length = n := ⟨_, rfl⟩
  rw [hn] at HV ⊢
  have HN := Lib.hid hn
  clear hn
  go_enter Tryz.func3, Tryz.ntmps3
  go_wp2_with fail
  refine CP.out.mono ?_
  rintro e w1 ⟨no, line, S, L, hP, hb1, ⟨rfl, g, rfl, hW⟩ | ⟨h0, rfl⟩⟩
  · have CY1 := Lib.hid (CY.out w1 hb1)
    have HH := Lib.hid (And.intro hP (And.intro hb1 hW))
    clear hP hb1 hW
    go_wp2_with fail
    refine CY1.out.mono ?_
    rintro e w2 ⟨no2, line2, S2, L2, hP2, h⟩
    obtain ⟨rfl, rfl, hSL⟩ := ParseR.uniq HH.out.1 hP2
    obtain ⟨rfl, rfl⟩ := hSL rfl
    rcases h with ⟨_, gx, X, cv, kv, fv, dv, B0, ρ, rfl, hPx, hXR, hln, hb2⟩ | ⟨h0, _⟩
    rotate_left
    · exact absurd rfl h0
    obtain ⟨w3, hw3⟩ : ∃ W, w2.alloc (.cells #[.int .i64 0, .int .i64 0] 30) = W := ⟨_, rfl⟩
    have hb3 : Below w2.heap.size w2 w3 := by rw [← hw3]; exact (Below.refl _ w2).alloc (Nat.le_refl _) _
    have c0 : w3.cell? ⟨w2.heap.size, 0, none⟩ = some (.int .i64 0) := by rw [← hw3, Lib.cell_of_heap (World.alloc_heap_new _ _)]; rfl
    have HW3 := Lib.hid hw3
    have HB : Hid (Below w.heap.size w w3) := Lib.hid ((HH.out.2.1.trans (hb2.mono HH.out.2.1.size)).trans (hb3.mono (HH.out.2.1.trans (hb2.mono HH.out.2.1.size)).size))
    obtain ⟨_, _, hok, hLp, hLm⟩ := HH.out.1.ok
    have CA : Hid (∀ W, Below w3.heap.size w3 W → Calls Tryz.prog 13 #[.pointer (some ⟨g, 0, none⟩), .pointer (some ⟨gx, 0, none⟩), .slice ao n cap] W fun e w' => e = .returned (.bool true) ∧ Below W.heap.size W w') := Lib.hid fun W h =>
      yasked hXR hok (Nat.le_refl _) hln hLp hLm _ ask W ((HH.out.2.2.below hb2).below (hb3.trans (h.mono hb3.size))) (hPx.below (hb3.trans (h.mono hb3.size))) (HV.out.1.below (HB.out.trans (h.mono HB.out.size))) HV.out.2.1 (by rw [HN.out]; exact HV.out.2.2.1)
    have CT := Lib.hid (told_okX w3)
    clear hP2 hPx hXR hln hb2 hok hLp hLm hw3 hb3
    go_wp2_with fail
    rw [HW3.out]
    refine CT.out.mono ?_
    rintro e w4 ⟨rfl, hb4⟩
    have c04 := (hb4.cell (lt_of_cell c0)).trans c0
    have HB4 := Lib.hid hb4
    clear hb4 c0
    go_wp2_with fail
    refine (CWK.out w4 (HB.out.trans (HB4.out.mono HB.out.size))).mono ?_
    rintro e w5 ⟨rfl, hb5⟩
    have c05 := (hb5.cell (lt_of_cell c04)).trans c04
    replace HB4 := Lib.hid (HB4.out.trans (hb5.mono HB4.out.size))
    clear hb5 c04
    go_wp2_with fail
    refine (CA.out w5 HB4.out).mono ?_
    rintro e w6 ⟨rfl, hb6⟩
    replace HB4 := Lib.hid (HB4.out.trans (hb6.mono HB4.out.size))
    clear hb6 c05
    go_wp2_with fail
    refine (CA.out w6 HB4.out).mono ?_
    rintro e w7 ⟨rfl, hb7⟩
    replace HB4 := Lib.hid (HB.out.trans ((HB4.out.trans (hb7.mono HB4.out.size)).mono HB.out.size))
    clear hb7
    go_wp2
    go_ret
    exact ⟨rfl, HB4.out⟩
  · have CY1 := Lib.hid (CY.out w1 hb1)
    have HH := Lib.hid (And.intro hP (And.intro hb1 h0))
    obtain ⟨ev, hev⟩ : ∃ ev, errP no line = ev := ⟨_, rfl⟩
    rw [hev]
    have HEV := Lib.hid hev
    clear hP hb1 hev
    go_wp2_with fail
    refine CY1.out.mono ?_
    rintro e w2 ⟨no2, line2, S2, L2, hP2, h⟩
    obtain ⟨rfl, rfl, _⟩ := ParseR.uniq HH.out.1 hP2
    rcases h with ⟨h9, _⟩ | ⟨_, hb2, rfl⟩
    · exact absurd h9 h0
    obtain ⟨q1, q2, q3⟩ := ParseR.rng HH.out.1 HV.out.2.2.2 h0
    obtain ⟨w3, hw3⟩ : ∃ W, w2.alloc (.cells #[.int .i64 (no : Nat), .int .i64 (line : Nat)] 30) = W := ⟨_, rfl⟩
    have hb3 : Below w2.heap.size w2 w3 := by rw [← hw3]; exact (Below.refl _ w2).alloc (Nat.le_refl _) _
    have c0 : w3.cell? ⟨w2.heap.size, 0, none⟩ = some (.int .i64 (no : Nat)) := by rw [← hw3, Lib.cell_of_heap (World.alloc_heap_new _ _)]; rfl
    have HW3 := Lib.hid hw3
    have HB : Hid (Below w.heap.size w w3) := Lib.hid ((HH.out.2.1.trans (hb2.mono HH.out.2.1.size)).trans (hb3.mono (HH.out.2.1.trans (hb2.mono HH.out.2.1.size)).size))
    have CT := Lib.hid (told_faultX no line w3 q1 q2 q3 (HER.out w3 HB.out) (Nat.lt_of_lt_of_le HLT.out HB.out.size))
    rw [HEV.out] at CT
    obtain ⟨N, hN⟩ : ∃ N : Int, ((no : Nat) : Int) = N := ⟨_, rfl⟩
    obtain ⟨K, hK⟩ : ∃ K : Int, ((line : Nat) : Int) = K := ⟨_, rfl⟩
    rw [hN] at c0
    rw [hN, hK] at HW3 CT ⊢
    have n0 : (N == 0) = false := by rw [beq_eq_false_iff_ne]; omega
    have n1 : (N != 0) = true := by rw [bne, n0]; rfl
    clear hP2 hb2 hw3 hb3 h0 q1 q2 q3 hN hK
    go_wp2_with fail
    rw [HW3.out]
    refine CT.out.mono ?_
    rintro e w4 ⟨rfl, hb4⟩
    have c04 := (hb4.cell (lt_of_cell c0)).trans c0
    replace HB := Lib.hid (HB.out.trans (hb4.mono HB.out.size))
    clear hb4 c0
    go_wp2_with fail
    refine (CWK.out w4 HB.out).mono ?_
    rintro e w5 ⟨rfl, hb5⟩
    have c05 := (hb5.cell (lt_of_cell c04)).trans c04
    replace HB := Lib.hid (HB.out.trans (hb5.mono HB.out.size))
    clear hb5 c04
    go_wp2
    go_ret
    exact ⟨rfl, HB.out⟩
end Go.Proofs.YtfpfpaaojdodnaaGreatDoor
