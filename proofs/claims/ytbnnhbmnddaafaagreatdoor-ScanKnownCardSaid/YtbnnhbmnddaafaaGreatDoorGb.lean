/- ScanKnown's shown: the examples of the chapter (written by gen_gb.py). -/
import Derived.Test.YtbnnhbmnddaafaaGreatDoorGa
import Derived.Test.YtbnnhbmnddaafaaGreatDoorTu
namespace Go.Proofs.YtbnnhbmnddaafaaGreatDoor
open Go Go.RowKit Go.Kt Go.Shelf Go.Lib
attribute [local go_sem] Oper.semAt_some

set_option maxRecDepth 100000 in
set_option maxHeartbeats 8000000 in
theorem kshown_any (V0 : World) (hE : KEnv V0) : Calls Tryz.prog 4 #[] V0 fun e w' => e = .returned (.bool true) ∧ Below V0.heap.size V0 w' := by
  have HE := Lib.hid hE
  have HB0 : Hid (Below V0.heap.size V0 V0) := Lib.hid (Below.refl _ _)
  clear hE
  go_enter Tryz.func4, Tryz.ntmps4
  have C := Lib.hid (scan_any ⟨#[38, 32, 97, 32, 60, 60, 60, 32, 39, 98, 32, 99, 39, 32, 47, 32, 99, 104, 32, 35, 32, 120]⟩ V0 (HE.out.below HB0.out).1 (by decide))
  rw [scanShown0] at C
  go_wp2_with fail
  refine C.out.mono ?_
  rintro e V1 ⟨⟨g0, cp0, rfl, ho⟩, hb⟩
  have HB1 := Lib.hid (HB0.out.trans (hb.mono HB0.out.size))
  have HO0 := Lib.hid ho
  clear ho hb C
  have C := Lib.hid (scan_any ⟨#[38, 91, 98, 101, 102, 111, 114, 101, 32, 32, 49, 93, 97, 60, 42, 98, 45, 100, 61, 120]⟩ V1 (HE.out.below HB1.out).1 (by decide))
  rw [scanShown1] at C
  go_wp2_with fail
  refine C.out.mono ?_
  rintro e V2 ⟨⟨g1, cp1, rfl, ho⟩, hb⟩
  have HO0 := Lib.hid (kown_nx HO0.out hb)
  have HB2 := Lib.hid (HB1.out.trans (hb.mono HB1.out.size))
  have HO1 := Lib.hid ho
  clear ho hb C
  have q0_0_0 : V2.cell? ⟨g0, 0, none⟩ = some (.int .i64 2) := ownS_at HO0.out (i := 0) rfl
  have q0_0_1 : V2.cell? ⟨g0, 1, none⟩ = some (.string ⟨#[38]⟩) := ownS_at HO0.out (i := 1) rfl
  have q0_0_2 : V2.cell? ⟨g0, 2, none⟩ = some (.int .i64 1) := ownS_at HO0.out (i := 2) rfl
  have q0_0_3 : V2.cell? ⟨g0, 3, none⟩ = some (.int .i64 1) := ownS_at HO0.out (i := 3) rfl
  have q0_0_4 : V2.cell? ⟨g0, 4, none⟩ = some (.int .i64 0) := ownS_at HO0.out (i := 4) rfl
  have C := Lib.hid (tok_yes 2 1 1 0 ⟨#[38]⟩ V2)
  go_wp2_with fail
  refine C.out.mono ?_
  rintro e V3 ⟨rfl, hb⟩
  have HO0 := Lib.hid (kown_nx HO0.out hb)
  have HO1 := Lib.hid (kown_nx HO1.out hb)
  have HB3 := Lib.hid (HB2.out.trans (hb.mono HB2.out.size))
  clear hb C q0_0_0 q0_0_1 q0_0_2 q0_0_3 q0_0_4
  have q0_1_0 : V3.cell? ⟨g0, 5, none⟩ = some (.int .i64 1) := ownS_at HO0.out (i := 5) rfl
  have q0_1_1 : V3.cell? ⟨g0, 6, none⟩ = some (.string ⟨#[97]⟩) := ownS_at HO0.out (i := 6) rfl
  have q0_1_2 : V3.cell? ⟨g0, 7, none⟩ = some (.int .i64 1) := ownS_at HO0.out (i := 7) rfl
  have q0_1_3 : V3.cell? ⟨g0, 8, none⟩ = some (.int .i64 3) := ownS_at HO0.out (i := 8) rfl
  have q0_1_4 : V3.cell? ⟨g0, 9, none⟩ = some (.int .i64 2) := ownS_at HO0.out (i := 9) rfl
  have C := Lib.hid (tok_yes 1 1 3 2 ⟨#[97]⟩ V3)
  go_wp2_with fail
  refine C.out.mono ?_
  rintro e V4 ⟨rfl, hb⟩
  have HO0 := Lib.hid (kown_nx HO0.out hb)
  have HO1 := Lib.hid (kown_nx HO1.out hb)
  have HB4 := Lib.hid (HB3.out.trans (hb.mono HB3.out.size))
  clear hb C q0_1_0 q0_1_1 q0_1_2 q0_1_3 q0_1_4
  have q0_2_0 : V4.cell? ⟨g0, 10, none⟩ = some (.int .i64 2) := ownS_at HO0.out (i := 10) rfl
  have q0_2_1 : V4.cell? ⟨g0, 11, none⟩ = some (.string ⟨#[60, 60, 60]⟩) := ownS_at HO0.out (i := 11) rfl
  have q0_2_2 : V4.cell? ⟨g0, 12, none⟩ = some (.int .i64 1) := ownS_at HO0.out (i := 12) rfl
  have q0_2_3 : V4.cell? ⟨g0, 13, none⟩ = some (.int .i64 5) := ownS_at HO0.out (i := 13) rfl
  have q0_2_4 : V4.cell? ⟨g0, 14, none⟩ = some (.int .i64 4) := ownS_at HO0.out (i := 14) rfl
  have C := Lib.hid (tok_yes 2 1 5 4 ⟨#[60, 60, 60]⟩ V4)
  go_wp2_with fail
  refine C.out.mono ?_
  rintro e V5 ⟨rfl, hb⟩
  have HO0 := Lib.hid (kown_nx HO0.out hb)
  have HO1 := Lib.hid (kown_nx HO1.out hb)
  have HB5 := Lib.hid (HB4.out.trans (hb.mono HB4.out.size))
  clear hb C q0_2_0 q0_2_1 q0_2_2 q0_2_3 q0_2_4
  have q0_3_0 : V5.cell? ⟨g0, 15, none⟩ = some (.int .i64 1) := ownS_at HO0.out (i := 15) rfl
  have q0_3_1 : V5.cell? ⟨g0, 16, none⟩ = some (.string ⟨#[98, 32, 99]⟩) := ownS_at HO0.out (i := 16) rfl
  have q0_3_2 : V5.cell? ⟨g0, 17, none⟩ = some (.int .i64 1) := ownS_at HO0.out (i := 17) rfl
  have q0_3_3 : V5.cell? ⟨g0, 18, none⟩ = some (.int .i64 9) := ownS_at HO0.out (i := 18) rfl
  have q0_3_4 : V5.cell? ⟨g0, 19, none⟩ = some (.int .i64 8) := ownS_at HO0.out (i := 19) rfl
  have C := Lib.hid (tok_yes 1 1 9 8 ⟨#[98, 32, 99]⟩ V5)
  go_wp2_with fail
  refine C.out.mono ?_
  rintro e V6 ⟨rfl, hb⟩
  have HO0 := Lib.hid (kown_nx HO0.out hb)
  have HO1 := Lib.hid (kown_nx HO1.out hb)
  have HB6 := Lib.hid (HB5.out.trans (hb.mono HB5.out.size))
  clear hb C q0_3_0 q0_3_1 q0_3_2 q0_3_3 q0_3_4
  have q0_4_0 : V6.cell? ⟨g0, 20, none⟩ = some (.int .i64 2) := ownS_at HO0.out (i := 20) rfl
  have q0_4_1 : V6.cell? ⟨g0, 21, none⟩ = some (.string ⟨#[47]⟩) := ownS_at HO0.out (i := 21) rfl
  have q0_4_2 : V6.cell? ⟨g0, 22, none⟩ = some (.int .i64 1) := ownS_at HO0.out (i := 22) rfl
  have q0_4_3 : V6.cell? ⟨g0, 23, none⟩ = some (.int .i64 15) := ownS_at HO0.out (i := 23) rfl
  have q0_4_4 : V6.cell? ⟨g0, 24, none⟩ = some (.int .i64 14) := ownS_at HO0.out (i := 24) rfl
  have C := Lib.hid (tok_yes 2 1 15 14 ⟨#[47]⟩ V6)
  go_wp2_with fail
  refine C.out.mono ?_
  rintro e V7 ⟨rfl, hb⟩
  have HO0 := Lib.hid (kown_nx HO0.out hb)
  have HO1 := Lib.hid (kown_nx HO1.out hb)
  have HB7 := Lib.hid (HB6.out.trans (hb.mono HB6.out.size))
  clear hb C q0_4_0 q0_4_1 q0_4_2 q0_4_3 q0_4_4
  have q0_5_0 : V7.cell? ⟨g0, 25, none⟩ = some (.int .i64 1) := ownS_at HO0.out (i := 25) rfl
  have q0_5_1 : V7.cell? ⟨g0, 26, none⟩ = some (.string ⟨#[99, 104]⟩) := ownS_at HO0.out (i := 26) rfl
  have q0_5_2 : V7.cell? ⟨g0, 27, none⟩ = some (.int .i64 1) := ownS_at HO0.out (i := 27) rfl
  have q0_5_3 : V7.cell? ⟨g0, 28, none⟩ = some (.int .i64 17) := ownS_at HO0.out (i := 28) rfl
  have q0_5_4 : V7.cell? ⟨g0, 29, none⟩ = some (.int .i64 16) := ownS_at HO0.out (i := 29) rfl
  have C := Lib.hid (tok_yes 1 1 17 16 ⟨#[99, 104]⟩ V7)
  go_wp2_with fail
  refine C.out.mono ?_
  rintro e V8 ⟨rfl, hb⟩
  have HO0 := Lib.hid (kown_nx HO0.out hb)
  have HO1 := Lib.hid (kown_nx HO1.out hb)
  have HB8 := Lib.hid (HB7.out.trans (hb.mono HB7.out.size))
  clear hb C q0_5_0 q0_5_1 q0_5_2 q0_5_3 q0_5_4
  have q0_6_0 : V8.cell? ⟨g0, 30, none⟩ = some (.int .i64 0) := ownS_at HO0.out (i := 30) rfl
  have q0_6_1 : V8.cell? ⟨g0, 31, none⟩ = some (.string ⟨#[]⟩) := ownS_at HO0.out (i := 31) rfl
  have q0_6_2 : V8.cell? ⟨g0, 32, none⟩ = some (.int .i64 1) := ownS_at HO0.out (i := 32) rfl
  have q0_6_3 : V8.cell? ⟨g0, 33, none⟩ = some (.int .i64 23) := ownS_at HO0.out (i := 33) rfl
  have q0_6_4 : V8.cell? ⟨g0, 34, none⟩ = some (.int .i64 22) := ownS_at HO0.out (i := 34) rfl
  have C := Lib.hid (tok_yes 0 1 23 22 ⟨#[]⟩ V8)
  go_wp2_with fail
  refine C.out.mono ?_
  rintro e V9 ⟨rfl, hb⟩
  have HO0 := Lib.hid (kown_nx HO0.out hb)
  have HO1 := Lib.hid (kown_nx HO1.out hb)
  have HB9 := Lib.hid (HB8.out.trans (hb.mono HB8.out.size))
  clear hb C q0_6_0 q0_6_1 q0_6_2 q0_6_3 q0_6_4
  have q1_1_0 : V9.cell? ⟨g1, 5, none⟩ = some (.int .i64 3) := ownS_at HO1.out (i := 5) rfl
  have q1_1_1 : V9.cell? ⟨g1, 6, none⟩ = some (.string ⟨#[98, 101, 102, 111, 114, 101, 32, 49]⟩) := ownS_at HO1.out (i := 6) rfl
  have q1_1_2 : V9.cell? ⟨g1, 7, none⟩ = some (.int .i64 1) := ownS_at HO1.out (i := 7) rfl
  have q1_1_3 : V9.cell? ⟨g1, 8, none⟩ = some (.int .i64 2) := ownS_at HO1.out (i := 8) rfl
  have q1_1_4 : V9.cell? ⟨g1, 9, none⟩ = some (.int .i64 1) := ownS_at HO1.out (i := 9) rfl
  have C := Lib.hid (tok_yes 3 1 2 1 ⟨#[98, 101, 102, 111, 114, 101, 32, 49]⟩ V9)
  go_wp2_with fail
  refine C.out.mono ?_
  rintro e V10 ⟨rfl, hb⟩
  have HO1 := Lib.hid (kown_nx HO1.out hb)
  have HB10 := Lib.hid (HB9.out.trans (hb.mono HB9.out.size))
  clear hb C q1_1_0 q1_1_1 q1_1_2 q1_1_3 q1_1_4
  have q1_3_0 : V10.cell? ⟨g1, 15, none⟩ = some (.int .i64 2) := ownS_at HO1.out (i := 15) rfl
  have q1_3_1 : V10.cell? ⟨g1, 16, none⟩ = some (.string ⟨#[60, 42]⟩) := ownS_at HO1.out (i := 16) rfl
  have q1_3_2 : V10.cell? ⟨g1, 17, none⟩ = some (.int .i64 1) := ownS_at HO1.out (i := 17) rfl
  have q1_3_3 : V10.cell? ⟨g1, 18, none⟩ = some (.int .i64 14) := ownS_at HO1.out (i := 18) rfl
  have q1_3_4 : V10.cell? ⟨g1, 19, none⟩ = some (.int .i64 13) := ownS_at HO1.out (i := 19) rfl
  have C := Lib.hid (tok_yes 2 1 14 13 ⟨#[60, 42]⟩ V10)
  go_wp2_with fail
  refine C.out.mono ?_
  rintro e V11 ⟨rfl, hb⟩
  have HO1 := Lib.hid (kown_nx HO1.out hb)
  have HB11 := Lib.hid (HB10.out.trans (hb.mono HB10.out.size))
  clear hb C q1_3_0 q1_3_1 q1_3_2 q1_3_3 q1_3_4
  have q1_5_0 : V11.cell? ⟨g1, 25, none⟩ = some (.int .i64 2) := ownS_at HO1.out (i := 25) rfl
  have q1_5_1 : V11.cell? ⟨g1, 26, none⟩ = some (.string ⟨#[45]⟩) := ownS_at HO1.out (i := 26) rfl
  have q1_5_2 : V11.cell? ⟨g1, 27, none⟩ = some (.int .i64 1) := ownS_at HO1.out (i := 27) rfl
  have q1_5_3 : V11.cell? ⟨g1, 28, none⟩ = some (.int .i64 17) := ownS_at HO1.out (i := 28) rfl
  have q1_5_4 : V11.cell? ⟨g1, 29, none⟩ = some (.int .i64 16) := ownS_at HO1.out (i := 29) rfl
  have C := Lib.hid (tok_yes 2 1 17 16 ⟨#[45]⟩ V11)
  go_wp2_with fail
  refine C.out.mono ?_
  rintro e V12 ⟨rfl, hb⟩
  have HO1 := Lib.hid (kown_nx HO1.out hb)
  have HB12 := Lib.hid (HB11.out.trans (hb.mono HB11.out.size))
  clear hb C q1_5_0 q1_5_1 q1_5_2 q1_5_3 q1_5_4
  have q1_9_0 : V12.cell? ⟨g1, 45, none⟩ = some (.int .i64 0) := ownS_at HO1.out (i := 45) rfl
  have C := Lib.hid (scan_any ⟨#[60, 60, 60, 60]⟩ V12 (HE.out.below HB12.out).1 (by decide))
  rw [scanShown2] at C
  go_wp2_with fail
  refine C.out.mono ?_
  rintro e V13 ⟨⟨g2, cp2, rfl, ho⟩, hb⟩
  have HO1 := Lib.hid (kown_nx HO1.out hb)
  have HB13 := Lib.hid (HB12.out.trans (hb.mono HB12.out.size))
  have HO2 := Lib.hid ho
  clear ho hb C
  clear q1_9_0
  have C := Lib.hid (scan_any ⟨#[60, 60, 60, 42]⟩ V13 (HE.out.below HB13.out).1 (by decide))
  rw [scanShown3] at C
  go_wp2_with fail
  refine C.out.mono ?_
  rintro e V14 ⟨⟨g3, cp3, rfl, ho⟩, hb⟩
  have HO2 := Lib.hid (kown_nx HO2.out hb)
  have HB14 := Lib.hid (HB13.out.trans (hb.mono HB13.out.size))
  have HO3 := Lib.hid ho
  clear ho hb C
  have q2_0_1 : V14.cell? ⟨g2, 1, none⟩ = some (.string ⟨#[60, 60, 60]⟩) := ownS_at HO2.out (i := 1) rfl
  have q2_1_1 : V14.cell? ⟨g2, 6, none⟩ = some (.string ⟨#[60]⟩) := ownS_at HO2.out (i := 6) rfl
  have q3_0_1 : V14.cell? ⟨g3, 1, none⟩ = some (.string ⟨#[60, 60, 60, 42]⟩) := ownS_at HO3.out (i := 1) rfl
  have C := Lib.hid (scan_any ⟨#[39, 105, 116, 39, 39, 115, 39, 92, 117, 123, 101, 52, 125, 92, 120, 56, 48, 92, 45]⟩ V14 (HE.out.below HB14.out).1 (by decide))
  rw [scanShown4] at C
  go_wp2_with fail
  refine C.out.mono ?_
  rintro e V15 ⟨⟨g4, cp4, rfl, ho⟩, hb⟩
  have HO2 := Lib.hid (kown_nx HO2.out hb)
  have HO3 := Lib.hid (kown_nx HO3.out hb)
  have HB15 := Lib.hid (HB14.out.trans (hb.mono HB14.out.size))
  have HO4 := Lib.hid ho
  clear ho hb C
  clear q2_0_1 q2_1_1 q3_0_1
  have C := Lib.hid (scan_any ⟨#[39, 39]⟩ V15 (HE.out.below HB15.out).1 (by decide))
  rw [scanShown5] at C
  go_wp2_with fail
  refine C.out.mono ?_
  rintro e V16 ⟨⟨g5, cp5, rfl, ho⟩, hb⟩
  have HO4 := Lib.hid (kown_nx HO4.out hb)
  have HB16 := Lib.hid (HB15.out.trans (hb.mono HB15.out.size))
  have HO5 := Lib.hid ho
  clear ho hb C
  have q4_0_1 : V16.cell? ⟨g4, 1, none⟩ = some (.string ⟨#[105, 116, 39, 115, 195, 164, 128, 45]⟩) := ownS_at HO4.out (i := 1) rfl
  have q5_0_0 : V16.cell? ⟨g5, 0, none⟩ = some (.int .i64 1) := ownS_at HO5.out (i := 0) rfl
  have q5_0_1 : V16.cell? ⟨g5, 1, none⟩ = some (.string ⟨#[]⟩) := ownS_at HO5.out (i := 1) rfl
  have C := Lib.hid (scan_any ⟨#[]⟩ V16 (HE.out.below HB16.out).1 (by decide))
  rw [scanShown6] at C
  go_wp2_with fail
  refine C.out.mono ?_
  rintro e V17 ⟨⟨g6, cp6, rfl, ho⟩, hb⟩
  have HO4 := Lib.hid (kown_nx HO4.out hb)
  have HO5 := Lib.hid (kown_nx HO5.out hb)
  have HB17 := Lib.hid (HB16.out.trans (hb.mono HB16.out.size))
  have HO6 := Lib.hid ho
  clear ho hb C
  clear q4_0_1 q5_0_0 q5_0_1
  have C := Lib.hid (scan_any ⟨#[35]⟩ V17 (HE.out.below HB17.out).1 (by decide))
  rw [scanShown7] at C
  go_wp2_with fail
  refine C.out.mono ?_
  rintro e V18 ⟨⟨g7, cp7, rfl, ho⟩, hb⟩
  have HO6 := Lib.hid (kown_nx HO6.out hb)
  have HB18 := Lib.hid (HB17.out.trans (hb.mono HB17.out.size))
  have HO7 := Lib.hid ho
  clear ho hb C
  have C := Lib.hid (scan_any ⟨#[10]⟩ V18 (HE.out.below HB18.out).1 (by decide))
  rw [scanShown8] at C
  go_wp2_with fail
  refine C.out.mono ?_
  rintro e V19 ⟨⟨g8, cp8, rfl, ho⟩, hb⟩
  have HO6 := Lib.hid (kown_nx HO6.out hb)
  have HO7 := Lib.hid (kown_nx HO7.out hb)
  have HB19 := Lib.hid (HB18.out.trans (hb.mono HB18.out.size))
  have HO8 := Lib.hid ho
  clear ho hb C
  have q6_0_0 : V19.cell? ⟨g6, 0, none⟩ = some (.int .i64 0) := ownS_at HO6.out (i := 0) rfl
  have q6_0_1 : V19.cell? ⟨g6, 1, none⟩ = some (.string ⟨#[]⟩) := ownS_at HO6.out (i := 1) rfl
  have q6_0_2 : V19.cell? ⟨g6, 2, none⟩ = some (.int .i64 1) := ownS_at HO6.out (i := 2) rfl
  have q6_0_3 : V19.cell? ⟨g6, 3, none⟩ = some (.int .i64 1) := ownS_at HO6.out (i := 3) rfl
  have q6_0_4 : V19.cell? ⟨g6, 4, none⟩ = some (.int .i64 0) := ownS_at HO6.out (i := 4) rfl
  have C := Lib.hid (tok_yes 0 1 1 0 ⟨#[]⟩ V19)
  go_wp2_with fail
  refine C.out.mono ?_
  rintro e V20 ⟨rfl, hb⟩
  have HO6 := Lib.hid (kown_nx HO6.out hb)
  have HO7 := Lib.hid (kown_nx HO7.out hb)
  have HO8 := Lib.hid (kown_nx HO8.out hb)
  have HB20 := Lib.hid (HB19.out.trans (hb.mono HB19.out.size))
  clear hb C q6_0_0 q6_0_1 q6_0_2 q6_0_3 q6_0_4
  have q7_0_0 : V20.cell? ⟨g7, 0, none⟩ = some (.int .i64 0) := ownS_at HO7.out (i := 0) rfl
  have q7_0_1 : V20.cell? ⟨g7, 1, none⟩ = some (.string ⟨#[]⟩) := ownS_at HO7.out (i := 1) rfl
  have q7_0_2 : V20.cell? ⟨g7, 2, none⟩ = some (.int .i64 1) := ownS_at HO7.out (i := 2) rfl
  have q7_0_3 : V20.cell? ⟨g7, 3, none⟩ = some (.int .i64 2) := ownS_at HO7.out (i := 3) rfl
  have q7_0_4 : V20.cell? ⟨g7, 4, none⟩ = some (.int .i64 1) := ownS_at HO7.out (i := 4) rfl
  have C := Lib.hid (tok_yes 0 1 2 1 ⟨#[]⟩ V20)
  go_wp2_with fail
  refine C.out.mono ?_
  rintro e V21 ⟨rfl, hb⟩
  have HO6 := Lib.hid (kown_nx HO6.out hb)
  have HO7 := Lib.hid (kown_nx HO7.out hb)
  have HO8 := Lib.hid (kown_nx HO8.out hb)
  have HB21 := Lib.hid (HB20.out.trans (hb.mono HB20.out.size))
  clear hb C q7_0_0 q7_0_1 q7_0_2 q7_0_3 q7_0_4
  have q8_0_0 : V21.cell? ⟨g8, 0, none⟩ = some (.int .i64 0) := ownS_at HO8.out (i := 0) rfl
  have q8_0_1 : V21.cell? ⟨g8, 1, none⟩ = some (.string ⟨#[]⟩) := ownS_at HO8.out (i := 1) rfl
  have q8_0_2 : V21.cell? ⟨g8, 2, none⟩ = some (.int .i64 2) := ownS_at HO8.out (i := 2) rfl
  have q8_0_3 : V21.cell? ⟨g8, 3, none⟩ = some (.int .i64 1) := ownS_at HO8.out (i := 3) rfl
  have q8_0_4 : V21.cell? ⟨g8, 4, none⟩ = some (.int .i64 1) := ownS_at HO8.out (i := 4) rfl
  have C := Lib.hid (tok_yes 0 2 1 1 ⟨#[]⟩ V21)
  go_wp2_with fail
  refine C.out.mono ?_
  rintro e V22 ⟨rfl, hb⟩
  have HO6 := Lib.hid (kown_nx HO6.out hb)
  have HO7 := Lib.hid (kown_nx HO7.out hb)
  have HO8 := Lib.hid (kown_nx HO8.out hb)
  have HB22 := Lib.hid (HB21.out.trans (hb.mono HB21.out.size))
  clear hb C q8_0_0 q8_0_1 q8_0_2 q8_0_3 q8_0_4
  have C : Hid (Calls Tryz.prog 9 #[.string ⟨#[97, 45, 98]⟩] V22 fun e w' => e = .returned (.string ⟨#[97, 92, 45, 98]⟩) ∧ Below V22.heap.size V22 w') := Lib.hid (by
    have h := quote_any ⟨#[97, 45, 98]⟩ V22 (HE.out.below HB22.out).1 (HE.out.below HB22.out).2.1 (HE.out.below HB22.out).2.2 (by decide)
    rw [quoShown0] at h
    exact h)
  go_wp2_with fail
  refine C.out.mono ?_
  rintro e V23 ⟨rfl, hb⟩
  have HB23 := Lib.hid (HB22.out.trans (hb.mono HB22.out.size))
  clear hb C
  have C : Hid (Calls Tryz.prog 9 #[.string ⟨#[32]⟩] V23 fun e w' => e = .returned (.string ⟨#[92, 117, 123, 50, 48, 125]⟩) ∧ Below V23.heap.size V23 w') := Lib.hid (by
    have h := quote_any ⟨#[32]⟩ V23 (HE.out.below HB23.out).1 (HE.out.below HB23.out).2.1 (HE.out.below HB23.out).2.2 (by decide)
    rw [quoShown1] at h
    exact h)
  go_wp2_with fail
  refine C.out.mono ?_
  rintro e V24 ⟨rfl, hb⟩
  have HB24 := Lib.hid (HB23.out.trans (hb.mono HB23.out.size))
  clear hb C
  have C : Hid (Calls Tryz.prog 9 #[.string ⟨#[195, 169]⟩] V24 fun e w' => e = .returned (.string ⟨#[195, 169]⟩) ∧ Below V24.heap.size V24 w') := Lib.hid (by
    have h := quote_any ⟨#[195, 169]⟩ V24 (HE.out.below HB24.out).1 (HE.out.below HB24.out).2.1 (HE.out.below HB24.out).2.2 (by decide)
    rw [quoShown2] at h
    exact h)
  go_wp2_with fail
  refine C.out.mono ?_
  rintro e V25 ⟨rfl, hb⟩
  have HB25 := Lib.hid (HB24.out.trans (hb.mono HB24.out.size))
  clear hb C
  have C : Hid (Calls Tryz.prog 9 #[.string ⟨#[255]⟩] V25 fun e w' => e = .returned (.string ⟨#[92, 120, 102, 102]⟩) ∧ Below V25.heap.size V25 w') := Lib.hid (by
    have h := quote_any ⟨#[255]⟩ V25 (HE.out.below HB25.out).1 (HE.out.below HB25.out).2.1 (HE.out.below HB25.out).2.2 (by decide)
    rw [quoShown3] at h
    exact h)
  go_wp2_with fail
  refine C.out.mono ?_
  rintro e V26 ⟨rfl, hb⟩
  have HB26 := Lib.hid (HB25.out.trans (hb.mono HB25.out.size))
  clear hb C
  have C : Hid (Calls Tryz.prog 9 #[.string ⟨#[]⟩] V26 fun e w' => e = .returned (.string ⟨#[39, 39]⟩) ∧ Below V26.heap.size V26 w') := Lib.hid (by
    have h := quote_any ⟨#[]⟩ V26 (HE.out.below HB26.out).1 (HE.out.below HB26.out).2.1 (HE.out.below HB26.out).2.2 (by decide)
    rw [quoShown4] at h
    exact h)
  go_wp2_with fail
  refine C.out.mono ?_
  rintro e V27 ⟨rfl, hb⟩
  have HB27 := Lib.hid (HB26.out.trans (hb.mono HB26.out.size))
  clear hb C
  go_wp2_with fail
  go_ret
  exact ⟨rfl, HB27.out⟩
end Go.Proofs.YtbnnhbmnddaafaaGreatDoor
