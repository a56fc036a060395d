/- ScanKnown's bounds: files of the greatest number of lines, of the greatest length, and one more (written by gen_gf.py). -/
import Derived.Test.YtbnnhbmnddaafaaGreatDoorGa
namespace Go.Proofs.YtbnnhbmnddaafaaGreatDoor
open Go Go.RowKit Go.Kt Go.Shelf Go.Lib
attribute [local go_sem] Oper.semAt_some

theorem rep_app (b : UInt8) (n : Nat) (l : List UInt8) : repB b n ++ ⟨l.toArray⟩ = ⟨(List.replicate n b ++ l).toArray⟩ := by
  apply ByteArray.ext
  rw [ByteArray.data_append]
  simp [repB]
theorem rep_cut (b : UInt8) (n : Nat) : (repB b (n + 1)).extract 1 (n + 1) = repB b n := by
  apply ByteArray.ext
  rw [ByteArray.data_extract]
  simp [repB]
set_option maxRecDepth 100000 in
theorem kbounds_texts : ∃ (S LG : ByteArray) (AS : List UInt8), (repB 10 65536 = S ∧ repB 97 1048576 = LG ∧ (⟨AS.toArray⟩ : ByteArray) = LG) ∧ (S.size = 65536 ∧ LG.size = 1048576) ∧
    scanS S = .ok [⟨0, [], (65537, 1, 65536)⟩] ∧ scanS (S ++ ⟨#[97]⟩) = .bad 5 65537 1 ∧ scanS (S.extract 1 65536 ++ ⟨#[97]⟩) = .ok [⟨1, [97], (65536, 1, 65535)⟩, ⟨0, [], (65536, 2, 65536)⟩] ∧
    scanS (S ++ ⟨#[10, 93]⟩) = .bad 5 65537 1 ∧ scanS LG = .ok [⟨1, AS, (1, 1, 0)⟩, ⟨0, [], (1, 1048577, 1048576)⟩] ∧ scanS (LG ++ ⟨#[93]⟩) = .bad 5 0 0 ∧ scanS (S ++ LG) = .bad 5 0 0 := by
  refine ⟨_, _, List.replicate 1048576 97, ⟨rfl, rfl, rfl⟩, ⟨rep_size _ _, rep_size _ _⟩, scan_nls 65536 (by decide), ?_, ?_, ?_, scan_as 1048576 (by decide) (by decide), ?_, ?_⟩
  · refine scan_many (by rw [ByteArray.size_append, rep_size]; decide) ?_
    rw [show (⟨#[97]⟩ : ByteArray) = ⟨[97].toArray⟩ from rfl, rep_app]
    simpa only [List.append_nil] using nlN_more 65536 [] 97 (by decide)
  · rw [show (65536 : Nat) = 65535 + 1 from rfl, rep_cut, show (⟨#[97]⟩ : ByteArray) = ⟨[97].toArray⟩ from rfl, rep_app]
    exact scan_nla 65535 (by decide)
  · refine scan_many (by rw [ByteArray.size_append, rep_size]; decide) ?_
    rw [show (⟨#[10, 93]⟩ : ByteArray) = ⟨(([10] : List UInt8) ++ [93]).toArray⟩ from rfl, rep_app, ← List.append_assoc]
    exact nlN_more 65536 [10] 93 (by decide)
  · exact scan_long (by rw [ByteArray.size_append, rep_size]; decide)
  · exact scan_long (by rw [ByteArray.size_append, rep_size, rep_size]; decide)
set_option maxRecDepth 100000 in
set_option maxHeartbeats 8000000 in
theorem kbounds_any (V0 : World) (hE : KEnv V0) : Calls Tryz.prog 16 #[] V0 fun e w' => e = .returned (.bool true) ∧ Below V0.heap.size V0 w' := by
  have HE := Lib.hid hE
  have HB0 : Hid (Below V0.heap.size V0 V0) := Lib.hid (Below.refl _ _)
  obtain ⟨S, LG, AS, hT, hZ, h1, h2, h3, h4, h5, h6, h7⟩ := kbounds_texts
  have HT := Lib.hid hT
  have HZ := Lib.hid hZ
  have H1 := Lib.hid h1
  have H2 := Lib.hid h2
  have H3 := Lib.hid h3
  have H4 := Lib.hid h4
  have H5 := Lib.hid h5
  have H6 := Lib.hid h6
  have H7 := Lib.hid h7
  have z1 := hZ.1
  have z2 := hZ.2
  clear hE hT hZ h1 h2 h3 h4 h5 h6 h7
  go_enter Tryz.func16, Tryz.ntmps16
  have C : Hid (Calls Tryz.prog 35 #[.string ⟨#[10]⟩, .int .i64 65536] V0 fun e w' => e = .returned (.string S) ∧ Below V0.heap.size V0 w') := Lib.hid (by rw [← HT.out.1]; exact times_any 10 65536 V0 (by decide))
  go_wp2_with fail
  refine C.out.mono ?_
  rintro e V1 ⟨rfl, hb⟩
  have HB1 := Lib.hid (HB0.out.trans (hb.mono HB0.out.size))
  clear hb C
  have C := Lib.hid (scan_any (S) V1 (HE.out.below HB1.out).1 (by rw [HZ.out.1]; decide))
  rw [H1.out] at C
  go_wp2_with fail
  refine C.out.mono ?_
  rintro e V2 ⟨⟨g0, cp0, rfl, ho⟩, hb⟩
  have HB2 := Lib.hid (HB1.out.trans (hb.mono HB1.out.size))
  have HO0 := Lib.hid ho
  clear ho hb C
  have C := Lib.hid (scan_any (S ++ ⟨#[97]⟩) V2 (HE.out.below HB2.out).1 (by simp only [ByteArray.size_append, HZ.out.1]; decide))
  rw [H2.out] at C
  go_wp2_with fail
  refine C.out.mono ?_
  rintro e V3 ⟨he, hb⟩
  obtain rfl : e = .returned (.tuple #[.slice none 0 0, fltV 5 65537 1]) := he
  have HO0 := Lib.hid (kown_nx HO0.out hb)
  have HB3 := Lib.hid (HB2.out.trans (hb.mono HB2.out.size))
  clear hb C
  have C := Lib.hid (scan_any (S.extract 1 65536 ++ ⟨#[97]⟩) V3 (HE.out.below HB3.out).1 (by simp only [ByteArray.size_append, ByteArray.size_extract, HZ.out.1]; decide))
  rw [H3.out] at C
  go_wp2_with fail
  refine C.out.mono ?_
  rintro e V4 ⟨⟨g1, cp1, rfl, ho⟩, hb⟩
  have HO0 := Lib.hid (kown_nx HO0.out hb)
  have HB4 := Lib.hid (HB3.out.trans (hb.mono HB3.out.size))
  have HO1 := Lib.hid ho
  clear ho hb C
  have C := Lib.hid (scan_any (S ++ ⟨#[10, 93]⟩) V4 (HE.out.below HB4.out).1 (by simp only [ByteArray.size_append, HZ.out.1]; decide))
  rw [H4.out] at C
  go_wp2_with fail
  refine C.out.mono ?_
  rintro e V5 ⟨he, hb⟩
  obtain rfl : e = .returned (.tuple #[.slice none 0 0, fltV 5 65537 1]) := he
  have HO0 := Lib.hid (kown_nx HO0.out hb)
  have HO1 := Lib.hid (kown_nx HO1.out hb)
  have HB5 := Lib.hid (HB4.out.trans (hb.mono HB4.out.size))
  clear hb C
  have C : Hid (Calls Tryz.prog 35 #[.string ⟨#[97]⟩, .int .i64 1048576] V5 fun e w' => e = .returned (.string LG) ∧ Below V5.heap.size V5 w') := Lib.hid (by rw [← HT.out.2.1]; exact times_any 97 1048576 V5 (by decide))
  go_wp2_with fail
  refine C.out.mono ?_
  rintro e V6 ⟨rfl, hb⟩
  have HO0 := Lib.hid (kown_nx HO0.out hb)
  have HO1 := Lib.hid (kown_nx HO1.out hb)
  have HB6 := Lib.hid (HB5.out.trans (hb.mono HB5.out.size))
  clear hb C
  have C := Lib.hid (scan_any (LG) V6 (HE.out.below HB6.out).1 (by rw [HZ.out.2]; decide))
  rw [H5.out] at C
  go_wp2_with fail
  refine C.out.mono ?_
  rintro e V7 ⟨⟨g2, cp2, rfl, ho⟩, hb⟩
  have HO0 := Lib.hid (kown_nx HO0.out hb)
  have HO1 := Lib.hid (kown_nx HO1.out hb)
  have HB7 := Lib.hid (HB6.out.trans (hb.mono HB6.out.size))
  have HO2 := Lib.hid ho
  clear ho hb C
  have C := Lib.hid (scan_any (LG ++ ⟨#[93]⟩) V7 (HE.out.below HB7.out).1 (by simp only [ByteArray.size_append, HZ.out.2]; decide))
  rw [H6.out] at C
  go_wp2_with fail
  refine C.out.mono ?_
  rintro e V8 ⟨he, hb⟩
  obtain rfl : e = .returned (.tuple #[.slice none 0 0, fltV 5 0 0]) := he
  have HO0 := Lib.hid (kown_nx HO0.out hb)
  have HO1 := Lib.hid (kown_nx HO1.out hb)
  have HO2 := Lib.hid (kown_nx HO2.out hb)
  have HB8 := Lib.hid (HB7.out.trans (hb.mono HB7.out.size))
  clear hb C
  have C := Lib.hid (scan_any (S ++ LG) V8 (HE.out.below HB8.out).1 (by simp only [ByteArray.size_append, HZ.out.1, HZ.out.2]; decide))
  rw [H7.out] at C
  go_wp2_with fail
  refine C.out.mono ?_
  rintro e V9 ⟨he, hb⟩
  obtain rfl : e = .returned (.tuple #[.slice none 0 0, fltV 5 0 0]) := he
  have HO0 := Lib.hid (kown_nx HO0.out hb)
  have HO1 := Lib.hid (kown_nx HO1.out hb)
  have HO2 := Lib.hid (kown_nx HO2.out hb)
  have HB9 := Lib.hid (HB8.out.trans (hb.mono HB8.out.size))
  clear hb C
  have q0_0_0 : V9.cell? ⟨g0, 0, none⟩ = some (.int .i64 0) := ownS_at HO0.out (i := 0) rfl
  have q0_0_1 : V9.cell? ⟨g0, 1, none⟩ = some (.string ⟨#[]⟩) := ownS_at HO0.out (i := 1) rfl
  have q0_0_2 : V9.cell? ⟨g0, 2, none⟩ = some (.int .i64 65537) := ownS_at HO0.out (i := 2) rfl
  have q0_0_3 : V9.cell? ⟨g0, 3, none⟩ = some (.int .i64 1) := ownS_at HO0.out (i := 3) rfl
  have q0_0_4 : V9.cell? ⟨g0, 4, none⟩ = some (.int .i64 65536) := ownS_at HO0.out (i := 4) rfl
  have C := Lib.hid (tok_yes 0 65537 1 65536 (⟨#[]⟩) V9)
  go_wp2_with fail
  refine C.out.mono ?_
  rintro e V10 ⟨rfl, hb⟩
  have HO0 := Lib.hid (kown_nx HO0.out hb)
  have HO1 := Lib.hid (kown_nx HO1.out hb)
  have HO2 := Lib.hid (kown_nx HO2.out hb)
  have HB10 := Lib.hid (HB9.out.trans (hb.mono HB9.out.size))
  clear hb C q0_0_0 q0_0_1 q0_0_2 q0_0_3 q0_0_4
  have q1_0_0 : V10.cell? ⟨g1, 0, none⟩ = some (.int .i64 1) := ownS_at HO1.out (i := 0) rfl
  have q1_0_1 : V10.cell? ⟨g1, 1, none⟩ = some (.string ⟨#[97]⟩) := ownS_at HO1.out (i := 1) rfl
  have q1_0_2 : V10.cell? ⟨g1, 2, none⟩ = some (.int .i64 65536) := ownS_at HO1.out (i := 2) rfl
  have q1_0_3 : V10.cell? ⟨g1, 3, none⟩ = some (.int .i64 1) := ownS_at HO1.out (i := 3) rfl
  have q1_0_4 : V10.cell? ⟨g1, 4, none⟩ = some (.int .i64 65535) := ownS_at HO1.out (i := 4) rfl
  have C := Lib.hid (tok_yes 1 65536 1 65535 (⟨#[97]⟩) V10)
  go_wp2_with fail
  refine C.out.mono ?_
  rintro e V11 ⟨rfl, hb⟩
  have HO1 := Lib.hid (kown_nx HO1.out hb)
  have HO2 := Lib.hid (kown_nx HO2.out hb)
  have HB11 := Lib.hid (HB10.out.trans (hb.mono HB10.out.size))
  clear hb C q1_0_0 q1_0_1 q1_0_2 q1_0_3 q1_0_4
  have q2_0_0 : V11.cell? ⟨g2, 0, none⟩ = some (.int .i64 1) := ownS_at HO2.out (i := 0) rfl
  have q2_0_1 : V11.cell? ⟨g2, 1, none⟩ = some (.string LG) := by rw [← HT.out.2.2]; exact ownS_at HO2.out (i := 1) rfl
  have q2_0_2 : V11.cell? ⟨g2, 2, none⟩ = some (.int .i64 1) := ownS_at HO2.out (i := 2) rfl
  have q2_0_3 : V11.cell? ⟨g2, 3, none⟩ = some (.int .i64 1) := ownS_at HO2.out (i := 3) rfl
  have q2_0_4 : V11.cell? ⟨g2, 4, none⟩ = some (.int .i64 0) := ownS_at HO2.out (i := 4) rfl
  have C := Lib.hid (tok_yes 1 1 1 0 (LG) V11)
  go_wp2_with fail
  refine C.out.mono ?_
  rintro e V12 ⟨rfl, hb⟩
  have HO2 := Lib.hid (kown_nx HO2.out hb)
  have HB12 := Lib.hid (HB11.out.trans (hb.mono HB11.out.size))
  clear hb C q2_0_0 q2_0_1 q2_0_2 q2_0_3 q2_0_4
  have q2_1_0 : V12.cell? ⟨g2, 5, none⟩ = some (.int .i64 0) := ownS_at HO2.out (i := 5) rfl
  have q2_1_1 : V12.cell? ⟨g2, 6, none⟩ = some (.string ⟨#[]⟩) := ownS_at HO2.out (i := 6) rfl
  have q2_1_2 : V12.cell? ⟨g2, 7, none⟩ = some (.int .i64 1) := ownS_at HO2.out (i := 7) rfl
  have q2_1_3 : V12.cell? ⟨g2, 8, none⟩ = some (.int .i64 1048577) := ownS_at HO2.out (i := 8) rfl
  have q2_1_4 : V12.cell? ⟨g2, 9, none⟩ = some (.int .i64 1048576) := ownS_at HO2.out (i := 9) rfl
  have C := Lib.hid (tok_yes 0 1 1048577 1048576 (⟨#[]⟩) V12)
  go_wp2_with fail
  refine C.out.mono ?_
  rintro e V13 ⟨rfl, hb⟩
  have HO2 := Lib.hid (kown_nx HO2.out hb)
  have HB13 := Lib.hid (HB12.out.trans (hb.mono HB12.out.size))
  clear hb C q2_1_0 q2_1_1 q2_1_2 q2_1_3 q2_1_4
  have C : Hid (Calls Tryz.prog 10 #[fltV 5 65537 1, .int .i64 5, .int .i64 65537, .int .i64 1] V13 fun e w' => e = .returned (.bool true) ∧ Below V13.heap.size V13 w') := Lib.hid (at_fault 5 65537 1 V13 (by decide) (by decide) (HE.out.below HB13.out).1.err)
  go_wp2_with fail
  refine C.out.mono ?_
  rintro e V14 ⟨rfl, hb⟩
  have HB14 := Lib.hid (HB13.out.trans (hb.mono HB13.out.size))
  clear hb C
  have C : Hid (Calls Tryz.prog 10 #[fltV 5 65537 1, .int .i64 5, .int .i64 65537, .int .i64 1] V14 fun e w' => e = .returned (.bool true) ∧ Below V14.heap.size V14 w') := Lib.hid (at_fault 5 65537 1 V14 (by decide) (by decide) (HE.out.below HB14.out).1.err)
  go_wp2_with fail
  refine C.out.mono ?_
  rintro e V15 ⟨rfl, hb⟩
  have HB15 := Lib.hid (HB14.out.trans (hb.mono HB14.out.size))
  clear hb C
  have C : Hid (Calls Tryz.prog 10 #[fltV 5 0 0, .int .i64 5, .int .i64 0, .int .i64 0] V15 fun e w' => e = .returned (.bool true) ∧ Below V15.heap.size V15 w') := Lib.hid (at_fault 5 0 0 V15 (by decide) (by decide) (HE.out.below HB15.out).1.err)
  go_wp2_with fail
  refine C.out.mono ?_
  rintro e V16 ⟨rfl, hb⟩
  have HB16 := Lib.hid (HB15.out.trans (hb.mono HB15.out.size))
  clear hb C
  have C : Hid (Calls Tryz.prog 10 #[fltV 5 0 0, .int .i64 5, .int .i64 0, .int .i64 0] V16 fun e w' => e = .returned (.bool true) ∧ Below V16.heap.size V16 w') := Lib.hid (at_fault 5 0 0 V16 (by decide) (by decide) (HE.out.below HB16.out).1.err)
  go_wp2_with fail
  refine C.out.mono ?_
  rintro e V17 ⟨rfl, hb⟩
  have HB17 := Lib.hid (HB16.out.trans (hb.mono HB16.out.size))
  clear hb C
  go_wp2_with fail
  go_ret
  exact ⟨rfl, HB17.out⟩
end Go.Proofs.YtbnnhbmnddaafaaGreatDoor
