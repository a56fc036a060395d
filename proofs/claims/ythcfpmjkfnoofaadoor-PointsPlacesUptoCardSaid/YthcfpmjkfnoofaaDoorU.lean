import Derived.Test.YthcfpmjkfnoofaaDoorT
namespace Go.Proofs.YthcfpmjkfnoofaaDoor
open Go Go.RowKit Go.Kt Go.Shelf

theorem utfEncode_any (r : Int) (w : World) :
    Calls Tryd.prog 50 #[.int .i32 r] w fun e w' => e = .returned (.string (Utf8.encode r)) ∧ w = w' := by
  go_enter Tryd.func50, Tryd.ntmps50
  go_wp2
  go_ret
  exact ⟨rfl, rfl⟩

abbrev s1 : ByteArray := ⟨#[97, 195, 169]⟩
abbrev s2 : ByteArray := ⟨#[195]⟩
abbrev s3 : ByteArray := ⟨#[255, 98]⟩
theorem d1 : decP s1 1 = (233, 2) := by kernel_rfl
theorem d2 : decP s2 0 = (65533, 1) := by kernel_rfl
theorem d3 : runeCells s3 = [.int .i32 65533, .int .i32 98] := by kernel_rfl
theorem d3n : (units s3).length = 2 := by kernel_rfl
theorem d4 : Utf8.encode 233 = ⟨#[195, 169]⟩ := by kernel_rfl
theorem d5 : mendL ⟨#[255]⟩ ⟨#[63]⟩ true = [63] := by kernel_rfl
theorem d6 : fullB ⟨#[97]⟩ = true := by kernel_rfl

theorem neq_func31 (f b : Nat) (w : World) : (binOp .neq 29 (.func (.func f) #[] #[.pointer (some ⟨b, 0, none⟩)]) .nilFunc).run Tryd.prog w = .ok (.bool true) w := by kernel_rfl

set_option maxRecDepth 100000 in
theorem works_any (w : World) (hT : Lib.Utf8Tabs 1 2 w) (h2 : 3 ≤ w.heap.size) :
    Calls Tryd.prog 11 #[] w fun e w' => e = .returned (.bool true) ∧ Below w.heap.size w w' := by
  have HT := Lib.hid hT; clear hT
  have c1 : Hid (∀ w, Lib.Utf8Tabs 1 2 w → Calls Tryd.prog 48 #[.string s1, .int .i64 1] w fun e w' => e = .returned (.tuple #[.int .i32 233, .int .i64 2]) ∧ Below w.heap.size w w') := Lib.hid fun w h => by
    have := utfDecode_any s1 1 w h (by decide); rw [d1] at this; exact this
  have c2 : Hid (∀ w, Lib.Utf8Tabs 1 2 w → Calls Tryd.prog 48 #[.string s2, .int .i64 0] w fun e w' => e = .returned (.tuple #[.int .i32 65533, .int .i64 1]) ∧ Below w.heap.size w w') := Lib.hid fun w h => by
    have := utfDecode_any s2 0 w h (by decide); rw [d2] at this; exact this
  have c3 := Lib.hid fun w => utfRunes_any s3 w (by decide)
  rw [d3, d3n] at c3
  have c4 := Lib.hid (utfEncode_any 233)
  rw [d4] at c4
  have c5 := Lib.hid fun w h k => utfMend_any ⟨#[255]⟩ ⟨#[63]⟩ true w h k (by decide) (by decide)
  rw [d5] at c5
  have c6 := Lib.hid fun w h => utfFull_any ⟨#[97]⟩ w h (by decide)
  rw [d6] at c6
  go_enter Tryd.func11, Tryd.ntmps11
  go_wp2_with fail
  refine (c1.out _ HT.out).mono ?_
  rintro e w1 ⟨rfl, hb1⟩
  have hz1 := hb1.size
  go_wp2_with fail
  refine (c2.out _ (tabs_below HT.out h2 hb1)).mono ?_
  rintro e w2 ⟨rfl, hb2'⟩
  have hb2 := hb1.trans (hb2'.mono hz1)
  have hz2 := hb2.size
  clear hb2' hb1
  go_wp2_with fail
  refine (c3.out _).mono ?_
  rintro e w3 ⟨cap, rfl, hown, hb3', hz3⟩
  have hb3 := hb2.trans (hb3'.mono hz2)
  have hc := hown.1.cells rfl
  have k0 : w3.cell? ⟨w2.heap.size, 0, none⟩ = some (.int .i32 65533) := hc 0 _ rfl
  have k1 : w3.cell? ⟨w2.heap.size, 1, none⟩ = some (.int .i32 98) := hc 1 _ rfl
  have HS := Lib.hid (And.intro hb3 hz3)
  clear hown hc hb3' hz3 hb2 hb3
  go_wp2_with fail
  refine c4.out _ |>.mono ?_
  rintro e w' ⟨rfl, rfl⟩
  go_wp2_with fail
  refine (c5.out _ (tabs_below HT.out h2 HS.out.1) (by have := HS.out.2; omega)).mono ?_
  rintro e w4 ⟨rfl, hb4'⟩
  have hb4 := HS.out.1.trans (hb4'.mono (by have := HS.out.2; omega))
  have hz4 := hb4.size
  have HS4 := Lib.hid hb4
  clear hb4' hb4
  go_wp2_with fail
  refine (c6.out _ (tabs_below HT.out h2 HS4.out)).mono ?_
  rintro e w5 ⟨rfl, hb5'⟩
  have hb5 := HS4.out.trans (hb5'.mono hz4)
  have HS5 := Lib.hid hb5
  clear hb5' hb5
  go_wp2_with fail
  refine (utfAll_call ⟨#[]⟩ _).mono ?_
  rintro e w6 ⟨rfl, hw6⟩
  have hb6 : Below w.heap.size w w6 := by rw [← hw6]; exact HS5.out.alloc HS5.out.size _
  have HS6 := Lib.hid hb6
  clear hb6 hw6
  go_wp2_with fail
  have hneq := neq_func31 54 w5.heap.size
  rw [hneq]
  go_wp2_with fail
  go_ret
  exact ⟨rfl, HS6.out⟩
end Go.Proofs.YthcfpmjkfnoofaaDoor
