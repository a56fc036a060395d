/- props: works. -/
import Derived.Test.YtfpfpaaojdodnaaGreatDoorGz19
namespace Go.Proofs.YtfpfpaaojdodnaaGreatDoor
open Go Go.RowKit Go.Kt Go.Kt.Rg Go.Maps

instance (a : Int) : Decidable (I32 a) := inferInstanceAs (Decidable (_ ∧ _))
theorem rdW_ds : ∀ x l, rdW.ds x = some l → 1 ≤ l.length ∧ l.length ≤ 8 := fun x l h => by
  simp only [rdW, updN] at h
  split at h
  · cases h; decide
  · cases h
theorem rdW_fs : ∀ x l, rdW.fs x = some l → 1 ≤ l.length ∧ l.length ≤ 8 := fun x l h => by
  simp only [rdW, updN] at h
  split at h
  · cases h; decide
  · cases h
theorem w_c1 : cmpV (mdOf rdW [192]) 65 768 = some 192 := by kernel_rfl
theorem w_c2 : cmpV (mdOf rdW [192]) 4352 4449 = some 44032 := by kernel_rfl
theorem w_c3 : cmpV (mdOf rdW [192]) 768 65 = none := by kernel_rfl
theorem w_cl : clsV rdW 768 = 230 := by kernel_rfl
theorem w_kd : kndV rdW 65 = 1 := by kernel_rfl
theorem w_fd : fldV rdW 65 = [97] := by kernel_rfl
theorem w_dc : toZ (dcpV rdW 44033) = [4352, 4449, 4520] := by kernel_rfl
theorem sl_new (W : World) (l : List Int) (n : Nat) (hn : l.length = n) : Sl .i32 (W.alloc (.cells (encZ l).toArray 21)) (.slice (some ⟨W.heap.size, 0, none⟩) n n) l := by
  subst hn
  refine ⟨_, _, rfl, .inr ⟨W.heap.size, 0, rfl, fun i x hx => ?_⟩⟩
  rw [Lib.cell_of_heap (World.alloc_heap_new W _), Nat.zero_add]
  simp [encZ, List.getElem?_map, hx]

set_option maxRecDepth 100000 in
theorem pworks (w : World) (hE : PEnv w) : Calls Tryz.prog 12 #[] w fun e w' => e = .returned (.bool true) ∧ Below w.heap.size w w' := by
  have CP := Lib.hid (pParse ⟨fileW.toArray⟩ w hE)
  go_enter Tryz.func12, Tryz.ntmps12
  go_wp2_with fail
  refine CP.out.mono ?_
  rintro e w1 ⟨no, line, S, L, hP, hb1, hor⟩
  obtain ⟨h0, rfl, rfl⟩ := fileW_only hP
  obtain ⟨g, rfl, hW1⟩ : ∃ g, e = .returned (.tuple #[.pointer (some ⟨g, 0, none⟩), .nilIface]) ∧ PrW g rdW (mdOf rdW [192]) w1 := by
    rcases hor with ⟨_, g, h1, h2⟩ | ⟨h1, _⟩
    · exact ⟨g, h1, h2⟩
    · exact absurd h0 h1
  have HW : Hid (∀ W, Below w1.heap.size w1 W → PrW g rdW (mdOf rdW [192]) W) := Lib.hid fun W h => hW1.below h
  have C1 : Hid (∀ W, Below w1.heap.size w1 W → Calls Tryz.prog 14 #[.pointer (some ⟨g, 0, none⟩), .int .i32 65, .int .i32 768] W fun e w' => e = .returned (.tuple #[.int .i32 192, .bool true]) ∧ Below w1.heap.size w1 w') := Lib.hid fun W h =>
    (pcmpP W (HW.out W h) 65 768 (by decide) (by decide)).mono fun e w' ⟨h1, h2⟩ => by rw [w_c1] at h1; exact ⟨h1, h.trans (h2.mono h.size)⟩
  have C2 : Hid (∀ W, Below w1.heap.size w1 W → Calls Tryz.prog 14 #[.pointer (some ⟨g, 0, none⟩), .int .i32 4352, .int .i32 4449] W fun e w' => e = .returned (.tuple #[.int .i32 44032, .bool true]) ∧ Below w1.heap.size w1 w') := Lib.hid fun W h =>
    (pcmpP W (HW.out W h) 4352 4449 (by decide) (by decide)).mono fun e w' ⟨h1, h2⟩ => by rw [w_c2] at h1; exact ⟨h1, h.trans (h2.mono h.size)⟩
  have C3 : Hid (∀ W, Below w1.heap.size w1 W → Calls Tryz.prog 14 #[.pointer (some ⟨g, 0, none⟩), .int .i32 768, .int .i32 65] W fun e w' => e = .returned (.tuple #[.int .i32 0, .bool false]) ∧ Below w1.heap.size w1 w') := Lib.hid fun W h =>
    (pcmpP W (HW.out W h) 768 65 (by decide) (by decide)).mono fun e w' ⟨h1, h2⟩ => by rw [w_c3] at h1; exact ⟨h1, h.trans (h2.mono h.size)⟩
  have C4 : Hid (∀ W, Below w1.heap.size w1 W → Calls Tryz.prog 44 #[.pointer (some ⟨g, 0, none⟩), .int .i32 768] W fun e w' => e = .returned (.int .i64 230) ∧ Below w1.heap.size w1 w') := Lib.hid fun W h =>
    (pclsP W (HW.out W h) 768).mono fun e w' ⟨h1, h2⟩ => by rw [w_cl] at h1; exact ⟨h1, h.trans (h2.mono h.size)⟩
  have C5 : Hid (∀ W, Below w1.heap.size w1 W → Calls Tryz.prog 45 #[.pointer (some ⟨g, 0, none⟩), .int .i32 65] W fun e w' => e = .returned (.int .i64 1) ∧ Below w1.heap.size w1 w') := Lib.hid fun W h =>
    (pkndP W (HW.out W h) 65).mono fun e w' ⟨h1, h2⟩ => by rw [w_kd] at h1; exact ⟨h1, h.trans (h2.mono h.size)⟩
  have C6 : Hid (∀ W, Below w1.heap.size w1 W → Calls Tryz.prog 47 #[.pointer (some ⟨g, 0, none⟩), .int .i32 65] W fun e w' => (∃ v, e = .returned v ∧ Sl .i32 w' v [97]) ∧ Below w1.heap.size w1 w') := Lib.hid fun W h =>
    (pfldP W (HW.out W h) rdW_fs 65 (by decide)).mono fun e w' ⟨h1, h2⟩ => by rw [w_fd] at h1; exact ⟨h1.sl, h.trans (h2.mono h.size)⟩
  have C7 : Hid (∀ W, Below w1.heap.size w1 W → Calls Tryz.prog 48 #[.pointer (some ⟨g, 0, none⟩), .int .i32 44033] W fun e w' => (∃ v, e = .returned v ∧ Sl .i32 w' v [4352, 4449, 4520]) ∧ Below w1.heap.size w1 w') := Lib.hid fun W h =>
    (pdcpP W (HW.out W h) rdW_ds 44033 (by decide)).mono fun e w' ⟨h1, h2⟩ => by rw [w_dc] at h1; exact ⟨h1.sl, h.trans (h2.mono h.size)⟩
  have HB1 := Lib.hid hb1
  clear hP hb1 hor hW1 h0
  go_wp2_with fail
  refine (C1.out _ (Below.refl _ _)).mono ?_
  rintro e w2 ⟨rfl, hb2⟩
  go_wp2_with fail
  refine (C2.out _ hb2).mono ?_
  rintro e w3 ⟨rfl, hb3⟩
  go_wp2_with fail
  refine (C3.out _ hb3).mono ?_
  rintro e w4 ⟨rfl, hb4⟩
  clear hb2 hb3
  go_wp2_with fail
  refine (C4.out _ hb4).mono ?_
  rintro e w5 ⟨rfl, hb5⟩
  clear hb4
  go_wp2_with fail
  refine (C5.out _ hb5).mono ?_
  rintro e w6 ⟨rfl, hb6⟩
  clear hb5
  go_wp2_with fail
  refine (C6.out _ hb6).mono ?_
  rintro e w7 ⟨⟨v7, rfl, hs7⟩, hb7⟩
  clear hb6
  obtain ⟨w8, hw8⟩ : ∃ w8, w7.alloc (.cells #[.int .i32 97] 21) = w8 := ⟨_, rfl⟩
  have hb78 : Below w7.heap.size w7 w8 := by rw [← hw8]; exact (Below.refl _ _).alloc (Nat.le_refl _) _
  have hn8 : Sl .i32 w8 (.slice (some ⟨w7.heap.size, 0, none⟩) 1 1) [97] := by rw [← hw8]; exact sl_new w7 [97] 1 rfl
  have CS := Lib.hid (sameRunes_any v7 (.slice (some ⟨w7.heap.size, 0, none⟩) 1 1) [97] [97] w8 (hs7.below hb78) hn8 (by decide) (by decide))
  have H8 := Lib.hid (hb7.trans (hb78.mono hb7.size))
  clear hs7 hb7 hb78 hn8
  go_wp2_with fail
  refine CS.out.mono ?_
  rintro e w9 ⟨he, hd9⟩
  have he : e = .returned (.bool true) := by rw [he]; rfl
  subst he
  have H9 := Lib.hid (H8.out.trans (hd9.below.mono H8.out.size))
  clear hd9
  go_wp2_with fail
  refine (C7.out _ H9.out).mono ?_
  rintro e w10 ⟨⟨v10, rfl, hs10⟩, hb10⟩
  obtain ⟨w11, hw11⟩ : ∃ w11, w10.alloc (.cells #[.int .i32 4352, .int .i32 4449, .int .i32 4520] 21) = w11 := ⟨_, rfl⟩
  have hb11 : Below w10.heap.size w10 w11 := by rw [← hw11]; exact (Below.refl _ _).alloc (Nat.le_refl _) _
  have hn11 : Sl .i32 w11 (.slice (some ⟨w10.heap.size, 0, none⟩) 3 3) [4352, 4449, 4520] := by rw [← hw11]; exact sl_new w10 [4352, 4449, 4520] 3 rfl
  have CS2 := Lib.hid (sameRunes_any v10 (.slice (some ⟨w10.heap.size, 0, none⟩) 3 3) [4352, 4449, 4520] [4352, 4449, 4520] w11 (hs10.below hb11) hn11 (by decide) (by decide))
  have H11 := Lib.hid (hb10.trans (hb11.mono hb10.size))
  clear hs10 hb10 hb11 hn11
  go_wp2_with fail
  refine CS2.out.mono ?_
  rintro e w12 ⟨he, hd12⟩
  have he : e = .returned (.bool true) := by rw [he]; rfl
  subst he
  have H12 := Lib.hid (H11.out.trans (hd12.below.mono H11.out.size))
  clear hd12
  go_wp2
  go_ret
  exact ⟨rfl, HB1.out.trans (H12.out.mono HB1.out.size)⟩
end Go.Proofs.YtfpfpaaojdodnaaGreatDoor
