/- cells' laws: both: properties of a file, the program's and the document's. -/
import Derived.Test.YthhepebkfokddaaGreatDoorZn
import Derived.Test.YthhepebkfokddaaGreatDoorGy22
import Derived.Test.YthhepebkfokddaaGreatDoorGy17
import Derived.BigQuiet
namespace Go.Proofs.YthhepebkfokddaaGreatDoor
open Go Go.RowKit Go.Kt Go.Kt.Rg Go.Maps

def BothO (l : List UInt8) (e : Ending) (w w' : World) : Prop := Below w.heap.size w w' ∧ ((∃ x y, e = .returned (.tuple #[x, y, .bool false])) ∨
  ∃ g gx line S L X cv kv fv dv B0 ρ, e = .returned (.tuple #[.pointer (some ⟨g, 0, none⟩), .pointer (some ⟨gx, 0, none⟩), .bool true]) ∧ ParseR l 0 line S L ∧ PrW g S (mdOf S L) w' ∧ PxW B0 ρ gx X cv kv fv dv w' ∧ XRel X S)
theorem errP_if (no line : Nat) : ∃ t v, errP no line = .iface t v := by
  unfold errP
  split
  · exact ⟨_, _, rfl⟩
  · exact ⟨_, _, rfl⟩

set_option maxRecDepth 100000 in
set_option maxHeartbeats 2000000 in
theorem cboth (f : ByteArray) (w : World) (hE : PEnv w ∧ KTabX w) : Calls Tryz.prog 9 #[.string f] w fun e w' => BothO f.data.toList e w w' := by
  by_cases hbig : 4096 < f.size
  · have h1 : (4096 : Int) < f.size := by omega
    clear hbig hE
    go_enter Tryz.func9, Tryz.ntmps9
    go_wp2
    go_ret3
    exact ⟨Below.refl _ _, .inl ⟨_, _, rfl⟩⟩
  have h1 : ¬ (4096 : Int) < f.size := by omega
  have CP := Lib.hid (pParse f w hE.1)
  have CY := Lib.hid (fun W (h : Below w.heap.size w W) => yParse f W (by omega) (hE.2.below h))
  have eq1 : ∀ (t : TypeId) (v : Value) (W : World), (binOp .eql 24 (.iface t v) .nilIface).run Tryz.prog W = .ok (.bool false) W := fun t v W => by go_simp
  clear hE hbig
  go_enter Tryz.func9, Tryz.ntmps9
  go_wp2_with fail
  refine CP.out.mono ?_
  rintro e w1 ⟨no, line, S, L, hP, hb1, ⟨rfl, g, rfl, hW⟩ | ⟨h0, rfl⟩⟩
  · have HB1 := Lib.hid hb1
    have HX := Lib.hid (And.intro hP hW)
    clear hP hb1 hW
    go_wp2_with fail
    refine (CY.out w1 HB1.out).mono ?_
    rintro e w2 ⟨no2, line2, S2, L2, hP2, h⟩
    obtain ⟨rfl, rfl, hSL⟩ := ParseR.uniq HX.out.1 hP2
    obtain ⟨rfl, rfl⟩ := hSL rfl
    rcases h with ⟨_, gx, X, cv, kv, fv, dv, B0, ρ, rfl, hPx, hXR, hln, hb2⟩ | ⟨h0, _⟩
    rotate_left
    · exact absurd rfl h0
    obtain ⟨w3, hw3⟩ : ∃ W, w2.alloc (.cells #[.int .i64 0, .int .i64 0] 74) = W := ⟨_, rfl⟩
    have hb3 : Below w2.heap.size w2 w3 := by rw [← hw3]; exact (Below.refl _ w2).alloc (Nat.le_refl _) _
    have c0 : w3.cell? ⟨w2.heap.size, 0, none⟩ = some (.int .i64 0) := by rw [← hw3, Lib.cell_of_heap (World.alloc_heap_new _ _)]; rfl
    have HF : Hid (∀ q, BothO f.data.toList (.returned (.tuple #[.pointer (some ⟨g, 0, none⟩), .pointer (some ⟨gx, 0, none⟩), .bool true])) w (w3.drewN q)) := Lib.hid fun q => by
      have hb23 : Below w2.heap.size w2 (w3.drewN q) := below_drewN hb3 q
      have hb13 : Below w1.heap.size w1 (w3.drewN q) := hb2.trans (hb23.mono hb2.size)
      exact ⟨HB1.out.trans (hb13.mono HB1.out.size), .inr ⟨g, gx, _, S, L, X, cv, kv, fv, dv, B0, ρ, rfl, HX.out.1, HX.out.2.below hb13, hPx.below hb23, hXR⟩⟩
    have HW3 := Lib.hid hw3
    clear hP2 hPx hXR hln hb2 hb3 hw3
    go_wp2_with fail
    rw [HW3.out]
    go_quiet (fail)
    go_wp2
    go_ret3
    exact HF.out _
  · obtain ⟨t, v, hv⟩ := errP_if no line
    rw [hv]
    have HB1 := Lib.hid hb1
    have HX := Lib.hid (And.intro hP h0)
    clear hP hb1 hv h0
    go_wp2_with fail
    refine (CY.out w1 HB1.out).mono ?_
    rintro e w2 ⟨no2, line2, S2, L2, hP2, h⟩
    obtain ⟨rfl, rfl, _⟩ := ParseR.uniq HX.out.1 hP2
    rcases h with ⟨h0, _⟩ | ⟨_, hb2, rfl⟩
    · exact absurd h0 HX.out.2
    obtain ⟨w3, hw3⟩ : ∃ W, w2.alloc (.cells #[.int .i64 (no : Nat), .int .i64 (line : Nat)] 74) = W := ⟨_, rfl⟩
    have hb3 : Below w2.heap.size w2 w3 := by rw [← hw3]; exact (Below.refl _ w2).alloc (Nat.le_refl _) _
    have HF : Hid (∀ q, Below w.heap.size w (w3.drewN q)) := Lib.hid fun q => HB1.out.trans ((hb2.trans ((below_drewN hb3 q).mono hb2.size)).mono HB1.out.size)
    have HW3 := Lib.hid hw3
    clear hP2 hb2 hb3 hw3
    go_wp2_with fail
    rw [HW3.out]
    go_quiet (fail)
    go_wp2
    go_ret3
    exact ⟨HF.out _, .inl ⟨_, _, rfl⟩⟩
end Go.Proofs.YthhepebkfokddaaGreatDoor
