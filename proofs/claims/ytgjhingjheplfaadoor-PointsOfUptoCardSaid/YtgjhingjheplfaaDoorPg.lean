/- What each statement of layer 2 asks first; the walks of PointsNext, PointsText, PointsBack. -/
import Derived.Test.YtgjhingjheplfaaDoorPc
import Derived.Test.YtgjhingjheplfaaDoorPf
namespace Go.Proofs.YtgjhingjheplfaaDoor
open Go Go.RowKit Go.Kt Go.Shelf

/-- The tables that are read, laid. -/
structure Env (w : World) : Prop where
  tabs : Lib.Utf8Tabs 0 1 w
  err : ErrT w
theorem Env.lt {w : World} (h : Env w) : 3 ≤ w.heap.size := by have : 2 < w.heap.size := lt_of_cell h.err; omega
theorem Env.below {w w' : World} (h : Env w) {n : Nat} (hn : 3 ≤ n) (hb : Below n w w') : Env w' := ⟨tabs_below h.tabs (by omega) hb, h.err.below (by omega) hb⟩

abbrev sA : ByteArray := ⟨#[97, 255]⟩
theorem sA_pts : pts sA = [97, 1114367] := by kernel_rfl
theorem sA_units : (units sA).length = 2 := by kernel_rfl
theorem bad1 : FirstBad [97, 55296] 1 := ⟨by decide, fun i x hi hx => by obtain rfl : i = 0 := by omega
                                                                         simp at hx; subst hx; decide +kernel, fun x hx => by simp at hx; subst hx; decide +kernel⟩

def TwoOut (w : World) (e : Ending) (w' : World) : Prop :=
  ∃ g cap, e = .returned (.slice (some ⟨g, 0, none⟩) 2 cap) ∧ w'.cell? ⟨g, 0, none⟩ = some (.int .i32 97) ∧ w'.cell? ⟨g, 1, none⟩ = some (.int .i32 1114367) ∧ Below w.heap.size w w'
theorem ofA (w : World) (hE : Env w) : Calls Tryd.prog 35 #[.string sA] w (TwoOut w) := by
  refine (ptsOf_any sA w hE.tabs (by have := hE.lt; omega) (by decide) (by rw [sA_units]; decide)).mono ?_
  rintro e w' ⟨ao, cap, rfl, hown, hb⟩
  rw [sA_pts] at hown ⊢
  rcases hown.1.2 with ⟨_, h⟩ | ⟨g, cap', cur, hv, _⟩
  · simp at h
  · injection hv with e1 e2 e3
    subst e1
    have h0 := hown.1.cells (g := g) rfl 0 (.int .i32 97) (by simp)
    have h1 := hown.1.cells (g := g) rfl 1 (.int .i32 1114367) (by simp)
    rw [Addr.add_lit] at h0 h1
    exact ⟨g, cap, rfl, h0, h1, hb⟩

set_option maxRecDepth 100000 in
theorem works2_any (w : World) (hE : Env w) :
    Calls Tryd.prog 36 #[] w fun e w' => e = .returned (.bool true) ∧ Below w.heap.size w w' := by
  have HE := Lib.hid hE
  have C1 := Lib.hid (ofA w hE)
  clear hE
  go_enter Tryd.func36, Tryd.ntmps36
  go_wp2_with fail
  refine C1.out.mono ?_
  rintro e w1 ⟨g, cap, rfl, h0, h1, hb1⟩
  have hz1 := hb1.size
  obtain ⟨W, hW⟩ : ∃ W, w1.alloc (.cells #[.int .i32 97, .int .i32 55296] 21 (0, 0)) = W := ⟨_, rfl⟩
  have hbW : Below w1.heap.size w1 W := by rw [← hW]; exact (Below.refl _ w1).alloc (Nat.le_refl _) _
  have hgW : W.heap[w1.heap.size]? = some (.cells #[.int .i32 97, .int .i32 55296] 21 (0, 0)) := by rw [← hW]; exact World.alloc_heap_new w1 _
  have hS : Slg .i32 W (.slice (some ⟨w1.heap.size, 0, none⟩) 2 2) [97, 55296] := ⟨_, 2, rfl, .inr ⟨_, rfl, fun i x hx => by
    rw [Addr.add_lit, Lib.cell_of_heap hgW]
    rcases i with _ | _ | i
    · simp at hx ⊢; exact hx.symm ▸ rfl
    · simp at hx ⊢; exact hx.symm ▸ rfl
    · simp at hx⟩⟩
  have C2 := Lib.hid (ptsText_any _ [97, 55296] 1 W hS (by intro x hx; simp at hx; omega) (by decide) bad1)
  have hWe := Lib.hid hW
  have HF := Lib.hid (And.intro h0 (And.intro h1 (And.intro hb1 hbW)))
  clear hS hgW hbW hW h0 h1 hb1
  go_wp2_with fail
  rw [hWe.out]
  refine C2.out.mono ?_
  rintro e w2 ⟨(⟨h, _⟩ | ⟨_, rfl⟩), hb2⟩
  · simp at h
  · obtain ⟨h0, h1, hb1, hbW⟩ := HF.out
    have hb : Below w1.heap.size w1 w2 := hbW.trans (hb2.mono hbW.size)
    have hb3 : Below w.heap.size w w2 := hb1.trans (hb.mono hz1)
    have k0 := (hb.cell (lt_of_cell h0)).trans h0
    have k1 := (hb.cell (lt_of_cell h1)).trans h1
    have C3 := Lib.hid (at_fault 8 0 1 w2 (by omega) (by omega) ((HE.out.below HE.out.lt hb3).err))
    have HB := Lib.hid hb3
    clear h0 h1 hb1 hbW hb hb2 hb3
    go_wp2_with fail
    refine C3.out.mono ?_
    rintro e w3 ⟨rfl, hb4⟩
    go_wp2
    go_ret
    exact ⟨rfl, HB.out.trans (hb4.mono HB.out.size)⟩
end Go.Proofs.YtgjhingjheplfaaDoor
