/- The kit's book: lists of runes are put in, and looked at (written by gen_zb.py). -/
import Derived.Test.YtfpfpaaojdodnaaGreatDoorZb
namespace Go.Proofs.YtfpfpaaojdodnaaGreatDoor
open Go Go.RowKit Go.Kt

theorem own_slcB {Y : Nat → Prop} {e : TypeId} {size n : Nat} {v : Value} {xs : List Value} {W : World} (h : OwnS Y e size v n xs W) : ∃ ao cap, v = .slice ao n cap := by
  rcases h.1.2 with ⟨rfl, rfl⟩ | ⟨g, cap, cur, rfl, _⟩
  · exact ⟨_, _, rfl⟩
  · exact ⟨_, _, rfl⟩
abbrev BkZ (W0 : World) (gb : Nat) (sv : Value) (vs : List Value) (X : World) : Prop := Bl.BookW 118 21 22 1 4 W0 gb sv vs X
set_option maxRecDepth 100000 in
set_option maxHeartbeats 4000000 in
theorem bookApartZ (W0 w : World) (gb : Nat) (sv : Value) (vs : List Value) (h : BkZ W0 gb sv vs w) (hne : 0 < vs.length) (hf : vs.length ≤ 1900) :
    Calls Tryz.prog 54 #[.pointer (some ⟨gb, 0, none⟩)] w fun e w' => e = .returned (.bool true) ∧ Below W0.heap.size W0 w' := by
  have c0 := h.cell0 (i := 0) (by decide) (by decide)
  have c1 := h.cell0 (i := 1) (by decide) (by decide)
  have c2 := h.cell0 (i := 2) (by decide) (by decide)
  have c3 := h.cell0 (i := 3) (by decide) (by decide)
  have c4 := h.cell (by decide)
  have c5 := h.cell0 (i := 5) (by decide) (by decide)
  have c6 := h.cell0 (i := 6) (by decide) (by decide)
  have c7 := h.cell0 (i := 7) (by decide) (by decide)
  have c8 := h.cell0 (i := 8) (by decide) (by decide)
  have c9 := h.cell0 (i := 9) (by decide) (by decide)
  have c10 := h.cell0 (i := 10) (by decide) (by decide)
  have c11 := h.cell0 (i := 11) (by decide) (by decide)
  have c12 := h.cell0 (i := 12) (by decide) (by decide)
  have c13 := h.cell0 (i := 13) (by decide) (by decide)
  have c14 := h.cell0 (i := 14) (by decide) (by decide)
  have c15 := h.cell0 (i := 15) (by decide) (by decide)
  have c16 := h.cell0 (i := 16) (by decide) (by decide)
  have c17 := h.cell0 (i := 17) (by decide) (by decide)
  have c18 := h.cell0 (i := 18) (by decide) (by decide)
  have c19 := h.cell0 (i := 19) (by decide) (by decide)
  have c20 := h.cell0 (i := 20) (by decide) (by decide)
  have c21 := h.cell0 (i := 21) (by decide) (by decide)
  have c22 := h.cell0 (i := 22) (by decide) (by decide)
  have c23 := h.cell0 (i := 23) (by decide) (by decide)
  obtain ⟨q, cap, ex, rfl, hH, hXs⟩ := h.handed hne (by omega)
  have C := Lib.hid (apartRunesZ q cap ex vs (Bl.nsV vs) w hH)
  obtain ⟨m, hm⟩ : ∃ m, vs.length = m := ⟨_, rfl⟩
  have H := Lib.hid (And.intro h hXs)
  rw [hm] at C c4
  clear h hXs hH hne hf hm
  go_enter Tryz.func54, Tryz.ntmps54
  go_wp2_with (first
    | (go_at_call 101; refine (apartBytes_nil _).mono ?_; rintro e w' ⟨rfl, rfl⟩)
    | (go_at_call 102; refine (apartTexts_nil _).mono ?_; rintro e w' ⟨rfl, rfl⟩)
    | (go_at_call 103; refine (apartInts_nil _).mono ?_; rintro e w' ⟨rfl, rfl⟩)
    | (go_at_call 104; refine (apartIds_nil _).mono ?_; rintro e w' ⟨rfl, rfl⟩)
    | fail)
  refine C.out.mono ?_
  rintro e w1 ⟨rfl, hk⟩
  have hbk : w1.heap[gb]? = _ := hk.heap H.out.1.book (fun hx => (H.out.2 gb hx).1 rfl)
  have HB := Lib.hid (H.out.1.below.trans (hk.below H.out.1.below.size (fun b hb => (H.out.2 b hb).2)))
  clear c0 c1 c2 c3 c4 c5 c6 c7 c8 c9 c10 c11 c12 c13 c14 c15 c16 c17 c18 c19 c20 c21 c22 c23
  have d5 : w1.cell? ⟨gb, 5, none⟩ = some (.slice none 0 0) := by rw [Lib.cell_of_heap hbk]; rfl
  have d6 : w1.cell? ⟨gb, 6, none⟩ = some (.slice none 0 0) := by rw [Lib.cell_of_heap hbk]; rfl
  have d7 : w1.cell? ⟨gb, 7, none⟩ = some (.slice none 0 0) := by rw [Lib.cell_of_heap hbk]; rfl
  have d8 : w1.cell? ⟨gb, 8, none⟩ = some (.slice none 0 0) := by rw [Lib.cell_of_heap hbk]; rfl
  have d9 : w1.cell? ⟨gb, 9, none⟩ = some (.slice none 0 0) := by rw [Lib.cell_of_heap hbk]; rfl
  have d10 : w1.cell? ⟨gb, 10, none⟩ = some (.slice none 0 0) := by rw [Lib.cell_of_heap hbk]; rfl
  have d11 : w1.cell? ⟨gb, 11, none⟩ = some (.slice none 0 0) := by rw [Lib.cell_of_heap hbk]; rfl
  have d12 : w1.cell? ⟨gb, 12, none⟩ = some (.slice none 0 0) := by rw [Lib.cell_of_heap hbk]; rfl
  have d13 : w1.cell? ⟨gb, 13, none⟩ = some (.slice none 0 0) := by rw [Lib.cell_of_heap hbk]; rfl
  have d14 : w1.cell? ⟨gb, 14, none⟩ = some (.slice none 0 0) := by rw [Lib.cell_of_heap hbk]; rfl
  have d15 : w1.cell? ⟨gb, 15, none⟩ = some (.slice none 0 0) := by rw [Lib.cell_of_heap hbk]; rfl
  have d16 : w1.cell? ⟨gb, 16, none⟩ = some (.slice none 0 0) := by rw [Lib.cell_of_heap hbk]; rfl
  have d17 : w1.cell? ⟨gb, 17, none⟩ = some (.slice none 0 0) := by rw [Lib.cell_of_heap hbk]; rfl
  have d18 : w1.cell? ⟨gb, 18, none⟩ = some (.slice none 0 0) := by rw [Lib.cell_of_heap hbk]; rfl
  have d19 : w1.cell? ⟨gb, 19, none⟩ = some (.slice none 0 0) := by rw [Lib.cell_of_heap hbk]; rfl
  have d20 : w1.cell? ⟨gb, 20, none⟩ = some (.slice none 0 0) := by rw [Lib.cell_of_heap hbk]; rfl
  have d21 : w1.cell? ⟨gb, 21, none⟩ = some (.slice none 0 0) := by rw [Lib.cell_of_heap hbk]; rfl
  have d22 : w1.cell? ⟨gb, 22, none⟩ = some (.slice none 0 0) := by rw [Lib.cell_of_heap hbk]; rfl
  have d23 : w1.cell? ⟨gb, 23, none⟩ = some (.slice none 0 0) := by rw [Lib.cell_of_heap hbk]; rfl
  clear hk hbk
  go_wp2_with (first
    | (go_at_call 106; refine (apartNumbers_nil _).mono ?_; rintro e w' ⟨rfl, rfl⟩)
    | (go_at_call 107; refine (apartSpans_nil _).mono ?_; rintro e w' ⟨rfl, rfl⟩)
    | (go_at_call 108; refine (apartRanges_nil _).mono ?_; rintro e w' ⟨rfl, rfl⟩)
    | (go_at_call 109; refine (apartTokens_nil _).mono ?_; rintro e w' ⟨rfl, rfl⟩)
    | (go_at_call 110; refine (apartItems_nil _).mono ?_; rintro e w' ⟨rfl, rfl⟩)
    | (go_at_call 111; refine (apartSeats_nil _).mono ?_; rintro e w' ⟨rfl, rfl⟩)
    | (go_at_call 112; refine (apartWeights_nil _).mono ?_; rintro e w' ⟨rfl, rfl⟩)
    | (go_at_call 113; refine (apartElements_nil _).mono ?_; rintro e w' ⟨rfl, rfl⟩)
    | (go_at_call 114; refine (apartSpots_nil _).mono ?_; rintro e w' ⟨rfl, rfl⟩)
    | (go_at_call 115; refine (apartWords_nil _).mono ?_; rintro e w' ⟨rfl, rfl⟩)
    | (go_at_call 116; refine (apartPairs_nil _).mono ?_; rintro e w' ⟨rfl, rfl⟩)
    | (go_at_call 117; refine (apartEntries_nil _).mono ?_; rintro e w' ⟨rfl, rfl⟩)
    | (go_at_call 118; refine (apartDocs_nil _).mono ?_; rintro e w' ⟨rfl, rfl⟩)
    | (go_at_call 119; refine (apartInfos_nil _).mono ?_; rintro e w' ⟨rfl, rfl⟩)
    | (go_at_call 120; refine (apartHits_nil _).mono ?_; rintro e w' ⟨rfl, rfl⟩)
    | (go_at_call 121; refine (apartNears_nil _).mono ?_; rintro e w' ⟨rfl, rfl⟩)
    | (go_at_call 122; refine (apartPosts_nil _).mono ?_; rintro e w' ⟨rfl, rfl⟩)
    | (go_at_call 123; refine (apartTerms_nil _).mono ?_; rintro e w' ⟨rfl, rfl⟩)
    | (go_at_call 124; refine (apartQueries_nil _).mono ?_; rintro e w' ⟨rfl, rfl⟩))
  go_ret
  exact ⟨rfl, HB.out⟩
set_option maxRecDepth 100000 in
set_option maxHeartbeats 4000000 in
theorem bookApart0 (W0 w : World) (gb : Nat) (h : BkZ W0 gb (.slice none 0 0) [] w) :
    Calls Tryz.prog 54 #[.pointer (some ⟨gb, 0, none⟩)] w fun e w' => e = .returned (.bool true) ∧ Below W0.heap.size W0 w' := by
  have c0 := h.cell0 (i := 0) (by decide) (by decide)
  have c1 := h.cell0 (i := 1) (by decide) (by decide)
  have c2 := h.cell0 (i := 2) (by decide) (by decide)
  have c3 := h.cell0 (i := 3) (by decide) (by decide)
  have c4 := h.cell (by decide)
  have c5 := h.cell0 (i := 5) (by decide) (by decide)
  have c6 := h.cell0 (i := 6) (by decide) (by decide)
  have c7 := h.cell0 (i := 7) (by decide) (by decide)
  have c8 := h.cell0 (i := 8) (by decide) (by decide)
  have c9 := h.cell0 (i := 9) (by decide) (by decide)
  have c10 := h.cell0 (i := 10) (by decide) (by decide)
  have c11 := h.cell0 (i := 11) (by decide) (by decide)
  have c12 := h.cell0 (i := 12) (by decide) (by decide)
  have c13 := h.cell0 (i := 13) (by decide) (by decide)
  have c14 := h.cell0 (i := 14) (by decide) (by decide)
  have c15 := h.cell0 (i := 15) (by decide) (by decide)
  have c16 := h.cell0 (i := 16) (by decide) (by decide)
  have c17 := h.cell0 (i := 17) (by decide) (by decide)
  have c18 := h.cell0 (i := 18) (by decide) (by decide)
  have c19 := h.cell0 (i := 19) (by decide) (by decide)
  have c20 := h.cell0 (i := 20) (by decide) (by decide)
  have c21 := h.cell0 (i := 21) (by decide) (by decide)
  have c22 := h.cell0 (i := 22) (by decide) (by decide)
  have c23 := h.cell0 (i := 23) (by decide) (by decide)
  have HB := Lib.hid h.below
  clear h
  go_enter Tryz.func54, Tryz.ntmps54
  go_wp2_with (first
    | (go_at_call 101; refine (apartBytes_nil _).mono ?_; rintro e w' ⟨rfl, rfl⟩)
    | (go_at_call 102; refine (apartTexts_nil _).mono ?_; rintro e w' ⟨rfl, rfl⟩)
    | (go_at_call 103; refine (apartInts_nil _).mono ?_; rintro e w' ⟨rfl, rfl⟩)
    | (go_at_call 104; refine (apartIds_nil _).mono ?_; rintro e w' ⟨rfl, rfl⟩)
    | (go_at_call 106; refine (apartNumbers_nil _).mono ?_; rintro e w' ⟨rfl, rfl⟩)
    | (go_at_call 107; refine (apartSpans_nil _).mono ?_; rintro e w' ⟨rfl, rfl⟩)
    | (go_at_call 108; refine (apartRanges_nil _).mono ?_; rintro e w' ⟨rfl, rfl⟩)
    | (go_at_call 109; refine (apartTokens_nil _).mono ?_; rintro e w' ⟨rfl, rfl⟩)
    | (go_at_call 110; refine (apartItems_nil _).mono ?_; rintro e w' ⟨rfl, rfl⟩)
    | (go_at_call 111; refine (apartSeats_nil _).mono ?_; rintro e w' ⟨rfl, rfl⟩)
    | (go_at_call 112; refine (apartWeights_nil _).mono ?_; rintro e w' ⟨rfl, rfl⟩)
    | (go_at_call 113; refine (apartElements_nil _).mono ?_; rintro e w' ⟨rfl, rfl⟩)
    | (go_at_call 114; refine (apartSpots_nil _).mono ?_; rintro e w' ⟨rfl, rfl⟩)
    | (go_at_call 115; refine (apartWords_nil _).mono ?_; rintro e w' ⟨rfl, rfl⟩)
    | (go_at_call 116; refine (apartPairs_nil _).mono ?_; rintro e w' ⟨rfl, rfl⟩)
    | (go_at_call 117; refine (apartEntries_nil _).mono ?_; rintro e w' ⟨rfl, rfl⟩)
    | (go_at_call 118; refine (apartDocs_nil _).mono ?_; rintro e w' ⟨rfl, rfl⟩)
    | (go_at_call 119; refine (apartInfos_nil _).mono ?_; rintro e w' ⟨rfl, rfl⟩)
    | (go_at_call 120; refine (apartHits_nil _).mono ?_; rintro e w' ⟨rfl, rfl⟩)
    | (go_at_call 121; refine (apartNears_nil _).mono ?_; rintro e w' ⟨rfl, rfl⟩)
    | (go_at_call 122; refine (apartPosts_nil _).mono ?_; rintro e w' ⟨rfl, rfl⟩)
    | (go_at_call 123; refine (apartTerms_nil _).mono ?_; rintro e w' ⟨rfl, rfl⟩)
    | (go_at_call 124; refine (apartQueries_nil _).mono ?_; rintro e w' ⟨rfl, rfl⟩)
    | (go_at_call 105; refine (apartRunes_nil _).mono ?_; rintro e w' ⟨rfl, rfl⟩))
  go_ret
  exact ⟨rfl, HB.out⟩
end Go.Proofs.YtfpfpaaojdodnaaGreatDoor
