/- The kit's book: lists of spans are put in, and looked at (written by gen_yi.py). -/
import Derived.Test.YtjbkpcdpdifpnaaGreatDoorYg
import Derived.Test.YtjbkpcdpdifpnaaGreatDoorYh
import Derived.Test.YtjbkpcdpdifpnaaGreatDoorK20
namespace Go.Proofs.YtjbkpcdpdifpnaaGreatDoor
open Go Go.RowKit Go.Kt

abbrev BkS (W0 : World) (gb : Nat) (sv : Value) (vs : List Value) (X : World) : Prop := Bk.BookW 74 27 25 2 6 W0 gb sv vs X
set_option maxRecDepth 100000 in
theorem bookSpans_any (W0 X0 w : World) (gb n vc : Nat) (ao : Option Addr) (sv : Value) (vs xs : List Value) (h0 : BkS W0 gb sv vs X0) (hb : Below X0.heap.size X0 w) (hv : OwnS (fun b => X0.heap.size ≤ b) 27 2 (.slice ao n vc) n xs w) (hn : n ≤ 2097152) (hf : vs.length ≤ 900) :
    Calls Tryz.prog 20 #[.pointer (some ⟨gb, 0, none⟩), .slice ao n vc] w fun e w' => e = .returned (.tuple #[]) ∧ ∃ sv', BkS W0 gb sv' (vs ++ [.slice ao n vc]) w' := by
  have h := h0.next hb
  have q := h.cell (by decide)
  obtain ⟨sl, cs, rfl⟩ := own_slice h.list
  obtain ⟨g, cap, w2, hrun, hown2, hk2, hg2, hz2⟩ := append_x (P := Tryz.prog) w 55 25 Tryz.underlying55 tinfoSlS rfl (by decide) h.list [.slice ao n vc] rfl
    (by intro u hu; simp at hu; subst hu; rfl) (by unfold maxLen; omega) (by omega)
  have hbk : w2.heap[gb]? = some (.cells (Bk.bookC 6 (.slice sl vs.length cs)) 74 (0, 0)) := hk2.heap h.book (fun hh => (h.list.2 gb hh).2 rfl)
  have q2 : w2.cell? ⟨gb, 6, none⟩ = some (.slice sl vs.length cs) := by rw [Lib.cell_of_heap hbk]; rfl
  have f2 : w2.frozen? ⟨gb, 6, none⟩ = false := Lib.frozen_of_heap hbk _
  have HA := Lib.hid (h0.add hb hv hn hown2 hk2 hg2)
  have HRun := Lib.hid hrun
  obtain ⟨m, hm⟩ : ∃ m, vs.length = m := ⟨_, rfl⟩
  rw [hm] at q q2 HA HRun
  clear h h0 hb hv hrun hown2 hk2 hg2 hz2 hbk hm hf
  go_enter Tryz.func20, Tryz.ntmps20
  go_wp2_with (at_builtin; refine wpList_append_eq rfl rfl rfl rfl HRun.out ?_)
  go_end0
  exact ⟨rfl, _, HA.out⟩

set_option maxRecDepth 100000 in
set_option maxHeartbeats 4000000 in
theorem bookApart_any (W0 w : World) (gb : Nat) (sv : Value) (vs : List Value) (h : BkS W0 gb sv vs w) (hne : 0 < vs.length) (hf : vs.length ≤ 900) :
    Calls Tryz.prog 22 #[.pointer (some ⟨gb, 0, none⟩)] w fun e w' => e = .returned (.bool true) ∧ Below W0.heap.size W0 w' := by
  have c0 := h.cell0 (i := 0) (by decide) (by decide)
  have c1 := h.cell0 (i := 1) (by decide) (by decide)
  have c2 := h.cell0 (i := 2) (by decide) (by decide)
  have c3 := h.cell0 (i := 3) (by decide) (by decide)
  have c4 := h.cell0 (i := 4) (by decide) (by decide)
  have c5 := h.cell0 (i := 5) (by decide) (by decide)
  have c6 := h.cell (by decide)
  have c7 := h.cell0 (i := 7) (by decide) (by decide)
  have c8 := h.cell0 (i := 8) (by decide) (by decide)
  have c9 := h.cell0 (i := 9) (by decide) (by decide)
  have c10 := h.cell0 (i := 10) (by decide) (by decide)
  have c11 := h.cell0 (i := 11) (by decide) (by decide)
  have c12 := h.cell0 (i := 12) (by decide) (by decide)
  have c13 := h.cell0 (i := 13) (by decide) (by decide)
  have c14 := h.cell0 (i := 14) (by decide) (by decide)
  have c15 := h.cell0 (i := 15) (by decide) (by decide)
  have c16 := h.cell0 (i := 16) (by decide) (by decide)
  have c17 := h.cell0 (i := 17) (by decide) (by decide)
  have c18 := h.cell0 (i := 18) (by decide) (by decide)
  have c19 := h.cell0 (i := 19) (by decide) (by decide)
  have c20 := h.cell0 (i := 20) (by decide) (by decide)
  have c21 := h.cell0 (i := 21) (by decide) (by decide)
  have c22 := h.cell0 (i := 22) (by decide) (by decide)
  have c23 := h.cell0 (i := 23) (by decide) (by decide)
  obtain ⟨q, cap, ex, rfl, hH, hXs⟩ := h.handed hne (by omega)
  have C := Lib.hid (apartSpans_any q cap ex vs (Bk.nsV vs) w hH)
  obtain ⟨m, hm⟩ : ∃ m, vs.length = m := ⟨_, rfl⟩
  have H := Lib.hid (And.intro h hXs)
  rw [hm] at C c6
  clear h hXs hH hne hf hm
  go_enter Tryz.func22, Tryz.ntmps22
  go_wp2_with (first
    | (go_at_call 56; refine (apartBytes_nil _).mono ?_; rintro e w' ⟨rfl, rfl⟩)
    | (go_at_call 57; refine (apartTexts_nil _).mono ?_; rintro e w' ⟨rfl, rfl⟩)
    | (go_at_call 58; refine (apartInts_nil _).mono ?_; rintro e w' ⟨rfl, rfl⟩)
    | (go_at_call 59; refine (apartIds_nil _).mono ?_; rintro e w' ⟨rfl, rfl⟩)
    | (go_at_call 60; refine (apartRunes_nil _).mono ?_; rintro e w' ⟨rfl, rfl⟩)
    | (go_at_call 61; refine (apartNumbers_nil _).mono ?_; rintro e w' ⟨rfl, rfl⟩))
  refine C.out.mono ?_
  rintro e w1 ⟨rfl, hk⟩
  have hbk : w1.heap[gb]? = _ := hk.heap H.out.1.book (fun hx => (H.out.2 gb hx).1 rfl)
  have HB := Lib.hid (H.out.1.below.trans (hk.below H.out.1.below.size (fun b hb => (H.out.2 b hb).2)))
  clear c0 c1 c2 c3 c4 c5 c6 c7 c8 c9 c10 c11 c12 c13 c14 c15 c16 c17 c18 c19 c20 c21 c22 c23
  have d7 : w1.cell? ⟨gb, 7, none⟩ = some (.slice none 0 0) := by rw [Lib.cell_of_heap hbk]; rfl
  have d8 : w1.cell? ⟨gb, 8, none⟩ = some (.slice none 0 0) := by rw [Lib.cell_of_heap hbk]; rfl
  have d9 : w1.cell? ⟨gb, 9, none⟩ = some (.slice none 0 0) := by rw [Lib.cell_of_heap hbk]; rfl
  have d10 : w1.cell? ⟨gb, 10, none⟩ = some (.slice none 0 0) := by rw [Lib.cell_of_heap hbk]; rfl
  have d11 : w1.cell? ⟨gb, 11, none⟩ = some (.slice none 0 0) := by rw [Lib.cell_of_heap hbk]; rfl
  have d12 : w1.cell? ⟨gb, 12, none⟩ = some (.slice none 0 0) := by rw [Lib.cell_of_heap hbk]; rfl
  have d13 : w1.cell? ⟨gb, 13, none⟩ = some (.slice none 0 0) := by rw [Lib.cell_of_heap hbk]; rfl
  have d14 : w1.cell? ⟨gb, 14, none⟩ = some (.slice none 0 0) := by rw [Lib.cell_of_heap hbk]; rfl
  have d15 : w1.cell? ⟨gb, 15, none⟩ = some (.slice none 0 0) := by rw [Lib.cell_of_heap hbk]; rfl
  have d16 : w1.cell? ⟨gb, 16, none⟩ = some (.slice none 0 0) := by rw [Lib.cell_of_heap hbk]; rfl
  have d17 : w1.cell? ⟨gb, 17, none⟩ = some (.slice none 0 0) := by rw [Lib.cell_of_heap hbk]; rfl
  have d18 : w1.cell? ⟨gb, 18, none⟩ = some (.slice none 0 0) := by rw [Lib.cell_of_heap hbk]; rfl
  have d19 : w1.cell? ⟨gb, 19, none⟩ = some (.slice none 0 0) := by rw [Lib.cell_of_heap hbk]; rfl
  have d20 : w1.cell? ⟨gb, 20, none⟩ = some (.slice none 0 0) := by rw [Lib.cell_of_heap hbk]; rfl
  have d21 : w1.cell? ⟨gb, 21, none⟩ = some (.slice none 0 0) := by rw [Lib.cell_of_heap hbk]; rfl
  have d22 : w1.cell? ⟨gb, 22, none⟩ = some (.slice none 0 0) := by rw [Lib.cell_of_heap hbk]; rfl
  have d23 : w1.cell? ⟨gb, 23, none⟩ = some (.slice none 0 0) := by rw [Lib.cell_of_heap hbk]; rfl
  clear hk hbk
  go_wp2_with (first
    | (go_at_call 63; refine (apartRanges_nil _).mono ?_; rintro e w' ⟨rfl, rfl⟩)
    | (go_at_call 64; refine (apartTokens_nil _).mono ?_; rintro e w' ⟨rfl, rfl⟩)
    | (go_at_call 65; refine (apartItems_nil _).mono ?_; rintro e w' ⟨rfl, rfl⟩)
    | (go_at_call 66; refine (apartSeats_nil _).mono ?_; rintro e w' ⟨rfl, rfl⟩)
    | (go_at_call 67; refine (apartWeights_nil _).mono ?_; rintro e w' ⟨rfl, rfl⟩)
    | (go_at_call 68; refine (apartElements_nil _).mono ?_; rintro e w' ⟨rfl, rfl⟩)
    | (go_at_call 69; refine (apartSpots_nil _).mono ?_; rintro e w' ⟨rfl, rfl⟩)
    | (go_at_call 70; refine (apartWords_nil _).mono ?_; rintro e w' ⟨rfl, rfl⟩)
    | (go_at_call 71; refine (apartPairs_nil _).mono ?_; rintro e w' ⟨rfl, rfl⟩)
    | (go_at_call 72; refine (apartEntries_nil _).mono ?_; rintro e w' ⟨rfl, rfl⟩)
    | (go_at_call 73; refine (apartDocs_nil _).mono ?_; rintro e w' ⟨rfl, rfl⟩)
    | (go_at_call 74; refine (apartInfos_nil _).mono ?_; rintro e w' ⟨rfl, rfl⟩)
    | (go_at_call 75; refine (apartHits_nil _).mono ?_; rintro e w' ⟨rfl, rfl⟩)
    | (go_at_call 76; refine (apartNears_nil _).mono ?_; rintro e w' ⟨rfl, rfl⟩)
    | (go_at_call 77; refine (apartPosts_nil _).mono ?_; rintro e w' ⟨rfl, rfl⟩)
    | (go_at_call 78; refine (apartTerms_nil _).mono ?_; rintro e w' ⟨rfl, rfl⟩)
    | (go_at_call 79; refine (apartQueries_nil _).mono ?_; rintro e w' ⟨rfl, rfl⟩))
  go_ret
  exact ⟨rfl, HB.out⟩
end Go.Proofs.YtjbkpcdpdifpnaaGreatDoor
