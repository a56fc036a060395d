/- The kit's look at an error: its number, its place. -/
import Derived.Test.YtfpfpaaojdodnaaGreatDoorEc
import Derived.Test.YtfpfpaaojdodnaaGreatDoorGz15
import Derived.Deep.RegionHeldLaw
namespace Go.Proofs.YtfpfpaaojdodnaaGreatDoor
open Go Go.RowKit Go.Kt

set_option maxRecDepth 100000 in
theorem num_fault (k l a : Int) (w : World) (h1 : 1 ≤ k) (h25 : k ≤ 25) :
    Calls Tryz.prog 91 #[.iface 150 (fv k l a)] w fun e w' => e = .returned (.int .i64 k) ∧ Below w.heap.size w w' := by
  go_enter Tryz.func91, Tryz.ntmps91
  go_wp2
  go_loopw [3, 4] (fun f v wr => ∃ (i : Nat) (c : Int), 1 ≤ i ∧ i ≤ 26 ∧ v = .int .i64 i ∧ f = .int .i64 c ∧ ((i : Int) ≤ k ∧ c = 0 ∨ k < i ∧ c = k) ∧ Below w.heap.size w wr) (fun _ v _ => 26 - (RowKit.intOf v).toNat)
  case atStart => exact ⟨1, 0, by omega, by omega, rfl, rfl, .inl ⟨by omega, rfl⟩, Below.refl _ _⟩
  case round =>
    obtain ⟨i, c, hi1, hi, rfl, rfl, hc, hb⟩ := hrel
    have hz := hb.size
    by_cases hlt : i ≤ 25
    · have C := Lib.hid (is_fault k l a i wr)
      have HC := Lib.hid hc
      by_cases hk : k = i
      · have hkb : (k == (i : Int)) = true := by simp [hk]
        have c0 : c = 0 := by rcases hc with h | h; exact h.2; omega
        have HK := Lib.hid hk
        subst c0
        rw [hkb] at C
        clear hkb hk hc
        go_wp2_with fail
        refine C.out.mono ?_
        rintro e w1 ⟨rfl, hb1⟩
        go_wp2
        go_roundw
        case rel => exact ⟨i + 1, i, by omega, by omega, by go_num, rfl, .inr ⟨by have := HK.out; omega, HK.out.symm⟩, hb.trans (hb1.mono hz)⟩
        case measure => simp [RowKit.intOf]; omega
      · have hkb : (k == (i : Int)) = false := by simp [hk]
        have HK := Lib.hid hk
        rw [hkb] at C
        clear hkb hk hc
        go_wp2_with fail
        refine C.out.mono ?_
        rintro e w1 ⟨rfl, hb1⟩
        go_wp2
        go_roundw
        case rel => exact ⟨i + 1, c, by omega, by omega, by go_num, rfl, by have := HK.out; have := HC.out; omega, hb.trans (hb1.mono hz)⟩
        case measure => simp [RowKit.intOf]; omega
    · have hck : c = k := by rcases hc with h | h; omega; exact h.2
      have C := Lib.hid (is_fault k l a 0 wr)
      have hkb : (k == (0 : Int)) = false := by simp; omega
      have C1 := C
      rw [hkb] at C1
      clear C hc
      subst hck
      go_wp2_with fail
      refine C1.out.mono ?_
      rintro e w1 ⟨rfl, hb1⟩
      go_wp2
      go_ret
      exact ⟨rfl, hb.trans (hb1.mono hz)⟩

abbrev ErrT (w : World) : Prop := w.cell? ⟨1, 0, none⟩ = some (.iface 344 (.agg #[tyH 25]))
theorem ErrT.below {w w' : World} (h : ErrT w) {n : Nat} (hn : 1 < n) (hb : Below n w w') : ErrT w' := (hb.cell (p := ⟨1, 0, none⟩) hn).trans h

theorem pl_step {A W W' : World} {c0 c1 c2 : Addr} {v0 v1 v2 : Value} (h : W.cell? c0 = some v0 ∧ W.cell? c1 = some v1 ∧ W.cell? c2 = some v2 ∧ Below A.heap.size A W) (k : Below W.heap.size W W') :
    W'.cell? c0 = some v0 ∧ W'.cell? c1 = some v1 ∧ W'.cell? c2 = some v2 ∧ Below A.heap.size A W' :=
  ⟨(k.cell (lt_of_cell h.1)).trans h.1, (k.cell (lt_of_cell h.2.1)).trans h.2.1, (k.cell (lt_of_cell h.2.2.1)).trans h.2.2.1, h.2.2.2.trans (k.mono h.2.2.2.size)⟩
theorem pl_drew {A W : World} {c0 c1 c2 : Addr} {v0 v1 v2 : Value} (h : W.cell? c0 = some v0 ∧ W.cell? c1 = some v1 ∧ W.cell? c2 = some v2 ∧ Below A.heap.size A W) :
    W.drew.cell? c0 = some v0 ∧ W.drew.cell? c1 = some v1 ∧ W.drew.cell? c2 = some v2 ∧ Below A.heap.size A W.drew := ⟨h.1, h.2.1, h.2.2.1, h.2.2.2.drew⟩

theorem pl_last {P Q R : Prop} {A W : World} (h : P ∧ Q ∧ R ∧ Below A.heap.size A W) : Below A.heap.size A W := h.2.2.2

set_option maxRecDepth 100000 in
theorem place_fault (k l a : Int) (w : World) (h1 : 1 ≤ k) (h25 : k ≤ 25) (hE : ErrT w) :
    Calls Tryz.prog 93 #[.iface 150 (fv k l a)] w fun e w' => e = .returned (.tuple #[.int .i64 l, .int .i64 a, .bool true]) ∧ Below w.heap.size w w' := by
  have hlt : 1 < w.heap.size := lt_of_cell hE
  obtain ⟨W, hW⟩ : ∃ W, w.alloc (.cells #[.int .i64 0, .int .i64 0, .int .i64 0] 150 (0, 0)) = W := ⟨_, rfl⟩
  have hbW : Below w.heap.size w W := by rw [← hW]; exact (Below.refl _ w).alloc (Nat.le_refl _) _
  have hgW : W.heap[w.heap.size]? = some (.cells #[.int .i64 0, .int .i64 0, .int .i64 0] 150 (0, 0)) := by rw [← hW]; exact World.alloc_heap_new w _
  have C := Lib.hid (as_fault k l a 0 0 0 w.heap.size W (hE.below hlt hbW) hgW)
  have hWe := Lib.hid hW
  clear hE hgW hW
  go_enter Tryz.func93, Tryz.ntmps93
  go_wp2_with fail
  rw [hWe.out]
  refine C.out.mono ?_
  rintro e w1 ⟨rfl, hg1, hk1⟩
  have hz1 := hk1.size
  have hzW : w.heap.size < W.heap.size := by have := hWe.out; rw [← this]; simp
  have hc0 : w1.cell? ⟨w.heap.size, 0, none⟩ = some (.int .i64 k) := by rw [World.cell?, hg1]; rfl
  have hc1 : w1.cell? ⟨w.heap.size, 1, none⟩ = some (.int .i64 l) := by rw [World.cell?, hg1]; rfl
  have hc2 : w1.cell? ⟨w.heap.size, 2, none⟩ = some (.int .i64 a) := by rw [World.cell?, hg1]; rfl
  have hb1 : Below w.heap.size w w1 := hbW.trans (hk1.below (by omega) (fun b hb => by omega))
  have HB := Lib.hid hb1
  have kk : (k == k) = true := by simp
  clear hg1 hk1 hbW hb1
  go_wp2
  have cN := Lib.hid (fun W => num_fault k l a W h1 h25)
  go_region_held_law (fun w' => w'.cell? ⟨w.heap.size, 0, none⟩ = some (.int .i64 k) ∧ w'.cell? ⟨w.heap.size, 1, none⟩ = some (.int .i64 l) ∧ w'.cell? ⟨w.heap.size, 2, none⟩ = some (.int .i64 a) ∧ Below w1.heap.size w1 w')
    (first | assumption | exact pl_drew ⟨hc0, hc1, hc2, Below.refl _ _⟩ | exact pl_drew (by assumption) | exact pl_step (by assumption) (by assumption))
    ((go_at_call 91; refine (cN.out _).mono ?_; rintro e w' ⟨rfl, hbn⟩))
  all_goals
    go_wp2
    go_ret3
    exact ⟨rfl, HB.out.trans (Below.mono (pl_last (by assumption)) HB.out.size)⟩

set_option maxRecDepth 100000 in
theorem at_fault (n l a : Int) (w : World) (h1 : 1 ≤ n) (h25 : n ≤ 25) (hE : ErrT w) :
    Calls Tryz.prog 43 #[.iface 150 (fv n l a), .int .i64 n, .int .i64 l, .int .i64 a] w fun e w' => e = .returned (.bool true) ∧ Below w.heap.size w w' := by
  have c1 := Lib.hid (place_fault n l a w h1 h25 hE)
  have c2 := Lib.hid (fun W => num_fault n l a W h1 h25)
  have n0 : (n == 0) = false := by simp; omega
  have e1 : (n == n) = true := by simp
  have e2 : (l == l) = true := by simp
  have e3 : (a == a) = true := by simp
  clear hE
  go_enter Tryz.func43, Tryz.ntmps43
  go_wp2_with fail
  refine c1.out.mono ?_
  rintro e w1 ⟨rfl, hb1⟩
  have hz1 := hb1.size
  go_wp2_with fail
  refine (c2.out _).mono ?_
  rintro e w2 ⟨rfl, hb2⟩
  go_wp2
  go_ret
  exact ⟨rfl, hb1.trans (hb2.mono hz1)⟩
end Go.Proofs.YtfpfpaaojdodnaaGreatDoor
