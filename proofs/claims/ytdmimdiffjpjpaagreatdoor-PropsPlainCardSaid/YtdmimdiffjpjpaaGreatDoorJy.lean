/- props: numbers that are left (allOf, drop, from). -/
import Derived.Test.YtdmimdiffjpjpaaGreatDoorGz5
import Derived.OwnWalk
import Derived.Test.YtdmimdiffjpjpaaGreatDoorGz4
namespace Go.Proofs.YtdmimdiffjpjpaaGreatDoor
open Go Go.RowKit Go.Kt Go.Kt.Rg Go.Maps

/-- Each number's next one that may be left. -/
structure LftA (n : Nat) (a : Nat → Nat) : Prop where
  up : ∀ i, i < n → i ≤ a i ∧ a i < n
  gap : ∀ i, i < n → ∀ j, i ≤ j → j < a i → a j ≠ j
/-- In block b lie n numbers: P are those that are left. -/
def LftW (b n : Nat) (P : Nat → Prop) (w : World) : Prop :=
  ∃ a : Nat → Nat, LftA n a ∧ (∀ j, j < n → (P j ↔ a j = j)) ∧ ∀ i, i < n → w.cell? ⟨b, i, none⟩ = some (.int .i64 (a i : Nat)) ∧ w.frozen? ⟨b, i, none⟩ = false
theorem LftW.keep {b n : Nat} {P : Nat → Prop} {X : Nat → Prop} {A B : World} (h : LftW b n P A) (hk : Keep X A B) (hX : ¬ X b) : LftW b n P B := by
  obtain ⟨a, h1, h2, h3⟩ := h
  exact ⟨a, h1, h2, fun i hi => ⟨hk.cell (h3 i hi).1 hX, (hk.frozen (lt_of_cell (h3 i hi).1) hX).trans (h3 i hi).2⟩⟩
/-- a with y at x. -/
def updA (a : Nat → Nat) (x y : Nat) : Nat → Nat := fun i => if i = x then y else a i
theorem updA_drop {n : Nat} {a : Nat → Nat} (h : LftA n a) {i : Nat} (hi : i + 1 < n) : LftA n (updA a i (i + 1)) := by
  refine ⟨fun k hk => ?_, fun k hk j h1 h2 => ?_⟩
  · unfold updA
    split
    · omega
    · exact h.up k hk
  · unfold updA at h2 ⊢
    split
    · omega
    · rename_i hj
      split at h2
      · omega
      · exact h.gap k hk j h1 h2
theorem updA_half {n : Nat} {a : Nat → Nat} (h : LftA n a) {i : Nat} (hi : i < n) (hne : a i ≠ i) : LftA n (updA a i (a (a i))) ∧ i < a (a i) ∧ a (a i) < n := by
  have h1 := h.up i hi
  have h2 := h.up (a i) h1.2
  refine ⟨⟨fun k hk => ?_, fun k hk j h3 h4 => ?_⟩, by omega, h2.2⟩
  · unfold updA
    split
    · omega
    · exact h.up k hk
  · unfold updA at h4 ⊢
    split
    · omega
    · rename_i hj
      split at h4
      · rename_i hki
        by_cases h5 : j < a i
        · exact h.gap i hi j (by omega) h5
        · exact h.gap (a i) h1.2 j (by omega) h4
      · exact h.gap k hk j h3 h4
theorem cells_upd {b n : Nat} {a : Nat → Nat} {w : World} (h : ∀ i, i < n → w.cell? ⟨b, i, none⟩ = some (.int .i64 (a i : Nat)) ∧ w.frozen? ⟨b, i, none⟩ = false) {x : Nat} (hx : x < n) (y : Nat) :
    ∀ i, i < n → (w.setCell ⟨b, x, none⟩ (.int .i64 (y : Nat))).cell? ⟨b, i, none⟩ = some (.int .i64 (updA a x y i : Nat)) ∧ (w.setCell ⟨b, x, none⟩ (.int .i64 (y : Nat))).frozen? ⟨b, i, none⟩ = false := fun i hi => by
  refine ⟨?_, ?_⟩
  · unfold updA
    by_cases e : i = x
    · subst e
      rw [if_pos rfl]
      exact World.cell?_setCell_same _ _ _ (h i hi).1
    · rw [if_neg e]
      exact (World.cell?_setCell_other _ _ _ _ (by intro h; injection h with _ h2 _; exact e h2.symm)).trans (h i hi).1
  · rw [World.frozen?_setCell]
    exact (h i hi).2

set_option maxRecDepth 100000 in
theorem pdrop (b n i cap : Nat) (P : Nat → Prop) (w : World) (h : LftW b n P w) (hi : i + 1 < n) (hn : n ≤ 4611686018427387904) :
    Calls Tryz.prog 131 #[.slice (some ⟨b, 0, none⟩) n cap, .int .i64 (i : Nat)] w fun e w' => e = .returned (.tuple #[]) ∧ LftW b n (fun j => P j ∧ j ≠ i) w' ∧ Keep (fun x => x = b) w w' := by
  obtain ⟨a, h1, h2, h3⟩ := h
  have hc := (h3 i (by omega)).1
  have hf := (h3 i (by omega)).2
  have q1 : IntKind.i64.wrap ((i : Int) + 1) = ((i + 1 : Nat) : Int) := by rw [IntWalk.i64_in _ (by omega)]; omega
  have q2 : (i : Int) < (n : Int) := by omega
  have H := Lib.hid (And.intro h1 (And.intro h2 h3))
  clear h1 h2 h3
  go_enter Tryz.func131, Tryz.ntmps131
  go_wp2
  go_end0
  have e : ((i : Int) + 1) = ((i + 1 : Nat) : Int) := by omega
  rw [e]
  refine ⟨rfl, ⟨_, updA_drop H.out.1 hi, fun j hj => ?_, cells_upd H.out.2.2 (by omega) (i + 1)⟩, Keep.setCell (X := fun x => x = b) (Keep.refl _ w) (p := ⟨b, i, none⟩) rfl _⟩
  unfold updA
  by_cases e2 : j = i
  · rw [if_pos e2]; exact ⟨fun h => absurd e2 h.2, fun h => by omega⟩
  · rw [if_neg e2]; exact ⟨fun h => (H.out.2.1 j hj).1 h.1, fun h => ⟨(H.out.2.1 j hj).2 h, e2⟩⟩

/-- What from keeps. -/
def FromI (b n i : Nat) (P : Nat → Prop) (w : World) (i' : Nat) (wr : World) : Prop :=
  i ≤ i' ∧ i' < n ∧ (∀ j, i ≤ j → j < i' → ¬ P j) ∧ LftW b n P wr ∧ Keep (fun x => x = b) w wr
/-- What from answers. -/
def FromOut (b n i : Nat) (P : Nat → Prop) (w : World) (e : Ending) (w' : World) : Prop :=
  ∃ j : Nat, e = .returned (.int .i64 (j : Nat)) ∧ FromI b n i P w j w' ∧ P j

set_option maxRecDepth 100000 in
set_option maxHeartbeats 2000000 in
theorem pfrom (b n i cap : Nat) (P : Nat → Prop) (w : World) (h : LftW b n P w) (hi : i < n) (_hn : n ≤ 4611686018427387904) :
    Calls Tryz.prog 130 #[.slice (some ⟨b, 0, none⟩) n cap, .int .i64 (i : Nat)] w fun e w' => FromOut b n i P w e w' := by
  have H := Lib.hid h
  clear h
  go_enter Tryz.func130, Tryz.ntmps130
  go_wp2_with fail
  go_loopw [1] (fun x wr => ∃ i' : Nat, x = .int .i64 i' ∧ FromI b n i P w i' wr) (fun x _ => n - (RowKit.intOf x).toNat)
  case atStart => exact ⟨i, rfl, Nat.le_refl _, hi, fun j h1 h2 => by omega, H.out, Keep.refl _ _⟩
  case round =>
    obtain ⟨k, rfl, hI⟩ := hrel
    obtain ⟨h1, h2, h3, ⟨a, ha, hP, hc⟩, h5⟩ := hI
    have ck := (hc k h2).1
    have fk := (hc k h2).2
    have q2 : (k : Int) < (n : Int) := by omega
    have HI := Lib.hid (And.intro h1 (And.intro h3 (And.intro ha (And.intro hP (And.intro hc h5)))))
    by_cases e : a k = k
    · have b1 : (((a k : Nat) : Int) != (k : Int)) = false := by rw [e]; simp
      clear h1 h3 ha hP hc h5 e
      go_wp2
      go_ret
      have e2 : a k = k := by
        have : ((a k : Nat) : Int) = (k : Int) := by simpa using b1
        omega
      exact ⟨k, rfl, ⟨HI.out.1, h2, HI.out.2.1, ⟨a, HI.out.2.2.1, HI.out.2.2.2.1, HI.out.2.2.2.2.1⟩, HI.out.2.2.2.2.2⟩, (HI.out.2.2.2.1 k h2).2 e2⟩
    · have b1 : (((a k : Nat) : Int) != (k : Int)) = true := by simp; omega
      have hu := ha.up k h2
      obtain ⟨m, hm⟩ : ∃ m, a k = m := ⟨_, rfl⟩
      have cm := (hc (a k) hu.2).1
      obtain ⟨z, hz⟩ : ∃ z, a (a k) = z := ⟨_, rfl⟩
      have hh := updA_half ha h2 e
      have HH := Lib.hid hh
      have HE := Lib.hid (And.intro e (And.intro hm hz))
      rw [hz] at cm
      rw [hm] at cm ck b1
      have q3 : (m : Int) < (n : Int) := by omega
      clear h1 h3 ha hP hc h5 e hu hh hm hz
      go_wp2_with fail
      obtain ⟨h1, h3, ha, hP, hc, h5⟩ := HI.out
      obtain ⟨hh1, hh2, hh3⟩ := HH.out
      obtain ⟨e, hm, hz⟩ := HE.out
      rw [hz] at hh1 hh2 hh3
      refine ⟨⟨z, rfl, by omega, hh3, fun j hj1 hj2 => ?_, ⟨_, hh1, fun j hj => ?_, cells_upd hc h2 z⟩, Keep.setCell (X := fun x => x = b) h5 (p := ⟨b, k, none⟩) rfl _⟩, by simp [RowKit.intOf]; omega⟩
      · by_cases e1 : j < k
        · exact h3 j hj1 e1
        · rw [hP j (by omega)]
          by_cases e2 : j = k
          · rw [e2]; exact e
          · have hz2 : updA a k z k = z := if_pos rfl
            have := hh1.gap k h2 j (by omega) (by rw [hz2]; exact hj2)
            rwa [show updA a k z j = a j from if_neg e2] at this
      · rw [hP j hj]
        by_cases e2 : j = k
        · rw [e2, show updA a k z k = z from if_pos rfl]
          exact ⟨fun h => absurd h e, fun h => by omega⟩
        · rw [show updA a k z j = a j from if_neg e2]

set_option maxRecDepth 100000 in
set_option maxHeartbeats 2000000 in
theorem pallOf (n : Nat) (w : World) (h0 : 0 < n) (hn : n ≤ 16777216) :
    Calls Tryz.prog 127 #[.int .i64 (n : Nat)] w fun e w' => e = .returned (.slice (some ⟨w.heap.size, 0, none⟩) n n) ∧ LftW w.heap.size n (fun _ => True) w' ∧ Below w.heap.size w w' ∧ w.heap.size < w'.heap.size := by
  obtain ⟨h, hh⟩ : ∃ h, w.heap.size = h := ⟨_, rfl⟩
  rw [hh]
  go_enter Tryz.func127, Tryz.ntmps127
  go_wp2_with (at_make; refine wpList_make_full _ rfl _ _ _ rfl w.heap.size 3 _ (.int .i64 0) 1 Tryz.underlying194 rfl rfl rfl .i64 .i64 _ _ n rfl rfl rfl rfl (by show 8 * n ≤ _; omega) (by unfold maxLen; omega) (Nat.le_refl _) ?_; intro w1 hown1 hgr1)
  have H1 : Hid (∃ C : Array Value, Below h w w1 ∧ w1.heap[h]? = some (.cells C 3 (0, 0)) ∧ C.size = n) := Lib.hid (by
    obtain ⟨_, h2⟩ := hown1
    rcases h2 with ⟨h2, _⟩ | ⟨g2, c2, C, e2, _, h3, _, _, h4, _⟩
    · cases h2
    · injection e2 with e3 _ e4
      injection e3 with e3
      injection e3 with e3 _
      subst e3 e4
      rw [hh] at h3
      exact ⟨C, ⟨hgr1.os, hgr1.tape, hgr1.output, hgr1.size, fun x hx => hgr1.block x (by omega) (fun e => by cases e)⟩, h3, by omega⟩)
  clear hown1 hgr1
  go_loopw [9] (fun vk wr => ∃ (k : Nat) (C : Array Value), vk = .int .i64 k ∧ k ≤ n ∧ Hid (Below h w wr ∧ wr.heap[h]? = some (.cells C 3 (0, 0)) ∧ C.size = n ∧ ∀ i, i < k → C[i]? = some (.int .i64 (i : Nat)))) (fun vk _ => n - (RowKit.intOf vk).toNat)
  case atStart =>
    obtain ⟨C, a1, a2, a3⟩ := H1.out
    exact ⟨0, C, rfl, by omega, Lib.hid ⟨a1, a2, a3, fun i hi => by omega⟩⟩
  case round =>
    clear H1
    obtain ⟨k, C, rfl, hk, HI⟩ := hrel
    by_cases hlt : k < n
    · have hlt' : (k : Int) < (n : Int) := by omega
      have ck : wr.cell? ⟨h, k, none⟩ = some C[k]! := by
        rw [Lib.cell_of_heap HI.out.2.1]
        have := HI.out.2.2.1
        rw [getElem!_pos C k (by omega)]
        simp [show k < C.size by omega]
      have fk : wr.frozen? ⟨h, k, none⟩ = false := Lib.frozen_of_heap HI.out.2.1 _
      have hnew := heap_setCell_same wr h k _ _ (.int .i64 (k : Nat)) HI.out.2.1
      have HN := Lib.hid hnew
      clear hnew hlt
      go_wp2_with fail
      refine ⟨⟨k + 1, _, by go_num, by omega, Lib.hid ⟨HI.out.1.setCell (Nat.le_refl _) _, HN.out, by simp [HI.out.2.2.1], fun i hi => ?_⟩⟩, by simp [RowKit.intOf]; omega⟩
      rw [Array.getElem?_setIfInBounds]
      by_cases e : k = i
      · subst e
        rw [if_pos rfl, if_pos (by rw [HI.out.2.2.1]; omega)]
      · rw [if_neg e]
        exact HI.out.2.2.2 i (by omega)
    · have hkn : k = n := by omega
      subst hkn
      have hlt' : ¬ (k : Int) < (k : Int) := by omega
      clear hlt
      go_wp2
      go_ret
      refine ⟨rfl, ⟨fun i => i, ⟨fun i hi => ⟨Nat.le_refl _, hi⟩, fun i hi j h1 h2 => by omega⟩, fun j hj => ⟨fun _ => rfl, fun _ => trivial⟩, fun i hi => ⟨?_, Lib.frozen_of_heap HI.out.2.1 _⟩⟩, HI.out.1, (Array.getElem?_eq_some_iff.1 HI.out.2.1).1⟩
      rw [Lib.cell_of_heap HI.out.2.1]
      exact HI.out.2.2.2 i hi
end Go.Proofs.YtdmimdiffjpjpaaGreatDoor
