/- Parts of the proof of what the last text says. -/
import Derived.Test.YthhepebkfokddaaGreatDoorGx8
import Derived.OwnWalk
import Derived.Test.YthhepebkfokddaaGreatDoorGx9
import Derived.Maps.Own
namespace Go.Proofs.YthhepebkfokddaaGreatDoor
open Go Go.RowKit Go.Kt Go.Kt.Rg Go.Maps
structure LftA (n : Nat) (a : Nat → Nat) : Prop where
 up : ∀ i, i < n → i ≤ a i ∧ a i < n
 gap : ∀ i, i < n → ∀ j, i ≤ j → j < a i → a j ≠ j
def LftW (b n : Nat) (P : Nat → Prop) (w : World) : Prop :=
 ∃ a : Nat → Nat, LftA n a ∧ (∀ j, j < n → (P j ↔ a j = j)) ∧ ∀ i, i < n → w.cell? ⟨b, i, none⟩ = some (.int .i64 (a i : Nat)) ∧ w.frozen? ⟨b, i, none⟩ = false
theorem LftW.keep {b n : Nat} {P : Nat → Prop} {X : Nat → Prop} {A B : World} (h : LftW b n P A) (hk : Keep X A B) (hX : ¬ X b) : LftW b n P B := by
 obtain ⟨a, h1, h2, h3⟩ := h
 exact ⟨a, h1, h2, fun i hi => ⟨hk.cell (h3 i hi).1 hX, (hk.frozen (lt_of_cell (h3 i hi).1) hX).trans (h3 i hi).2⟩⟩
def updA (a : Nat → Nat) (x y : Nat) : Nat → Nat := fun i => if i = x then y else a i
theorem updA_drop {n : Nat} {a : Nat → Nat} (h : LftA n a) {i : Nat} (hi : i + 1 < n) : LftA n (updA a i (i + 1)) := by
 refine ⟨fun k hk => ?_, fun k hk j h1 h2 => ?_⟩
 ·unfold updA
  split
  ·omega
  ·exact h.up k hk
 ·unfold updA at h2 ⊢
  split
  ·omega
  ·rename_i hj
   split at h2
   ·omega
   ·exact h.gap k hk j h1 h2
theorem updA_half {n : Nat} {a : Nat → Nat} (h : LftA n a) {i : Nat} (hi : i < n) (hne : a i ≠ i) : LftA n (updA a i (a (a i))) ∧ i < a (a i) ∧ a (a i) < n := by
 have h1 := h.up i hi
 have h2 := h.up (a i) h1.2
 refine ⟨⟨fun k hk => ?_, fun k hk j h3 h4 => ?_⟩, by omega, h2.2⟩
 ·unfold updA
  split
  ·omega
  ·exact h.up k hk
 ·unfold updA at h4 ⊢
  split
  ·omega
  ·rename_i hj
   split at h4
   ·rename_i hki
    by_cases h5 : j < a i
    ·exact h.gap i hi j (by omega) h5
    ·exact h.gap (a i) h1.2 j (by omega) h4
   ·exact h.gap k hk j h3 h4
theorem cells_upd {b n : Nat} {a : Nat → Nat} {w : World} (h : ∀ i, i < n → w.cell? ⟨b, i, none⟩ = some (.int .i64 (a i : Nat)) ∧ w.frozen? ⟨b, i, none⟩ = false) {x : Nat} (hx : x < n) (y : Nat) :
 ∀ i, i < n → (w.setCell ⟨b, x, none⟩ (.int .i64 (y : Nat))).cell? ⟨b, i, none⟩ = some (.int .i64 (updA a x y i : Nat)) ∧ (w.setCell ⟨b, x, none⟩ (.int .i64 (y : Nat))).frozen? ⟨b, i, none⟩ = false := fun i hi => by
 refine ⟨?_, ?_⟩
 ·unfold updA
  by_cases e : i = x
  ·subst e
   rw [if_pos rfl]
   exact World.cell?_setCell_same _ _ _ (h i hi).1
  ·rw [if_neg e]
   exact (World.cell?_setCell_other _ _ _ _ (by intro h; injection h with _ h2 _; exact e h2.symm)).trans (h i hi).1
 ·rw [World.frozen?_setCell]
  exact (h i hi).2
set_option maxRecDepth 100000 in
theorem pdrop (b n i cap : Nat) (P : Nat → Prop) (w : World) (h : LftW b n P w) (hi : i + 1 < n) (hn : n ≤ 4611686018427387904) :
 Calls Tryz.prog 91 #[.slice (some ⟨b, 0, none⟩) n cap, .int .i64 (i : Nat)] w fun e w' => e = .returned (.tuple #[]) ∧ LftW b n (fun j => P j ∧ j ≠ i) w' ∧ Keep (fun x => x = b) w w' := by
 obtain ⟨a, h1, h2, h3⟩ := h
 have hc := (h3 i (by omega)).1
 have hf := (h3 i (by omega)).2
 have q1 : IntKind.i64.wrap ((i : Int) + 1) = ((i + 1 : Nat) : Int) := by rw [IntWalk.i64_in _ (by omega)]; omega
 have q2 : (i : Int) < (n : Int) := by omega
 have H := Lib.hid (And.intro h1 (And.intro h2 h3))
 clear h1 h2 h3
 go_enter Tryz.func91, Tryz.ntmps91
 go_wp2
 go_end0
 have e : ((i : Int) + 1) = ((i + 1 : Nat) : Int) := by omega
 rw [e]
 refine ⟨rfl, ⟨_, updA_drop H.out.1 hi, fun j hj => ?_, cells_upd H.out.2.2 (by omega) (i + 1)⟩, Keep.setCell (X := fun x => x = b) (Keep.refl _ w) (p := ⟨b, i, none⟩) rfl _⟩
 unfold updA
 by_cases e2 : j = i
 ·rw [if_pos e2]; exact ⟨fun h => absurd e2 h.2, fun h => by omega⟩
 ·rw [if_neg e2]; exact ⟨fun h => (H.out.2.1 j hj).1 h.1, fun h => ⟨(H.out.2.1 j hj).2 h, e2⟩⟩
def FromI (b n i : Nat) (P : Nat → Prop) (w : World) (i' : Nat) (wr : World) : Prop :=
 i ≤ i' ∧ i' < n ∧ (∀ j, i ≤ j → j < i' → ¬ P j) ∧ LftW b n P wr ∧ Keep (fun x => x = b) w wr
def FromOut (b n i : Nat) (P : Nat → Prop) (w : World) (e : Ending) (w' : World) : Prop :=
 ∃ j : Nat, e = .returned (.int .i64 (j : Nat)) ∧ FromI b n i P w j w' ∧ P j
set_option maxRecDepth 100000 in
set_option maxHeartbeats 2000000 in
theorem pfrom (b n i cap : Nat) (P : Nat → Prop) (w : World) (h : LftW b n P w) (hi : i < n) (_hn : n ≤ 4611686018427387904) :
 Calls Tryz.prog 90 #[.slice (some ⟨b, 0, none⟩) n cap, .int .i64 (i : Nat)] w fun e w' => FromOut b n i P w e w' := by
 have H := Lib.hid h
 clear h
 go_enter Tryz.func90, Tryz.ntmps90
 go_wp2_with fail
 go_loopw [1] (fun x wr => ∃ i' : Nat, x = .int .i64 i' ∧ FromI b n i P w i' wr) (fun x _ => n - (RowKit.intOf x).toNat)
 case atStart => exact ⟨i, rfl, Nat.le_refl _, hi, fun j h1 h2 => by omega, H.out, Keep.refl _ _⟩
 case round =>
  obtain ⟨k, rfl, hI⟩ := hrel
  obtain ⟨h1, h2, h3, ⟨a, ha, hP, hc⟩, h5⟩ := hI
  have ck := (hc k h2).1
  have fk := (hc k h2).2
  have q2 : (k : Int) < (n : Int) := by omega
  have HI := Lib.hid (And.intro h1 (And.intro h3 (And.intro ha (And.intro hP (And.intro hc h5)))))
  by_cases e : a k = k
  ·have b1 : (((a k : Nat) : Int) != (k : Int)) = false := by rw [e]; simp
   clear h1 h3 ha hP hc h5 e
   go_wp2
   go_ret
   have e2 : a k = k := by
    have : ((a k : Nat) : Int) = (k : Int) := by simpa using b1
    omega
   exact ⟨k, rfl, ⟨HI.out.1, h2, HI.out.2.1, ⟨a, HI.out.2.2.1, HI.out.2.2.2.1, HI.out.2.2.2.2.1⟩, HI.out.2.2.2.2.2⟩, (HI.out.2.2.2.1 k h2).2 e2⟩
  ·have b1 : (((a k : Nat) : Int) != (k : Int)) = true := by simp; omega
   have hu := ha.up k h2
   obtain ⟨m, hm⟩ : ∃ m, a k = m := ⟨_, rfl⟩
   have cm := (hc (a k) hu.2).1
   obtain ⟨z, hz⟩ : ∃ z, a (a k) = z := ⟨_, rfl⟩
   have hh := updA_half ha h2 e
   have HH := Lib.hid hh
   have HE := Lib.hid (And.intro e (And.intro hm hz))
   rw [hz] at cm
   rw [hm] at cm ck b1
   have q3 : (m : Int) < (n : Int) := by omega
   clear h1 h3 ha hP hc h5 e hu hh hm hz
   go_wp2_with fail
   obtain ⟨h1, h3, ha, hP, hc, h5⟩ := HI.out
   obtain ⟨hh1, hh2, hh3⟩ := HH.out
   obtain ⟨e, hm, hz⟩ := HE.out
   rw [hz] at hh1 hh2 hh3
   refine ⟨⟨z, rfl, by omega, hh3, fun j hj1 hj2 => ?_, ⟨_, hh1, fun j hj => ?_, cells_upd hc h2 z⟩, Keep.setCell (X := fun x => x = b) h5 (p := ⟨b, k, none⟩) rfl _⟩, by simp [RowKit.intOf]; omega⟩
   ·by_cases e1 : j < k
    ·exact h3 j hj1 e1
    ·rw [hP j (by omega)]
     by_cases e2 : j = k
     ·rw [e2]; exact e
     ·have hz2 : updA a k z k = z := if_pos rfl
      have := hh1.gap k h2 j (by omega) (by rw [hz2]; exact hj2)
      rwa [show updA a k z j = a j from if_neg e2] at this
   ·rw [hP j hj]
    by_cases e2 : j = k
    ·rw [e2, show updA a k z k = z from if_pos rfl]
     exact ⟨fun h => absurd h e, fun h => by omega⟩
    ·rw [show updA a k z j = a j from if_neg e2]
set_option maxRecDepth 100000 in
set_option maxHeartbeats 2000000 in
theorem pallOf (n : Nat) (w : World) (h0 : 0 < n) (hn : n ≤ 16777216) :
 Calls Tryz.prog 87 #[.int .i64 (n : Nat)] w fun e w' => e = .returned (.slice (some ⟨w.heap.size, 0, none⟩) n n) ∧ LftW w.heap.size n (fun _ => True) w' ∧ Below w.heap.size w w' ∧ w.heap.size < w'.heap.size := by
 obtain ⟨h, hh⟩ : ∃ h, w.heap.size = h := ⟨_, rfl⟩
 rw [hh]
 go_enter Tryz.func87, Tryz.ntmps87
 go_wp2_with (at_make; refine wpList_make_full _ rfl _ _ _ rfl w.heap.size 3 _ (.int .i64 0) 1 Tryz.underlying137 rfl rfl rfl .i64 .i64 _ _ n rfl rfl rfl rfl (by show 8 * n ≤ _; omega) (by unfold maxLen; omega) (Nat.le_refl _) ?_; intro w1 hown1 hgr1)
 have H1 : Hid (∃ C : Array Value, Below h w w1 ∧ w1.heap[h]? = some (.cells C 3 (0, 0)) ∧ C.size = n) := Lib.hid (by
  obtain ⟨_, h2⟩ := hown1
  rcases h2 with ⟨h2, _⟩ | ⟨g2, c2, C, e2, _, h3, _, _, h4, _⟩
  ·cases h2
  ·injection e2 with e3 _ e4
   injection e3 with e3
   injection e3 with e3 _
   subst e3 e4
   rw [hh] at h3
   exact ⟨C, ⟨hgr1.os, hgr1.tape, hgr1.output, hgr1.size, fun x hx => hgr1.block x (by omega) (fun e => by cases e)⟩, h3, by omega⟩)
 clear hown1 hgr1
 go_loopw [9] (fun vk wr => ∃ (k : Nat) (C : Array Value), vk = .int .i64 k ∧ k ≤ n ∧ Hid (Below h w wr ∧ wr.heap[h]? = some (.cells C 3 (0, 0)) ∧ C.size = n ∧ ∀ i, i < k → C[i]? = some (.int .i64 (i : Nat)))) (fun vk _ => n - (RowKit.intOf vk).toNat)
 case atStart =>
  obtain ⟨C, a1, a2, a3⟩ := H1.out
  exact ⟨0, C, rfl, by omega, Lib.hid ⟨a1, a2, a3, fun i hi => by omega⟩⟩
 case round =>
  clear H1
  obtain ⟨k, C, rfl, hk, HI⟩ := hrel
  by_cases hlt : k < n
  ·have hlt' : (k : Int) < (n : Int) := by omega
   have ck : wr.cell? ⟨h, k, none⟩ = some C[k]! := by
    rw [Lib.cell_of_heap HI.out.2.1]
    have := HI.out.2.2.1
    rw [getElem!_pos C k (by omega)]
    simp [show k < C.size by omega]
   have fk : wr.frozen? ⟨h, k, none⟩ = false := Lib.frozen_of_heap HI.out.2.1 _
   have hnew := heap_setCell_same wr h k _ _ (.int .i64 (k : Nat)) HI.out.2.1
   have HN := Lib.hid hnew
   clear hnew hlt
   go_wp2_with fail
   refine ⟨⟨k + 1, _, by go_num, by omega, Lib.hid ⟨HI.out.1.setCell (Nat.le_refl _) _, HN.out, by simp [HI.out.2.2.1], fun i hi => ?_⟩⟩, by simp [RowKit.intOf]; omega⟩
   rw [Array.getElem?_setIfInBounds]
   by_cases e : k = i
   ·subst e
    rw [if_pos rfl, if_pos (by rw [HI.out.2.2.1]; omega)]
   ·rw [if_neg e]
    exact HI.out.2.2.2 i (by omega)
  ·have hkn : k = n := by omega
   subst hkn
   have hlt' : ¬ (k : Int) < (k : Int) := by omega
   clear hlt
   go_wp2
   go_ret
   refine ⟨rfl, ⟨fun i => i, ⟨fun i hi => ⟨Nat.le_refl _, hi⟩, fun i hi j h1 h2 => by omega⟩, fun j hj => ⟨fun _ => rfl, fun _ => trivial⟩, fun i hi => ⟨?_, Lib.frozen_of_heap HI.out.2.1 _⟩⟩, HI.out.1, (Array.getElem?_eq_some_iff.1 HI.out.2.1).1⟩
   rw [Lib.cell_of_heap HI.out.2.1]
   exact HI.out.2.2.2 i hi
end Go.Proofs.YthhepebkfokddaaGreatDoor
namespace Go.Proofs.YthhepebkfokddaaGreatDoor
open Go Go.RowKit Go.Kt Go.Kt.Rg Go.Maps
theorem ptsA_ok : ∀ (ws : List (List UInt8)) (acc l : List Nat), ptsA acc ws = (0, l) → (∀ x ∈ acc, Lib.validRune (x : Int) = true) → l.length = acc.length + ws.length ∧ ∀ x ∈ l, Lib.validRune (x : Int) = true
 | [], acc, l, h, ha => by
   rw [ptsA] at h
   obtain ⟨_, rfl⟩ := Prod.mk.inj h
   exact ⟨by simp, ha⟩
 | x :: t, acc, l, h, ha => by
   cases hx : numP x with
   | none => rw [ptsA_no hx] at h; cases h
   | some n =>
     cases hv : Lib.validRune (n : Int) with
     | false => rw [ptsA_bad hx hv] at h; cases h
     | true =>
       rw [ptsA_go hx hv] at h
       obtain ⟨h1, h2⟩ := ptsA_ok t (acc ++ [n]) l h (fun y hy => by
        rcases List.mem_append.1 hy with hy | hy
        ·exact ha y hy
        ·rw [List.mem_singleton.1 hy]; exact hv)
       exact ⟨by rw [h1]; simp; omega, h2⟩
theorem ptsP_ok {ws : List (List UInt8)} {l : List Nat} (h : ptsP ws = (0, l)) : l.length = ws.length ∧ ws.length ≤ 9 ∧ ∀ x ∈ l, Lib.validRune (x : Int) = true := by
 unfold ptsP at h
 by_cases h9 : 9 < ws.length
 ·rw [if_pos h9] at h; cases h
 ·rw [if_neg h9] at h
  have := ptsA_ok ws [] l h (fun _ h => by cases h)
  exact ⟨by simpa using this.1, by omega, this.2⟩
theorem valid_le {x : Nat} (h : Lib.validRune (x : Int) = true) : x ≤ 1114111 := by
 simp [Lib.validRune] at h
 omega
def foldP (S : RdS) (ws : List (List UInt8)) : Nat × RdS := match ptsP ws with
 | (0, x :: t) => if (S.fs x).isSome then (13, S) else (0, { S with fs := updN S.fs x t })
 | (no, _) => (no, S)
def dcmP (line : Nat) (S : RdS) (ws : List (List UInt8)) : Nat × RdS := match ptsP ws with
 | (0, x :: t) => if (S.ds x).isSome then (13, S) else if hanP x then (1, S) else (0, { S with ds := updN S.ds x t, ls := updN S.ls x line })
 | (no, _) => (no, S)
theorem foldP_no {S : RdS} {ws : List (List UInt8)} {no : Nat} {l : List Nat} (h : ptsP ws = (no, l)) (h0 : no ≠ 0) : foldP S ws = (no, S) := by
 unfold foldP
 rw [h]
 split
 ·rename_i e; exact absurd (Prod.mk.inj e).1 h0
 ·rename_i e; rw [(Prod.mk.inj e).1]
theorem dcmP_no {line : Nat} {S : RdS} {ws : List (List UInt8)} {no : Nat} {l : List Nat} (h : ptsP ws = (no, l)) (h0 : no ≠ 0) : dcmP line S ws = (no, S) := by
 unfold dcmP
 rw [h]
 split
 ·rename_i e; exact absurd (Prod.mk.inj e).1 h0
 ·rename_i e; rw [(Prod.mk.inj e).1]
theorem DecM.mono {ρ : Nat → Nat} {k B n n' : Nat} {d : Nat → Option (List Nat)} {w : World} (h : DecM ρ k B n d w) (hn : n ≤ n') : DecM ρ k B n' d w := by
 obtain ⟨h0, vs, h1, h2⟩ := h
 exact ⟨h0, vs, h1.mono hn, h2⟩
theorem RdW.mono {B0 : Nat} {ρ : Nat → Nat} {R : RdB} {line n n' m : Nat} {S : RdS} {cv kv : Value} {w : World} (h : RdW B0 ρ R line n m S cv kv w) (hn : n ≤ n') : RdW B0 ρ R line n' m S cv kv w :=
 ⟨h.hr, h.hB, h.g, h.cell, h.c, h.k, h.d.mono hn, h.f.mono hn, ⟨h.l.1, h.l.2.mono hn⟩, h.e, h.s⟩
section
variable {B0 : Nat} {ρ : Nat → Nat} {R : RdB} {line n m : Nat} {S : RdS} {cv kv : Value} {w w' : World}
theorem RdW.newf (h : RdW B0 ρ R line n m S cv kv w) {fs' : Nat → Option (List Nat)} (hk : Keep (fun b => b = R.bf) w w') (hf : DecM ρ 5 R.bf (n + 1) fs' w') : RdW B0 ρ R line (n + 1) m { S with fs := fs' } cv kv w' := by
 have H := h.mono (Nat.le_succ n)
 have hX : ∀ b, b = R.bf → ρ b = 5 := fun b e => by rw [e]; exact h.f.1
 exact {
  hr := H.hr, hB := Nat.le_trans h.hB hk.size, g := H.g, cell := hk.heap H.cell (fun e => by have := hX _ e; have := H.g; omega)
  c := H.c.keep hk (fun b hb h3 => by have := hX b hb; omega)
  k := H.k.keep hk (fun b hb h3 => by have := hX b hb; omega)
  d := H.d.keep hk (fun b hb => by have := hX b hb; omega)
  f := hf
  l := ⟨H.l.1, H.l.2.keep hk (fun hb => by have := hX _ hb; have := H.l.1; omega)⟩
  e := ⟨H.e.1, H.e.2.keep hk (fun hb => by have := hX _ hb; have := H.e.1; omega)⟩
  s := ⟨H.s.1, H.s.2.keep hk (fun hb => by have := hX _ hb; have := H.s.1; omega)⟩ }
theorem RdW.newd (h : RdW B0 ρ R line n m S cv kv w) {ds' : Nat → Option (List Nat)} (hk : Keep (fun b => b = R.bd) w w') (hf : DecM ρ 4 R.bd (n + 1) ds' w') : RdW B0 ρ R line (n + 1) m { S with ds := ds' } cv kv w' := by
 have H := h.mono (Nat.le_succ n)
 have hX : ∀ b, b = R.bd → ρ b = 4 := fun b e => by rw [e]; exact h.d.1
 exact {
  hr := H.hr, hB := Nat.le_trans h.hB hk.size, g := H.g, cell := hk.heap H.cell (fun e => by have := hX _ e; have := H.g; omega)
  c := H.c.keep hk (fun b hb h3 => by have := hX b hb; omega)
  k := H.k.keep hk (fun b hb h3 => by have := hX b hb; omega)
  f := H.f.keep hk (fun b hb => by have := hX b hb; omega)
  d := hf
  l := ⟨H.l.1, H.l.2.keep hk (fun hb => by have := hX _ hb; have := H.l.1; omega)⟩
  e := ⟨H.e.1, H.e.2.keep hk (fun hb => by have := hX _ hb; have := H.e.1; omega)⟩
  s := ⟨H.s.1, H.s.2.keep hk (fun hb => by have := hX _ hb; have := H.s.1; omega)⟩ }
theorem RdW.newl (h : RdW B0 ρ R line (n + 1) m S cv kv w) {ls' : Nat → Option Nat} (hk : Keep (fun b => b = R.bl) w w') (hf : MapG Tryz.prog 21 R.bl (n + 1) (ptF (lsV ls')) w') : RdW B0 ρ R line (n + 1) m { S with ls := ls' } cv kv w' := by
 have H := h
 have hX : ∀ b, b = R.bl → ρ b = 6 := fun b e => by rw [e]; exact h.l.1
 exact {
  hr := H.hr, hB := Nat.le_trans h.hB hk.size, g := H.g, cell := hk.heap H.cell (fun e => by have := hX _ e; have := H.g; omega)
  c := H.c.keep hk (fun b hb h3 => by have := hX b hb; omega)
  k := H.k.keep hk (fun b hb h3 => by have := hX b hb; omega)
  f := H.f.keep hk (fun b hb => by have := hX b hb; omega)
  d := H.d.keep hk (fun b hb => by have := hX b hb; omega)
  l := ⟨H.l.1, hf⟩
  e := ⟨H.e.1, H.e.2.keep hk (fun hb => by have := hX _ hb; have := H.e.1; omega)⟩
  s := ⟨H.s.1, H.s.2.keep hk (fun hb => by have := hX _ hb; have := H.s.1; omega)⟩ }
theorem pts_new (h : RdW B0 ρ R line n m S cv kv w) (hb : Below w.heap.size w w') {B : Nat} {l : List Nat} (_h0 : l ≠ []) (h9 : l.length ≤ 9) (hB : w.heap.size ≤ B) (hB2 : B < w'.heap.size) (hc : ∀ (i : Nat) (x : Nat), l[i]? = some x → w'.cell? ⟨B, i, none⟩ = some (.int .i32 (x : Nat))) :
 RdW B0 (moreR w ρ 0) R line n m S cv kv w' ∧ PtV (moreR w ρ 0) (.slice (some ⟨B, 0, none⟩) l.length l.length) l w' :=
 ⟨(h.role_more 0).below hb, B, 0, l.length, rfl, Nat.le_refl _, by omega, moreR_new B hB, hB2, fun i x hx => by rw [Nat.zero_add]; exact hc i x hx⟩
end
set_option maxRecDepth 100000 in
set_option maxHeartbeats 4000000 in
theorem pfoldR {B0 : Nat} {ρ : Nat → Nat} {R : RdB} {line n m : Nat} {S : RdS} {cv kv : Value} (w : World) (hR : RdW B0 ρ R line n m S cv kv w) (ws : List (List UInt8)) (sv : Value) (hS : StrS sv ws w) (hz : ∀ x ∈ ws, x ≠ [] ∧ x.length ≤ 1048576) (h2 : 2 ≤ ws.length) (hE : PEnv w) (hn : n ≤ 1000000) :
 Calls Tryz.prog 38 #[.pointer (some ⟨R.g, 0, none⟩), sv] w fun e w' => RdOut B0 ρ R line (n + 1) m (foldP S ws).1 (foldP S ws).2 w e w' := by
 have CP := Lib.hid (ppoints ws sv w hS (fun x hx => (hz x hx).2) (fun e => by rw [e] at h2; simp at h2) hE)
 obtain ⟨⟨no, l⟩, hP⟩ : ∃ z, ptsP ws = z := ⟨_, rfl⟩
 rw [hP] at CP
 have HP := Lib.hid hP
 have H2 := Lib.hid h2
 clear hP hS hz h2 hE
 have HR := Lib.hid hR
 have hgl := hR.gl
 clear hR
 go_enter Tryz.func38, Tryz.ntmps38
 go_wp2_with fail
 refine CP.out.mono ?_
 rintro e w1 ⟨hb1, v, rfl, hv⟩
 by_cases h0 : no = 0
 ·subst h0
  obtain ⟨b, rfl, hb2, hb3, hc⟩ := hv rfl
  have hok := ptsP_ok HP.out
  have H2' := H2.out
  cases l with
  | nil => exact absurd hok.1 (by simp; omega)
  | cons x t =>
  have ht : t ≠ [] := fun e => by rw [e] at hok; have := hok.1; simp at this; omega
  have hx : x ≤ 1114111 := valid_le (hok.2.2 x List.mem_cons_self)
  obtain ⟨HR1, HV⟩ := pts_new HR.out hb1 (List.cons_ne_nil x t) (by omega) hb2 hb3 hc
  simp only at hc hok
  have HR1' := Lib.hid HR1
  have HB1 := Lib.hid hb1
  have hxc : w1.cell? ⟨b, 0, none⟩ = some (.int .i32 (x : Nat)) := hc 0 x rfl
  have HBN := Lib.hid hb2
  obtain ⟨q, hq⟩ : ∃ q, t.length = q := ⟨_, rfl⟩
  rw [List.length_cons, hq] at HV ⊢
  have HX : Hid (foldP S ws = if (S.fs x).isSome then (13, S) else (0, { S with fs := updN S.fs x t })) := Lib.hid (by unfold foldP; rw [HP.out]; rfl)
  have CU := Lib.hid (pput (moreR w ρ 0) 5 R.bf n S.fs w1 (by decide) HR1.f x t (by omega) ht (by omega) _ (HV))
  rw [show R.g = R.g from rfl]
  have c5 : w1.cell? ⟨R.g, 5, none⟩ = some (.map (some R.bf)) := by rw [Lib.cell_of_heap HR1.cell]; rfl
  clear hb1 hv hok ht hx HR1 HV hc hb2 hb3 hxc hgl H2'
  go_wp2_with fail
  refine CU.out.mono ?_
  rintro e w2 ⟨he, hD, hK⟩
  have HN := Lib.hid (HR1'.out.newf hK hD)
  have HBB : Hid (Keep (fun b => ρ b ≠ 0 ∧ ρ b ≠ 9) w w2) := Lib.hid ((Keep.of_all HB1.out).trans (hK.weaken (fun b _ hb => by
   have h : ρ b = 5 := by rw [hb]; exact HR.out.f.1
   constructor <;> omega)))
  clear hD hK
  cases hs : (S.fs x).isSome with
  | true =>
    rw [hs] at HN HX he
    replace he : e = .returned (.int .i64 13) := he
    replace HX : Hid (foldP S ws = (13, S)) := HX
    subst he
    go_wp2
    go_ret
    rw [HX.out]
    exact ⟨rfl, HBB.out, _, _, _, _, HN.out, fun b hb => moreR_old b hb, fun e => by cases e⟩
  | false =>
    rw [hs] at HN HX he
    replace he : e = .returned (.int .i64 0) := he
    replace HX : Hid (foldP S ws = (0, { S with fs := updN S.fs x t })) := HX
    subst he
    go_wp2
    go_ret
    rw [HX.out]
    exact ⟨rfl, HBB.out, _, _, _, _, HN.out, fun b hb => moreR_old b hb, fun _ => rfl⟩
 ·have HX : Hid (foldP S ws = (no, S)) := Lib.hid (foldP_no HP.out h0)
  have b1 : ((no : Int) != 0) = true := by simp; omega
  have HB := Lib.hid hb1
  clear hb1 hv
  go_wp2
  go_ret
  rw [HX.out]
  exact ⟨rfl, Keep.of_all HB.out, ρ, S, cv, kv, (HR.out.below HB.out).mono (Nat.le_succ n), fun _ _ => rfl, fun e => absurd e h0⟩
set_option maxRecDepth 100000 in
set_option maxHeartbeats 4000000 in
theorem pdecR {B0 : Nat} {ρ : Nat → Nat} {R : RdB} {line n m : Nat} {S : RdS} {cv kv : Value} (w : World) (hR : RdW B0 ρ R line n m S cv kv w) (ws : List (List UInt8)) (sv : Value) (hS : StrS sv ws w) (hz : ∀ x ∈ ws, x ≠ [] ∧ x.length ≤ 1048576) (h2 : 2 ≤ ws.length) (hE : PEnv w) (hn : n ≤ 1000000) :
 Calls Tryz.prog 39 #[.pointer (some ⟨R.g, 0, none⟩), sv] w fun e w' => RdOut B0 ρ R line (n + 2) m ((dcmP line) S ws).1 ((dcmP line) S ws).2 w e w' := by
 have CP := Lib.hid (ppoints ws sv w hS (fun x hx => (hz x hx).2) (fun e => by rw [e] at h2; simp at h2) hE)
 obtain ⟨⟨no, l⟩, hP⟩ : ∃ z, ptsP ws = z := ⟨_, rfl⟩
 rw [hP] at CP
 have HP := Lib.hid hP
 have H2 := Lib.hid h2
 clear hP hS hz h2 hE
 have HR := Lib.hid hR
 have hgl := hR.gl
 clear hR
 go_enter Tryz.func39, Tryz.ntmps39
 go_wp2_with fail
 refine CP.out.mono ?_
 rintro e w1 ⟨hb1, v, rfl, hv⟩
 by_cases h0 : no = 0
 ·subst h0
  obtain ⟨b, rfl, hb2, hb3, hc⟩ := hv rfl
  have hok := ptsP_ok HP.out
  have H2' := H2.out
  cases l with
  | nil => exact absurd hok.1 (by simp; omega)
  | cons x t =>
  have ht : t ≠ [] := fun e => by rw [e] at hok; have := hok.1; simp at this; omega
  have hx : x ≤ 1114111 := valid_le (hok.2.2 x List.mem_cons_self)
  obtain ⟨HR1, HV⟩ := pts_new HR.out hb1 (List.cons_ne_nil x t) (by omega) hb2 hb3 hc
  simp only at hc hok
  have HR1' := Lib.hid HR1
  have HB1 := Lib.hid hb1
  have hxc : w1.cell? ⟨b, 0, none⟩ = some (.int .i32 (x : Nat)) := hc 0 x rfl
  have HBN := Lib.hid hb2
  obtain ⟨q, hq⟩ : ∃ q, t.length = q := ⟨_, rfl⟩
  rw [List.length_cons, hq] at HV ⊢
  have HX : Hid (dcmP line S ws = if (S.ds x).isSome then (13, S) else if hanP x then (1, S) else (0, { S with ds := updN S.ds x t, ls := updN S.ls x line })) := Lib.hid (by unfold dcmP; rw [HP.out]; rfl)
  have CU := Lib.hid (pput (moreR w ρ 0) 4 R.bd n S.ds w1 (by decide) HR1.d x t (by omega) ht (by omega) _ HV)
  have c4 : w1.cell? ⟨R.g, 4, none⟩ = some (.map (some R.bd)) := by rw [Lib.cell_of_heap HR1.cell]; rfl
  have HXC := Lib.hid hxc
  have HXX := Lib.hid hx
  have HBR : Hid (b ≠ R.bd) := Lib.hid (fun e => by have h1 : moreR w ρ 0 b = 0 := moreR_new b hb2; rw [e, HR1.d.1] at h1; cases h1)
  have CHN := Lib.hid (fun W => phan (x : Int) W)
  clear hb1 hv hok ht hx HR1 HV hc hb2 hb3 hxc hgl H2'
  go_wp2_with fail
  refine CU.out.mono ?_
  rintro e w2 ⟨he, hD, hK⟩
  have HK := Lib.hid hK
  have HBB : Hid (Keep (fun b => ρ b ≠ 0 ∧ ρ b ≠ 9) w w2) := Lib.hid ((Keep.of_all HB1.out).trans (HK.out.weaken (fun b _ hb => by
   have h : ρ b = 4 := by rw [hb]; exact HR.out.d.1
   constructor <;> omega)))
  have HN := Lib.hid (HR1'.out.newd HK.out hD)
  have hxc2 : w2.cell? ⟨b, 0, none⟩ = some (.int .i32 (x : Nat)) := hK.cell HXC.out HBR.out
  clear hD hK CU HB1
  cases hs : (S.ds x).isSome with
  | true =>
    rw [hs] at HN HX he
    replace he : e = .returned (.int .i64 13) := he
    subst he
    replace HX : Hid (dcmP line S ws = (13, S)) := HX
    clear hxc2
    go_wp2
    go_ret
    rw [HX.out]
    exact ⟨rfl, HBB.out, _, _, _, _, HN.out.mono (by omega), fun b hb => moreR_old b hb, fun e => by cases e⟩
  | false =>
    rw [hs] at HN HX he
    replace he : e = .returned (.int .i64 0) := he
    subst he
    replace HX : Hid (dcmP line S ws = if hanP x then (1, S) else (0, { S with ds := updN S.ds x t, ls := updN S.ls x line })) := HX
    replace HN : Hid (RdW B0 (moreR w ρ 0) R line (n + 1) m { S with ds := updN S.ds x t } cv kv w2) := HN
    have hpos : (0 : Int) ≤ (q : Int) := by omega
    go_wp2_with fail
    refine (CHN.out w2).mono ?_
    rintro e w3 ⟨rfl, rfl⟩
    cases hh : hanP (x : Int) with
    | true =>
      rw [hh] at HX
      replace HX : Hid (dcmP line S ws = (1, S)) := HX
      clear hxc2
      go_wp2
      go_ret
      rw [HX.out]
      exact ⟨rfl, HBB.out, _, _, _, _, HN.out.mono (by omega), fun b hb => moreR_old b hb, fun e => by cases e⟩
    | false =>
      rw [hh] at HX
      replace HX : Hid (dcmP line S ws = (0, { S with ds := updN S.ds x t, ls := updN S.ls x line })) := HX
      go_wp2_with fail
      have hkey : keyOf Tryz.prog 21 (.int .i32 (x : Nat)) = some (.int .i32 (x : Nat)) := keyOf_int_mk Tryz.underlying21 (WalkArith.wf_i32 (n := (x : Int)) ⟨by omega, by have := HXX.out; omega⟩)
      have hcell := HN.out.cell
      have hf6 : ∀ X : World, (Instr.fieldAt 57 (.pointer (some ⟨R.g, 0, none⟩)) 6).run Tryz.prog X = .ok (.pointer (some ⟨R.g, 6, none⟩)) X := fun X => by go_simp
      have hf1 : ∀ X : World, (Instr.fieldAt 57 (.pointer (some ⟨R.g, 0, none⟩)) 1).run Tryz.prog X = .ok (.pointer (some ⟨R.g, 1, none⟩)) X := fun X => by go_simp
      have hlb : ∀ X : World, X = w3.drew → (Instr.loadAt 55 (.pointer (some ⟨R.g, 6, none⟩))).run Tryz.prog X = .ok (.map (some R.bl)) X := fun X h => by
       subst h
       have c1 : w3.drew.cell? ⟨R.g, 6, none⟩ = some (.map (some R.bl)) := by rw [Lib.cell_of_heap (w := w3.drew) hcell]; rfl
       go_simp
      have hll : ∀ X : World, X = w3.drew → (Instr.loadAt 3 (.pointer (some ⟨R.g, 1, none⟩))).run Tryz.prog X = .ok (.int .i64 (line : Nat)) X := fun X h => by
       subst h
       have c1 : w3.drew.cell? ⟨R.g, 1, none⟩ = some (.int .i64 (line : Nat)) := by rw [Lib.cell_of_heap (w := w3.drew) hcell]; rfl
       go_simp
      have hlx : ∀ X : World, X = w3.drew → (Instr.loadAt 21 (.pointer (some ⟨b, 0, none⟩))).run Tryz.prog X = .ok (.int .i32 (x : Nat)) X := fun X h => by
       subst h
       have c1 : w3.drew.cell? ⟨b, 0, none⟩ = some (.int .i32 (x : Nat)) := hxc2
       go_simp
      have hix : ∀ X : World, (Instr.indexAt 62 (.slice (some ⟨b, 0, none⟩) (q + 1) (q + 1)) (.int .i64 0)).run Tryz.prog X = .ok (.pointer (some ⟨b, 0, none⟩)) X := fun X => by
       have q1 : ¬ (q : Int) + 1 ≤ 0 := by omega
       go_simp
      obtain ⟨w4, hr2, hM2, hK2⟩ := (HN.out.l.2.keep (Keep.refl (fun _ => False) w3).drew (fun h => h)).put (int_keyed Tryz.underlying21) Tryz.underlying55 (by unfold maxLen; omega) (val := .int .i64 (line : Nat)) hkey
      have hmu : ∀ X : World, X = w3.drew → (Instr.mapUpdate 55 (.map (some R.bl)) (.int .i32 (x : Nat)) (.int .i64 (line : Nat))).run Tryz.prog X = .ok () w4 := fun X h => by
       subst h
       exact hr2
      have HKW := Lib.hid (Keep.trans (Keep.refl (fun b => b = R.bl) w3).drew hK2)
      have HLM : Hid (MapG Tryz.prog 21 R.bl (n + 1 + 1) (ptF (lsV (updN S.ls x line))) w4) := Lib.hid (hM2.congr (fun kl hkl => by
       rw [ptF_put _ _ _ _ hkl]
       congr 1
       funext y
       unfold lsV updN
       by_cases e : y = x
       ·rw [if_pos e, if_pos e]; rfl
       ·rw [if_neg e, if_neg e]))
      clear hkey hcell hr2 hM2 hK2 hxc2 hpos
      obtain ⟨FF, hFF⟩ : ∃ FF : StoR, FF = ⟨w3.drew, w4, 11, fun z => match z with | 0 => some (.pointer (some ⟨R.g, 0, none⟩)) | 1 => some (.pointer (some ⟨R.g, 0, none⟩)) | 2 => some (.pointer (some ⟨R.g, 6, none⟩)) | 3 => some (.map (some R.bl)) | 4 => some (.slice (some ⟨b, 0, none⟩) (q + 1) (q + 1)) | 5 => some (.pointer (some ⟨b, 0, none⟩)) | 6 => some (.int .i32 (x : Nat)) | 7 => some (.pointer (some ⟨R.g, 0, none⟩)) | 8 => some (.pointer (some ⟨R.g, 0, none⟩)) | 9 => some (.pointer (some ⟨R.g, 1, none⟩)) | 10 => some (.int .i64 (line : Nat)) | _ => none⟩ := ⟨_, rfl⟩
      have H0 : StoR.S FF (fun _ => false) w3.drew := by rw [hFF]; exact fun _ => rfl
      refine wp_region_done (StoR.S FF) (StoR.P FF) (by kernel_rfl) (by kernel_rfl) (by kernel_rfl) H0 ?hs ?hd
      case hs =>
       rw [hFF]
       refine DSteps.cons ?_ (DSteps.cons ?_ (DSteps.cons ?_ (DSteps.cons ?_ (DSteps.cons ?_ (DSteps.cons ?_ (DSteps.cons ?_ (DSteps.cons ?_ (DSteps.cons ?_ (DSteps.cons ?_ (DSteps.cons ?_ (DSteps.cons ?_ (DSteps.nil))))))))))))
       ·intro D2 a X9 hDi hDa _ hX hL hd
        refine ⟨rfl, ?_⟩
        have e0 : a.eval (.tmp 0) = .pointer (some ⟨R.g, 0, none⟩) := hL.far 0 (by kernel_rfl)
        exact wp_value (exec_move rfl e0) ⟨_, rfl, hX.more, fun _ _ _ h => h, StoR.P.mk rfl (by simp)⟩
       ·intro D2 a X9 hDi hDa _ hX hL hd
        refine ⟨rfl, ?_⟩
        have e0 : a.eval (.tmp 29) = .pointer (some ⟨R.g, 0, none⟩) := (hd 0 29 (by kernel_rfl) (by kernel_rfl)).is rfl
        exact wp_value (exec_nilCheck rfl e0) ⟨_, rfl, hX.more, fun _ _ _ h => h, StoR.P.mk rfl (by simp)⟩
       ·intro D2 a X9 hDi hDa _ hX hL hd
        refine ⟨rfl, ?_⟩
        have e0 : a.eval (.tmp 30) = .pointer (some ⟨R.g, 0, none⟩) := (hd 1 30 (by kernel_rfl) (by kernel_rfl)).is rfl
        exact wp_value (exec_fieldAddr rfl e0 (hf6 X9)) ⟨_, rfl, hX.more, fun _ _ _ h => h, StoR.P.mk rfl (by simp)⟩
       ·intro D2 a X9 hDi hDa _ hX hL hd
        refine ⟨rfl, ?_⟩
        have e0 : a.eval (.tmp 31) = .pointer (some ⟨R.g, 6, none⟩) := (hd 2 31 (by kernel_rfl) (by kernel_rfl)).is rfl
        exact wp_value (exec_load rfl e0 (hlb X9 (hX (hDa 11 (by kernel_rfl))))) ⟨_, rfl, hX.more, fun _ _ _ h => h, StoR.P.mk rfl (by simp)⟩
       ·intro D2 a X9 hDi hDa _ hX hL hd
        refine ⟨rfl, ?_⟩
        have e0 : a.eval (.tmp 5) = .slice (some ⟨b, 0, none⟩) (q + 1) (q + 1) := hL.far 5 (by kernel_rfl)
        exact wp_value (exec_move rfl e0) ⟨_, rfl, hX.more, fun _ _ _ h => h, StoR.P.mk rfl (by simp)⟩
       ·intro D2 a X9 hDi hDa _ hX hL hd
        refine ⟨rfl, ?_⟩
        have e0 : a.eval (.tmp 33) = .slice (some ⟨b, 0, none⟩) (q + 1) (q + 1) := (hd 4 33 (by kernel_rfl) (by kernel_rfl)).is rfl
        exact wp_value (exec_indexAddr rfl e0 rfl (hix X9)) ⟨_, rfl, hX.more, fun _ _ _ h => h, StoR.P.mk rfl (by simp)⟩
       ·intro D2 a X9 hDi hDa _ hX hL hd
        refine ⟨rfl, ?_⟩
        have e0 : a.eval (.tmp 34) = .pointer (some ⟨b, 0, none⟩) := (hd 5 34 (by kernel_rfl) (by kernel_rfl)).is rfl
        exact wp_value (exec_load rfl e0 (hlx X9 (hX (hDa 11 (by kernel_rfl))))) ⟨_, rfl, hX.more, fun _ _ _ h => h, StoR.P.mk rfl (by simp)⟩
       ·intro D2 a X9 hDi hDa _ hX hL hd
        refine ⟨rfl, ?_⟩
        have e0 : a.eval (.tmp 0) = .pointer (some ⟨R.g, 0, none⟩) := hL.far 0 (by kernel_rfl)
        exact wp_value (exec_move rfl e0) ⟨_, rfl, hX.more, fun _ _ _ h => h, StoR.P.mk rfl (by simp)⟩
       ·intro D2 a X9 hDi hDa _ hX hL hd
        refine ⟨rfl, ?_⟩
        have e0 : a.eval (.tmp 36) = .pointer (some ⟨R.g, 0, none⟩) := (hd 7 36 (by kernel_rfl) (by kernel_rfl)).is rfl
        exact wp_value (exec_nilCheck rfl e0) ⟨_, rfl, hX.more, fun _ _ _ h => h, StoR.P.mk rfl (by simp)⟩
       ·intro D2 a X9 hDi hDa _ hX hL hd
        refine ⟨rfl, ?_⟩
        have e0 : a.eval (.tmp 37) = .pointer (some ⟨R.g, 0, none⟩) := (hd 8 37 (by kernel_rfl) (by kernel_rfl)).is rfl
        exact wp_value (exec_fieldAddr rfl e0 (hf1 X9)) ⟨_, rfl, hX.more, fun _ _ _ h => h, StoR.P.mk rfl (by simp)⟩
       ·intro D2 a X9 hDi hDa _ hX hL hd
        refine ⟨rfl, ?_⟩
        have e0 : a.eval (.tmp 38) = .pointer (some ⟨R.g, 1, none⟩) := (hd 9 38 (by kernel_rfl) (by kernel_rfl)).is rfl
        exact wp_value (exec_load rfl e0 (hll X9 (hX (hDa 11 (by kernel_rfl))))) ⟨_, rfl, hX.more, fun _ _ _ h => h, StoR.P.mk rfl (by simp)⟩
       ·intro D2 a X9 hDi hDa _ hX hL hd
        refine ⟨rfl, ?_⟩
        have e0 : a.eval (.tmp 32) = .map (some R.bl) := (hd 3 32 (by kernel_rfl) (by kernel_rfl)).is rfl
        have e1 : a.eval (.tmp 35) = .int .i32 (x : Nat) := (hd 6 35 (by kernel_rfl) (by kernel_rfl)).is rfl
        have e2 : a.eval (.tmp 39) = .int .i64 (line : Nat) := (hd 10 39 (by kernel_rfl) (by kernel_rfl)).is rfl
        exact wp_skipped (exec_mapUpdate rfl e0 e1 e2 (hmu X9 (hX hDi))) ⟨undef, rfl, StoR.S.store, fun k2 u hj h => h.store (fun e => by subst e; rw [hDi] at hj; cases hj), StoR.P.last rfl rfl⟩
      case hd =>
       intro D2 a X9 hAll hX hL hP hE
       obtain ⟨_, hp⟩ := hE 11 (by decide)
       rw [hFF] at hp
       have hX9 : X9 = w4 := hp.2 rfl
       obtain ⟨f, ha, hf⟩ := hL.out [29, 30, 31, 32, 33, 34, 35, 36, 37, 38, 39] rfl
       clear hf hAll hP hX hL hE hp hFF H0 hf6 hlb hix hlx hf1 hll hmu
       simp only [List.foldl_cons, List.foldl_nil, List.setIfInBounds_toArray, List.set_cons_zero, List.set_cons_succ] at ha
       subst ha
       subst hX9
       go_wp2
       go_ret
       rw [HX.out]
       have H9 := (HN.out.mono (Nat.le_succ (n + 1))).newl HKW.out HLM.out
       exact ⟨rfl, HBB.out.trans (HKW.out.weaken (fun b _ hb => by
        have h : ρ b = 6 := by rw [hb]; exact HR.out.l.1
        constructor <;> omega)), _, _, _, _, H9, fun b hb => moreR_old b hb, fun _ => rfl⟩
 ·have HX : Hid (dcmP line S ws = (no, S)) := Lib.hid (dcmP_no HP.out h0)
  have b1 : ((no : Int) != 0) = true := by simp; omega
  have HB := Lib.hid hb1
  clear hb1 hv
  go_wp2
  go_ret
  rw [HX.out]
  exact ⟨rfl, Keep.of_all HB.out, ρ, S, cv, kv, (HR.out.below HB.out).mono (by omega), fun _ _ => rfl, fun e => absurd e h0⟩
end Go.Proofs.YthhepebkfokddaaGreatDoor
namespace Go.Proofs.YthhepebkfokddaaGreatDoor
open Go Go.RowKit Go.Kt Go.Kt.Rg Go.Maps
def partsP (n : Nat) : List Nat := [4352 + n / 28 / 21, 4449 + n / 28 % 21] ++ if n % 28 = 0 then [] else [4519 + n % 28]
theorem own_full (w : World) (xs : List Value) (e : TypeId) (hm : xs.length ≤ maxLen) : OwnS (fun b => b = w.heap.size) e 1 (.slice (some ⟨w.heap.size, 0, none⟩) xs.length xs.length) xs.length xs (w.alloc (.cells xs.toArray e)) :=
 ⟨⟨by simp, .inr ⟨w.heap.size, xs.length, xs.toArray, rfl, Nat.zero_le _, heap_alloc_new w _, Nat.le_refl _, hm, by simp, by simp⟩⟩, fun b hb => by simp [Value.ownBlock] at hb; exact hb.symm⟩
set_option maxRecDepth 100000 in
set_option maxHeartbeats 2000000 in
theorem pparts (n : Nat) (hn : n < 11172) (w : World) : Calls Tryz.prog 85 #[.int .i32 (44032 + (n : Nat))] w fun e w' => ∃ ao cp, e = .returned (.slice ao (partsP n).length cp) ∧ OwnS (fun b => w.heap.size ≤ b) 21 1 (.slice ao (partsP n).length cp) (partsP n).length (encN (partsP n)) w' ∧ Below w.heap.size w w' := by
 have e1 : IntKind.i32.wrap ((44032 + (n : Int)) - 44032) = n := by rw [IntWalk.i32_in _ (by omega)]; omega
 obtain ⟨h, hh⟩ : ∃ h, w.heap.size = h := ⟨_, rfl⟩
 obtain ⟨W1, hW1⟩ : ∃ W1, w.alloc (.cells #[.int .i32 (4352 + (n : Int) / 28 / 21), .int .i32 (4449 + (n : Int) / 28 % 21)] 21) = W1 := ⟨_, rfl⟩
 have ho := own_full w [.int .i32 (4352 + (n : Int) / 28 / 21), .int .i32 (4449 + (n : Int) / 28 % 21)] 21 (by show 2 ≤ maxLen; decide)
 replace ho : OwnS (fun b => b = h) 21 1 (.slice (some ⟨h, 0, none⟩) 2 2) 2 [.int .i32 (4352 + (n : Int) / 28 / 21), .int .i32 (4449 + (n : Int) / 28 % 21)] W1 := by
  rw [hh] at ho
  rw [← hW1]
  exact ho
 have hb1 : Below h w W1 := by rw [← hW1, ← hh]; exact (Below.refl _ w).alloc (Nat.le_refl _) _
 have hz1 : W1.heap.size = h + 1 := by rw [← hW1, ← hh]; exact Array.size_push _
 have HB := Lib.hid (And.intro hb1 (And.intro ho hz1))
 by_cases hc : n % 28 = 0
 ·have HP : Hid (partsP n = [4352 + n / 28 / 21, 4449 + n / 28 % 21]) := Lib.hid (by unfold partsP; rw [if_pos hc]; rfl)
  have q0 : ((n : Int) % 28 != 0) = false := by
   have : (n : Int) % 28 = 0 := by omega
   rw [this]; rfl
  rw [HP.out]
  clear hc ho hb1 hz1
  go_enter Tryz.func85, Tryz.ntmps85
  go_wp2
  go_ret
  rw [hh]
  exact ⟨some ⟨h, 0, none⟩, 2, rfl, HB.out.2.1.weaken (fun b hb => by omega), HB.out.1⟩
 ·have HP : Hid (partsP n = [4352 + n / 28 / 21, 4449 + n / 28 % 21] ++ [4519 + n % 28]) := Lib.hid (by unfold partsP; rw [if_neg hc])
  have q0 : ((n : Int) % 28 != 0) = true := by
   simp only [bne_iff_ne, ne_eq]
   omega
  obtain ⟨g, cap, w3, hrun, hown3, hk3, hg3, hz3⟩ := append_x (P := Tryz.prog) W1 62 21 Tryz.underlying62 tinfoI32 rfl (by omega) ho [.int .i32 (4520 + (n : Int) % 28 - 1)] rfl
   (by intro u hu; simp at hu; rcases hu with rfl; rfl) (by unfold maxLen; omega) (by omega)
  have hgg : h ≤ g := by
   rcases hg3 with hx | hx
   ·simp [Value.ownBlock] at hx; omega
   ·omega
  have HRun := Lib.hid hrun
  have H3 := Lib.hid (And.intro hown3 (And.intro (hb1.trans (hk3.below (by omega) (fun b hb => by simp [Value.ownBlock] at hb; omega))) hgg))
  have HZ := Lib.hid hz1
  rw [HP.out]
  clear hc ho hb1 hz1 hrun hown3 hk3 hg3 hz3 hgg
  go_enter Tryz.func85, Tryz.ntmps85
  go_wp2_with (at_builtin; refine wpList_append_eq rfl rfl rfl rfl HRun.out ?_)
  go_ret
  rw [hh]
  have e : encN [4352 + n / 28 / 21, 4449 + n / 28 % 21, 4519 + n % 28] = [.int .i32 (4352 + (n : Int) / 28 / 21), .int .i32 (4449 + (n : Int) / 28 % 21)] ++ [.int .i32 (4520 + (n : Int) % 28 - 1)] := by
   simp [encN]
   omega
  rw [e]
  exact ⟨some ⟨g, 0, none⟩, cap, rfl, H3.out.1.weaken (fun b hb => by have := H3.out.2.2; omega), H3.out.2.1⟩
end Go.Proofs.YthhepebkfokddaaGreatDoor
namespace Go.Proofs.YthhepebkfokddaaGreatDoor
open Go Go.RowKit Go.Kt Go.Kt.Rg Go.Maps
abbrev LeT := Nat → Option Int
def lenL (g : LeT → Nat → Int × LeT) (x : Nat) : List Nat → Int → LeT → Int × LeT
 | [], sum, le => (sum, updN le x sum)
 | y :: t, sum, le => if (g le y).1 = -1 then (-1, (g le y).2) else lenL g x t (min (sum + (g le y).1) 9) (g le y).2
def lenF (ds : Nat → Option (List Nat)) : Nat → LeT → Nat → Int × LeT
 | 0, le, _ => (0, le)
 | f + 1, le, x => if sylP x then (((partsP (x - 44032)).length : Nat), le) else
   match ds x with
   | none => (1, le)
   | some own => match le x with
     | some n => (n, le)
     | none => lenL (lenF ds f) x own 0 (updN le x (-1))
def LeOk (le : LeT) : Prop := ∀ y v, le y = some v → -1 ≤ v ∧ v ≤ 9
theorem LeOk.upd {le : LeT} (h : LeOk le) {x : Nat} {v : Int} (h1 : -1 ≤ v) (h9 : v ≤ 9) : LeOk (updN le x v) := fun y u hu => by
 unfold updN at hu
 by_cases e : y = x
 ·rw [if_pos e] at hu; cases hu; exact ⟨h1, h9⟩
 ·rw [if_neg e] at hu; exact h y u hu
def LeLe (le le' : LeT) : Prop := ∀ y, (le y).isSome = true → (le' y).isSome = true
theorem LeLe.upd (le : LeT) (x : Nat) (v : Int) : LeLe le (updN le x v) := fun y h => by
 unfold updN
 by_cases e : y = x
 ·rw [if_pos e]; rfl
 ·rw [if_neg e]; exact h
theorem lenL_ok {g : LeT → Nat → Int × LeT} (hg : ∀ le y, LeOk le → (-1 ≤ (g le y).1 ∧ (g le y).1 ≤ 9) ∧ LeOk (g le y).2 ∧ LeLe le (g le y).2) (x : Nat) : ∀ (l : List Nat) (sum : Int) (le : LeT), 0 ≤ sum → sum ≤ 9 → LeOk le →
 (-1 ≤ (lenL g x l sum le).1 ∧ (lenL g x l sum le).1 ≤ 9) ∧ LeOk (lenL g x l sum le).2 ∧ LeLe le (lenL g x l sum le).2
 | [], sum, le, h0, h9, hl => ⟨⟨by simp [lenL]; omega, by simp [lenL]; omega⟩, LeOk.upd hl (by omega) h9, LeLe.upd _ _ _⟩
 | y :: t, sum, le, h0, h9, hl => by
   obtain ⟨h1, h2, h3⟩ := hg le y hl
   rw [lenL]
   by_cases e : (g le y).1 = -1
   ·rw [if_pos e]
    exact ⟨⟨by simp, by simp⟩, h2, h3⟩
   ·rw [if_neg e]
    have h4 := lenL_ok hg x t (min (sum + (g le y).1) 9) (g le y).2 (by omega) (by omega) h2
    exact ⟨h4.1, h4.2.1, fun z hz => h4.2.2 z (h3 z hz)⟩
theorem lenF_ok (ds : Nat → Option (List Nat)) : ∀ (f : Nat) (le : LeT) (x : Nat), LeOk le → (-1 ≤ (lenF ds f le x).1 ∧ (lenF ds f le x).1 ≤ 9) ∧ LeOk (lenF ds f le x).2 ∧ LeLe le (lenF ds f le x).2
 | 0, le, x, h => ⟨⟨by simp [lenF], by simp [lenF]⟩, h, fun _ h => h⟩
 | f + 1, le, x, h => by
   rw [lenF]
   split
   ·refine ⟨⟨by omega, ?_⟩, h, fun _ h => h⟩
    have : (partsP (x - 44032)).length ≤ 3 := by unfold partsP; split <;> simp
    omega
   ·split
    ·exact ⟨⟨by omega, by omega⟩, h, fun _ h => h⟩
    ·split
     ·rename_i n hn
      exact ⟨h x n hn, h, fun _ h => h⟩
     ·rename_i own hown _ hnone
      have := lenL_ok (fun le y h => lenF_ok ds f le y h) x own 0 (updN le x (-1)) (by omega) (by omega) (h.upd (x := x) (v := -1) (by omega) (by omega))
      exact ⟨this.1, this.2.1, fun y hy => this.2.2 y (LeLe.upd _ _ _ y hy)⟩
def unk (L : List Nat) (le : LeT) : Nat := (L.filter fun x => (le x).isNone).length
theorem unk_mono (L : List Nat) {le le' : LeT} (h : LeLe le le') : unk L le' ≤ unk L le := by
 unfold unk
 rw [← List.countP_eq_length_filter, ← List.countP_eq_length_filter]
 refine List.countP_mono_left fun x _ hx => ?_
 cases hl : le x with
 | none => rfl
 | some v =>
   have := h x (by rw [hl]; rfl)
   rw [Option.isNone_iff_eq_none] at hx
   rw [hx] at this
   cases this
theorem unk_upd (L : List Nat) {le : LeT} {x : Nat} (hx : x ∈ L) (h : le x = none) (v : Int) : unk L (updN le x v) + 1 ≤ unk L le := by
 induction L with
 | nil => cases hx
 | cons y t ih =>
   by_cases e : y = x
   ·subst e
    have h1 := unk_mono t (LeLe.upd le y v)
    unfold unk at h1 ⊢
    rw [List.filter_cons_of_neg (by simp [updN]), List.filter_cons_of_pos (by rw [h]; rfl)]
    simp only [List.length_cons]
    omega
   ·have h2 := ih (by rcases List.mem_cons.1 hx with h | h; exact absurd h.symm e; exact h)
    have e2 : updN le x v y = le y := if_neg e
    unfold unk at h2 ⊢
    simp only [List.filter_cons, e2]
    split
    ·simp only [List.length_cons]; omega
    ·exact h2
section
variable {B0 : Nat} {ρ : Nat → Nat} {R : RdB} {line n m m' : Nat} {S : RdS} {cv kv : Value} {w w' : World}
theorem RdW.newe (h : RdW B0 ρ R line n m S cv kv w) {le' : LeT} (hk : Keep (fun b => b = R.bn) w w') (hf : MapG Tryz.prog 21 R.bn m' (ptF (leV le')) w') : RdW B0 ρ R line n m' { S with le := le' } cv kv w' := by
 have H := h
 have hX : ∀ b, b = R.bn → ρ b = 7 := fun b e => by rw [e]; exact h.e.1
 exact {
  hr := H.hr, hB := Nat.le_trans h.hB hk.size, g := H.g, cell := hk.heap H.cell (fun e => by have := hX _ e; have := H.g; omega)
  c := H.c.keep hk (fun b hb h3 => by have := hX b hb; omega)
  k := H.k.keep hk (fun b hb h3 => by have := hX b hb; omega)
  f := H.f.keep hk (fun b hb => by have := hX b hb; omega)
  d := H.d.keep hk (fun b hb => by have := hX b hb; omega)
  e := ⟨H.e.1, hf⟩
  l := ⟨H.l.1, H.l.2.keep hk (fun hb => by have := hX _ hb; have := H.l.1; omega)⟩
  s := ⟨H.s.1, H.s.2.keep hk (fun hb => by have := hX _ hb; have := H.s.1; omega)⟩ }
end
def LenOut (B0 : Nat) (ρ : Nat → Nat) (R : RdB) (line n m : Nat) (L : List Nat) (S : RdS) (cv kv : Value) (r : Int × LeT) (w : World) (e : Ending) (w' : World) : Prop :=
 e = .returned (.int .i64 r.1) ∧ (∃ m', RdW B0 ρ R line n m' { S with le := r.2 } cv kv w' ∧ m' + 2 * unk L r.2 ≤ m + 2 * unk L S.le) ∧ Keep (fun b => b = R.bn) w w'
end Go.Proofs.YthhepebkfokddaaGreatDoor
