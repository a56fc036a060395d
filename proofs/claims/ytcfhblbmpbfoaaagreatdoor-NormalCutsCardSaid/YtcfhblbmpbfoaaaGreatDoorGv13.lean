/- Parts of the proof of what the last text says. -/
import Derived.Test.YtcfhblbmpbfoaaaGreatDoorGv7
import Derived.OwnWalk
import Derived.Test.YtcfhblbmpbfoaaaGreatDoorGv11
import Derived.Test.YtcfhblbmpbfoaaaGreatDoorGv2
import Derived.Test.YtcfhblbmpbfoaaaGreatDoorGv5
namespace Go.Proofs.YtcfhblbmpbfoaaaGreatDoor
open Go Go.RowKit Go.Kt Go.Kt.Rg Go.Maps

structure LftA (n : Nat) (a : Nat → Nat) : Prop where
  up : ∀ i, i < n → i ≤ a i ∧ a i < n
  gap : ∀ i, i < n → ∀ j, i ≤ j → j < a i → a j ≠ j
def LftW (b n : Nat) (P : Nat → Prop) (w : World) : Prop :=
  ∃ a : Nat → Nat, LftA n a ∧ (∀ j, j < n → (P j ↔ a j = j)) ∧ ∀ i, i < n → w.cell? ⟨b, i, none⟩ = some (.int .i64 (a i : Nat)) ∧ w.frozen? ⟨b, i, none⟩ = false
theorem LftW.keep {b n : Nat} {P : Nat → Prop} {X : Nat → Prop} {A B : World} (h : LftW b n P A) (hk : Keep X A B) (hX : ¬ X b) : LftW b n P B := by
  obtain ⟨a, h1, h2, h3⟩ := h
  exact ⟨a, h1, h2, fun i hi => ⟨hk.cell (h3 i hi).1 hX, (hk.frozen (lt_of_cell (h3 i hi).1) hX).trans (h3 i hi).2⟩⟩
def updA (a : Nat → Nat) (x y : Nat) : Nat → Nat := fun i => if i = x then y else a i
theorem updA_drop {n : Nat} {a : Nat → Nat} (h : LftA n a) {i : Nat} (hi : i + 1 < n) : LftA n (updA a i (i + 1)) := by
  refine ⟨fun k hk => ?_, fun k hk j h1 h2 => ?_⟩
  · unfold updA
    split
    · omega
    · exact h.up k hk
  · unfold updA at h2 ⊢
    split
    · omega
    · rename_i hj
      split at h2
      · omega
      · exact h.gap k hk j h1 h2
theorem updA_half {n : Nat} {a : Nat → Nat} (h : LftA n a) {i : Nat} (hi : i < n) (hne : a i ≠ i) : LftA n (updA a i (a (a i))) ∧ i < a (a i) ∧ a (a i) < n := by
  have h1 := h.up i hi
  have h2 := h.up (a i) h1.2
  refine ⟨⟨fun k hk => ?_, fun k hk j h3 h4 => ?_⟩, by omega, h2.2⟩
  · unfold updA
    split
    · omega
    · exact h.up k hk
  · unfold updA at h4 ⊢
    split
    · omega
    · rename_i hj
      split at h4
      · rename_i hki
        by_cases h5 : j < a i
        · exact h.gap i hi j (by omega) h5
        · exact h.gap (a i) h1.2 j (by omega) h4
      · exact h.gap k hk j h3 h4
theorem cells_upd {b n : Nat} {a : Nat → Nat} {w : World} (h : ∀ i, i < n → w.cell? ⟨b, i, none⟩ = some (.int .i64 (a i : Nat)) ∧ w.frozen? ⟨b, i, none⟩ = false) {x : Nat} (hx : x < n) (y : Nat) :
    ∀ i, i < n → (w.setCell ⟨b, x, none⟩ (.int .i64 (y : Nat))).cell? ⟨b, i, none⟩ = some (.int .i64 (updA a x y i : Nat)) ∧ (w.setCell ⟨b, x, none⟩ (.int .i64 (y : Nat))).frozen? ⟨b, i, none⟩ = false := fun i hi => by
  refine ⟨?_, ?_⟩
  · unfold updA
    by_cases e : i = x
    · subst e
      rw [if_pos rfl]
      exact World.cell?_setCell_same _ _ _ (h i hi).1
    · rw [if_neg e]
      exact (World.cell?_setCell_other _ _ _ _ (by intro h; injection h with _ h2 _; exact e h2.symm)).trans (h i hi).1
  · rw [World.frozen?_setCell]
    exact (h i hi).2

set_option maxRecDepth 100000 in
theorem pdrop (b n i cap : Nat) (P : Nat → Prop) (w : World) (h : LftW b n P w) (hi : i + 1 < n) (hn : n ≤ 4611686018427387904) :
    Calls Tryz.prog 153 #[.slice (some ⟨b, 0, none⟩) n cap, .int .i64 (i : Nat)] w fun e w' => e = .returned (.tuple #[]) ∧ LftW b n (fun j => P j ∧ j ≠ i) w' ∧ Keep (fun x => x = b) w w' := by
  obtain ⟨a, h1, h2, h3⟩ := h
  have hc := (h3 i (by omega)).1
  have hf := (h3 i (by omega)).2
  have q1 : IntKind.i64.wrap ((i : Int) + 1) = ((i + 1 : Nat) : Int) := by rw [IntWalk.i64_in _ (by omega)]; omega
  have q2 : (i : Int) < (n : Int) := by omega
  have H := Lib.hid (And.intro h1 (And.intro h2 h3))
  clear h1 h2 h3
  go_enter Tryz.func153, Tryz.ntmps153
  go_wp2
  go_end0
  have e : ((i : Int) + 1) = ((i + 1 : Nat) : Int) := by omega
  rw [e]
  refine ⟨rfl, ⟨_, updA_drop H.out.1 hi, fun j hj => ?_, cells_upd H.out.2.2 (by omega) (i + 1)⟩, Keep.setCell (X := fun x => x = b) (Keep.refl _ w) (p := ⟨b, i, none⟩) rfl _⟩
  unfold updA
  by_cases e2 : j = i
  · rw [if_pos e2]; exact ⟨fun h => absurd e2 h.2, fun h => by omega⟩
  · rw [if_neg e2]; exact ⟨fun h => (H.out.2.1 j hj).1 h.1, fun h => ⟨(H.out.2.1 j hj).2 h, e2⟩⟩

def FromI (b n i : Nat) (P : Nat → Prop) (w : World) (i' : Nat) (wr : World) : Prop :=
  i ≤ i' ∧ i' < n ∧ (∀ j, i ≤ j → j < i' → ¬ P j) ∧ LftW b n P wr ∧ Keep (fun x => x = b) w wr
def FromOut (b n i : Nat) (P : Nat → Prop) (w : World) (e : Ending) (w' : World) : Prop :=
  ∃ j : Nat, e = .returned (.int .i64 (j : Nat)) ∧ FromI b n i P w j w' ∧ P j

set_option maxRecDepth 100000 in
set_option maxHeartbeats 2000000 in
theorem pfrom (b n i cap : Nat) (P : Nat → Prop) (w : World) (h : LftW b n P w) (hi : i < n) (_hn : n ≤ 4611686018427387904) :
    Calls Tryz.prog 152 #[.slice (some ⟨b, 0, none⟩) n cap, .int .i64 (i : Nat)] w fun e w' => FromOut b n i P w e w' := by
  have H := Lib.hid h
  clear h
  go_enter Tryz.func152, Tryz.ntmps152
  go_wp2_with fail
  go_loopw [1] (fun x wr => ∃ i' : Nat, x = .int .i64 i' ∧ FromI b n i P w i' wr) (fun x _ => n - (RowKit.intOf x).toNat)
  case atStart => exact ⟨i, rfl, Nat.le_refl _, hi, fun j h1 h2 => by omega, H.out, Keep.refl _ _⟩
  case round =>
    obtain ⟨k, rfl, hI⟩ := hrel
    obtain ⟨h1, h2, h3, ⟨a, ha, hP, hc⟩, h5⟩ := hI
    have ck := (hc k h2).1
    have fk := (hc k h2).2
    have q2 : (k : Int) < (n : Int) := by omega
    have HI := Lib.hid (And.intro h1 (And.intro h3 (And.intro ha (And.intro hP (And.intro hc h5)))))
    by_cases e : a k = k
    · have b1 : (((a k : Nat) : Int) != (k : Int)) = false := by rw [e]; simp
      clear h1 h3 ha hP hc h5 e
      go_wp2
      go_ret
      have e2 : a k = k := by
        have : ((a k : Nat) : Int) = (k : Int) := by simpa using b1
        omega
      exact ⟨k, rfl, ⟨HI.out.1, h2, HI.out.2.1, ⟨a, HI.out.2.2.1, HI.out.2.2.2.1, HI.out.2.2.2.2.1⟩, HI.out.2.2.2.2.2⟩, (HI.out.2.2.2.1 k h2).2 e2⟩
    · have b1 : (((a k : Nat) : Int) != (k : Int)) = true := by simp; omega
      have hu := ha.up k h2
      obtain ⟨m, hm⟩ : ∃ m, a k = m := ⟨_, rfl⟩
      have cm := (hc (a k) hu.2).1
      obtain ⟨z, hz⟩ : ∃ z, a (a k) = z := ⟨_, rfl⟩
      have hh := updA_half ha h2 e
      have HH := Lib.hid hh
      have HE := Lib.hid (And.intro e (And.intro hm hz))
      rw [hz] at cm
      rw [hm] at cm ck b1
      have q3 : (m : Int) < (n : Int) := by omega
      clear h1 h3 ha hP hc h5 e hu hh hm hz
      go_wp2_with fail
      obtain ⟨h1, h3, ha, hP, hc, h5⟩ := HI.out
      obtain ⟨hh1, hh2, hh3⟩ := HH.out
      obtain ⟨e, hm, hz⟩ := HE.out
      rw [hz] at hh1 hh2 hh3
      refine ⟨⟨z, rfl, by omega, hh3, fun j hj1 hj2 => ?_, ⟨_, hh1, fun j hj => ?_, cells_upd hc h2 z⟩, Keep.setCell (X := fun x => x = b) h5 (p := ⟨b, k, none⟩) rfl _⟩, by simp [RowKit.intOf]; omega⟩
      · by_cases e1 : j < k
        · exact h3 j hj1 e1
        · rw [hP j (by omega)]
          by_cases e2 : j = k
          · rw [e2]; exact e
          · have hz2 : updA a k z k = z := if_pos rfl
            have := hh1.gap k h2 j (by omega) (by rw [hz2]; exact hj2)
            rwa [show updA a k z j = a j from if_neg e2] at this
      · rw [hP j hj]
        by_cases e2 : j = k
        · rw [e2, show updA a k z k = z from if_pos rfl]
          exact ⟨fun h => absurd h e, fun h => by omega⟩
        · rw [show updA a k z j = a j from if_neg e2]

set_option maxRecDepth 100000 in
set_option maxHeartbeats 2000000 in
theorem pallOf (n : Nat) (w : World) (h0 : 0 < n) (hn : n ≤ 16777216) :
    Calls Tryz.prog 149 #[.int .i64 (n : Nat)] w fun e w' => e = .returned (.slice (some ⟨w.heap.size, 0, none⟩) n n) ∧ LftW w.heap.size n (fun _ => True) w' ∧ Below w.heap.size w w' ∧ w.heap.size < w'.heap.size := by
  obtain ⟨h, hh⟩ : ∃ h, w.heap.size = h := ⟨_, rfl⟩
  rw [hh]
  go_enter Tryz.func149, Tryz.ntmps149
  go_wp2_with (at_make; refine wpList_make_full _ rfl _ _ _ rfl w.heap.size 3 _ (.int .i64 0) 1 Tryz.underlying198 rfl rfl rfl .i64 .i64 _ _ n rfl rfl rfl rfl (by show 8 * n ≤ _; omega) (by unfold maxLen; omega) (Nat.le_refl _) ?_; intro w1 hown1 hgr1)
  have H1 : Hid (∃ C : Array Value, Below h w w1 ∧ w1.heap[h]? = some (.cells C 3 (0, 0)) ∧ C.size = n) := Lib.hid (by
    obtain ⟨_, h2⟩ := hown1
    rcases h2 with ⟨h2, _⟩ | ⟨g2, c2, C, e2, _, h3, _, _, h4, _⟩
    · cases h2
    · injection e2 with e3 _ e4
      injection e3 with e3
      injection e3 with e3 _
      subst e3 e4
      rw [hh] at h3
      exact ⟨C, ⟨hgr1.os, hgr1.tape, hgr1.output, hgr1.size, fun x hx => hgr1.block x (by omega) (fun e => by cases e)⟩, h3, by omega⟩)
  clear hown1 hgr1
  go_loopw [9] (fun vk wr => ∃ (k : Nat) (C : Array Value), vk = .int .i64 k ∧ k ≤ n ∧ Hid (Below h w wr ∧ wr.heap[h]? = some (.cells C 3 (0, 0)) ∧ C.size = n ∧ ∀ i, i < k → C[i]? = some (.int .i64 (i : Nat)))) (fun vk _ => n - (RowKit.intOf vk).toNat)
  case atStart =>
    obtain ⟨C, a1, a2, a3⟩ := H1.out
    exact ⟨0, C, rfl, by omega, Lib.hid ⟨a1, a2, a3, fun i hi => by omega⟩⟩
  case round =>
    clear H1
    obtain ⟨k, C, rfl, hk, HI⟩ := hrel
    by_cases hlt : k < n
    · have hlt' : (k : Int) < (n : Int) := by omega
      have ck : wr.cell? ⟨h, k, none⟩ = some C[k]! := by
        rw [Lib.cell_of_heap HI.out.2.1]
        have := HI.out.2.2.1
        rw [getElem!_pos C k (by omega)]
        simp [show k < C.size by omega]
      have fk : wr.frozen? ⟨h, k, none⟩ = false := Lib.frozen_of_heap HI.out.2.1 _
      have hnew := heap_setCell_same wr h k _ _ (.int .i64 (k : Nat)) HI.out.2.1
      have HN := Lib.hid hnew
      clear hnew hlt
      go_wp2_with fail
      refine ⟨⟨k + 1, _, by go_num, by omega, Lib.hid ⟨HI.out.1.setCell (Nat.le_refl _) _, HN.out, by simp [HI.out.2.2.1], fun i hi => ?_⟩⟩, by simp [RowKit.intOf]; omega⟩
      rw [Array.getElem?_setIfInBounds]
      by_cases e : k = i
      · subst e
        rw [if_pos rfl, if_pos (by rw [HI.out.2.2.1]; omega)]
      · rw [if_neg e]
        exact HI.out.2.2.2 i (by omega)
    · have hkn : k = n := by omega
      subst hkn
      have hlt' : ¬ (k : Int) < (k : Int) := by omega
      clear hlt
      go_wp2
      go_ret
      refine ⟨rfl, ⟨fun i => i, ⟨fun i hi => ⟨Nat.le_refl _, hi⟩, fun i hi j h1 h2 => by omega⟩, fun j hj => ⟨fun _ => rfl, fun _ => trivial⟩, fun i hi => ⟨?_, Lib.frozen_of_heap HI.out.2.1 _⟩⟩, HI.out.1, (Array.getElem?_eq_some_iff.1 HI.out.2.1).1⟩
      rw [Lib.cell_of_heap HI.out.2.1]
      exact HI.out.2.2.2 i hi
end Go.Proofs.YtcfhblbmpbfoaaaGreatDoor
namespace Go.Proofs.YtcfhblbmpbfoaaaGreatDoor
open Go Go.RowKit Go.Kt Go.Kt.Rg

def hanR : List (Nat × Nat × Int) := [(44032, 55203, 0), (4352, 4370, 0), (4449, 4469, 0), (4520, 4546, 0)]
def noR : List (Nat × Nat × Int) := [(55296, 57343, 0)]
def sylR : List (Nat × Nat × Int) := [(44032, 55203, 1)]

theorem phanR (w : World) : Calls Tryz.prog 107 #[] w fun e w' => e = .returned (.slice (some ⟨w.heap.size, 0, none⟩) 4 4) ∧ w.alloc (.cells (rwE hanR).toArray 160) = w' := by
  go_enter Tryz.func107, Tryz.ntmps107
  go_wp2
  go_ret
  exact ⟨rfl, rfl⟩
theorem pnoR (w : World) : Calls Tryz.prog 108 #[] w fun e w' => e = .returned (.slice (some ⟨w.heap.size, 0, none⟩) 1 1) ∧ w.alloc (.cells (rwE noR).toArray 160) = w' := by
  go_enter Tryz.func108, Tryz.ntmps108
  go_wp2
  go_ret
  exact ⟨rfl, rfl⟩
theorem psylR (w : World) : Calls Tryz.prog 109 #[] w fun e w' => e = .returned (.slice (some ⟨w.heap.size, 0, none⟩) 1 1) ∧ w.alloc (.cells (rwE sylR).toArray 160) = w' := by
  go_enter Tryz.func109, Tryz.ntmps109
  go_wp2
  go_ret
  exact ⟨rfl, rfl⟩
end Go.Proofs.YtcfhblbmpbfoaaaGreatDoor
namespace Go.Proofs.YtcfhblbmpbfoaaaGreatDoor
open Go Go.RowKit Go.Kt Go.Kt.Bits

set_option maxRecDepth 100000 in
theorem psearch (g : Nat) (cb : Array Value) (n : Nat) (p : Nat → Bool) (w : World) (eg : ∀ args w, (callFunc g args).run Tryz.prog w = .ok (.enter g args) w) (hn : n ≤ 140737488351232)
    (hf : ∀ (m i : Nat), i < n → Calls Tryz.prog g (#[.int .i64 i] ++ cb) (w.drewN m) fun e w' => e = .returned (.bool (p i)) ∧ ∃ q, w' = (w.drewN m).drewN q)
    (hm : ∀ a b, a ≤ b → p a = true → p b = true) :
    Calls Tryz.prog 124 #[.int .i64 n, .func (.func g) #[] cb] w fun e w' => e = .returned (.int .i64 (cnt (fun i => !p i) n : Nat)) ∧ ∃ q, w' = w.drewN q := by
  have HF := Lib.hid hf
  have HM := Lib.hid hm
  have HC := Lib.hid (count_front p hm n)
  have hcl := cnt_le (fun i => !p i) n
  obtain ⟨j, hj⟩ : ∃ j, cnt (fun i => !p i) n = j := ⟨_, rfl⟩
  rw [hj] at HC hcl ⊢
  clear hf hm hj
  go_enter Tryz.func124, Tryz.ntmps124
  go_wp2
  go_loopg [5, 6] n (fun kx s5 s6 wr => ∃ (lo hi q : Nat), s5 = .int .i64 lo ∧ s6 = .int .i64 hi ∧ lo ≤ j ∧ j ≤ hi ∧ hi ≤ n ∧ hi - lo ≤ kx ∧ wr = w.drewN q)
  case atStart => exact ⟨0, n, 0, rfl, rfl, by omega, hcl, by omega, by omega, rfl⟩
  case round =>
    obtain ⟨lo, hi, q, rfl, rfl, h1, h2, h3, h4, rfl⟩ := hrel
    by_cases hlt : lo < hi
    · have hc := HF.out q ((lo + hi) / 2) (by omega)
      rw [show (((lo + hi) / 2 : Nat) : Int) = ((lo : Int) + (hi : Int)) / 2 by omega] at hc
      cases hp : p ((lo + hi) / 2) <;> rw [hp] at hc
      · have hj1 : (lo + hi) / 2 < j := by
          rcases Nat.lt_or_ge ((lo + hi) / 2) j with h | h
          · exact h
          · have := HC.out.2 _ h (by omega); rw [hp] at this; cases this
        have CC := Lib.hid hc
        clear hp hc
        go_wp2_with (go_at_fn g; refine CC.out.mono ?_; rintro e w' ⟨rfl, nq, rfl⟩)
        go_roundg (hi - ((lo + hi) / 2 + 1))
        case measure => omega
        case rel => exact ⟨(lo + hi) / 2 + 1, hi, q + nq, by rw [show ((lo : Int) + (hi : Int)) / 2 + 1 = (((lo + hi) / 2 + 1 : Nat) : Int) by omega], rfl, by omega, h2, h3, Nat.le_refl _, rfl⟩
      · have hj1 : j ≤ (lo + hi) / 2 := by
          rcases Nat.lt_or_ge ((lo + hi) / 2) j with h | h
          · have := HC.out.1 _ h; rw [hp] at this; cases this
          · exact h
        have CC := Lib.hid hc
        clear hp hc
        go_wp2_with (go_at_fn g; refine CC.out.mono ?_; rintro e w' ⟨rfl, nq, rfl⟩)
        go_roundg ((lo + hi) / 2 - lo)
        case measure => omega
        case rel => exact ⟨lo, (lo + hi) / 2, q + nq, rfl, by rw [show ((lo : Int) + (hi : Int)) / 2 = (((lo + hi) / 2 : Nat) : Int) by omega], h1, hj1, by omega, Nat.le_refl _, rfl⟩
    · obtain rfl : lo = j := by omega
      go_wp2
      go_ret
      exact ⟨rfl, q, rfl⟩
end Go.Proofs.YtcfhblbmpbfoaaaGreatDoor
namespace Go.Proofs.YtcfhblbmpbfoaaaGreatDoor
open Go Go.RowKit Go.Kt Go.Kt.Rg Go.Maps

def rd0 : RdS := ⟨[], [], fun _ => none, fun _ => none, fun _ => none, fun _ => none⟩
theorem MapG.alloc {P : Program} {k : TypeId} {b n : Nat} {f : Lit → Option Value} {w : World} (h : MapG P k b n f w) (o : Obj) : MapG P k b n f (w.alloc o) := MapG.keep h ((Keep.refl (fun _ => False) w).alloc o) (fun h => h)
theorem ptF_none {vs : Nat → Option Value} (h : ∀ x, vs x = none) (kl : Lit) : none = ptF vs kl := by
  unfold ptF
  split
  · split
    · rw [h]
    · rfl
  · rfl
theorem says_put (g : Nat) (kl : Lit) (hk : WideAt.IsKeyLit kl) : putF (putF (putF (putF (fun _ => none) (.string [99, 108, 97, 115, 115]) (saysV g 92)) (.string [107, 105, 110, 100]) (saysV g 93)) (.string [102, 111, 108, 100]) (saysV g 94)) (.string [100, 101, 99, 111, 109, 112]) (saysV g 95) kl = saysF g kl := by
  by_cases e4 : kl = .string [100, 101, 99, 111, 109, 112]
  · subst e4; rw [putF_same _ _ hk]; rfl
  rw [putF_other _ e4]
  by_cases e3 : kl = .string [102, 111, 108, 100]
  · subst e3; rw [putF_same _ _ hk]; rfl
  rw [putF_other _ e3]
  by_cases e2 : kl = .string [107, 105, 110, 100]
  · subst e2; rw [putF_same _ _ hk]; rfl
  rw [putF_other _ e2]
  by_cases e1 : kl = .string [99, 108, 97, 115, 115]
  · subst e1; rw [putF_same _ _ hk]; rfl
  rw [putF_other _ e1]
  unfold saysF
  split
  · rename_i b
    rw [if_neg (fun h => e1 (by rw [h])), if_neg (fun h => e2 (by rw [h])), if_neg (fun h => e3 (by rw [h])), if_neg (fun h => e4 (by rw [h]))]
  · rfl
def newRole (H : Nat) : Nat → Nat := fun b => if b = H then 4 else if b = H + 1 then 5 else if b = H + 1 + 1 then 6 else if b = H + 1 + 1 + 1 then 7 else if b = H + 1 + 1 + 1 + 1 then 1 else if b = H + 1 + 1 + 1 + 1 + 1 then 8 else 0
theorem newRole_le (H b : Nat) (h : newRole H b ≠ 0) : H ≤ b := by
  unfold newRole at h
  refine Nat.le_of_not_lt fun hb => h ?_
  rw [if_neg (by omega), if_neg (by omega), if_neg (by omega), if_neg (by omega), if_neg (by omega), if_neg (by omega)]

theorem newRole0 (H : Nat) : newRole H (H) = 4 := by unfold newRole; rw [if_pos rfl]
theorem newRole1 (H : Nat) : newRole H (H + 1) = 5 := by unfold newRole; rw [if_neg (by omega), if_pos rfl]
theorem newRole2 (H : Nat) : newRole H (H + 1 + 1) = 6 := by unfold newRole; rw [if_neg (by omega), if_neg (by omega), if_pos rfl]
theorem newRole3 (H : Nat) : newRole H (H + 1 + 1 + 1) = 7 := by unfold newRole; rw [if_neg (by omega), if_neg (by omega), if_neg (by omega), if_pos rfl]
theorem newRole4 (H : Nat) : newRole H (H + 1 + 1 + 1 + 1) = 1 := by unfold newRole; rw [if_neg (by omega), if_neg (by omega), if_neg (by omega), if_neg (by omega), if_pos rfl]
theorem newRole5 (H : Nat) : newRole H (H + 1 + 1 + 1 + 1 + 1) = 8 := by unfold newRole; rw [if_neg (by omega), if_neg (by omega), if_neg (by omega), if_neg (by omega), if_neg (by omega), if_pos rfl]
set_option maxRecDepth 100000 in
set_option maxHeartbeats 4000000 in
theorem pnewR (w : World) : Calls Tryz.prog 52 #[] w fun e w' => ∃ R : RdB, e = .returned (.pointer (some ⟨R.g, 0, none⟩)) ∧ Below w.heap.size w w' ∧ ∃ ρ, RdW w.heap.size ρ R 0 0 0 rd0 (.slice none 0 0) (.slice none 0 0) w' := by
  have hm1 : ∀ W : World, (Instr.makeMap 89 none).run Tryz.prog W = .ok (.map (some W.heap.size)) (W.alloc (.map #[] 0)) := fun W => run_makeMap _ _
  have hm2 : ∀ W : World, (Instr.makeMap 90 none).run Tryz.prog W = .ok (.map (some W.heap.size)) (W.alloc (.map #[] 0)) := fun W => run_makeMap _ _
  have hm3 : ∀ W : World, (Instr.makeMap 87 none).run Tryz.prog W = .ok (.map (some W.heap.size)) (W.alloc (.map #[] 0)) := fun W => run_makeMap _ _
  go_enter Tryz.func52, Tryz.ntmps52
  go_wp2_with fail
  clear hm1 hm2 hm3
  obtain ⟨H, hH⟩ : ∃ H, w.heap.size = H := ⟨_, rfl⟩
  rw [hH]
  have k1 : ∀ (W : World) (o : Obj), (W.alloc o).heap.size = W.heap.size + 1 := fun W o => Array.size_push _
  obtain ⟨W0, hW0⟩ : ∃ W0, ((((((w.alloc (.map #[] 0)).alloc (.map #[] 0)).alloc (.map #[] 0)).alloc (.map #[] 0)).alloc (.cells #[.map none, .int .i64 0, .slice none 0 0, .slice none 0 0, .map (some H), .map (some (H + 1)), .map (some (H + 1 + 1)), .map (some (H + 1 + 1 + 1))] 92)).alloc (.map #[] 0)) = W0 := ⟨_, rfl⟩
  rw [hW0]
  have hM0 : MapG Tryz.prog 9 (H + 1 + 1 + 1 + 1 + 1) 0 (fun _ => none) W0 := by
    have := MapG.made (((((w.alloc (.map #[] 0)).alloc (.map #[] 0)).alloc (.map #[] 0)).alloc (.map #[] 0)).alloc (.cells #[.map none, .int .i64 0, .slice none 0 0, .slice none 0 0, .map (some H), .map (some (H + 1)), .map (some (H + 1 + 1)), .map (some (H + 1 + 1 + 1))] 92)) Tryz.prog 9
    rw [hW0] at this
    simp only [k1, hH] at this
    exact this
  obtain ⟨w1, hr1, hM1, hK1⟩ := hM0.put (string_keyed Tryz.underlying9) Tryz.underlying87 (by decide) (val := saysV (H + 1 + 1 + 1 + 1) 92) (key := .string ⟨#[99, 108, 97, 115, 115]⟩) (kl := .string [99, 108, 97, 115, 115]) (Go.WideMaps.keyOf_string_mk (P := Tryz.prog) Tryz.underlying9 (s := ⟨#[99, 108, 97, 115, 115]⟩) (by decide))
  unfold saysV at hr1
  rw [hr1]
  clear hr1
  go_wp2_with fail
  obtain ⟨w2, hr2, hM2, hK2⟩ := hM1.put (string_keyed Tryz.underlying9) Tryz.underlying87 (by decide) (val := saysV (H + 1 + 1 + 1 + 1) 93) (key := .string ⟨#[107, 105, 110, 100]⟩) (kl := .string [107, 105, 110, 100]) (Go.WideMaps.keyOf_string_mk (P := Tryz.prog) Tryz.underlying9 (s := ⟨#[107, 105, 110, 100]⟩) (by decide))
  unfold saysV at hr2
  rw [hr2]
  clear hr2
  go_wp2_with fail
  obtain ⟨w3, hr3, hM3, hK3⟩ := hM2.put (string_keyed Tryz.underlying9) Tryz.underlying87 (by decide) (val := saysV (H + 1 + 1 + 1 + 1) 94) (key := .string ⟨#[102, 111, 108, 100]⟩) (kl := .string [102, 111, 108, 100]) (Go.WideMaps.keyOf_string_mk (P := Tryz.prog) Tryz.underlying9 (s := ⟨#[102, 111, 108, 100]⟩) (by decide))
  unfold saysV at hr3
  rw [hr3]
  clear hr3
  go_wp2_with fail
  obtain ⟨w4, hr4, hM4, hK4⟩ := hM3.put (string_keyed Tryz.underlying9) Tryz.underlying87 (by decide) (val := saysV (H + 1 + 1 + 1 + 1) 95) (key := .string ⟨#[100, 101, 99, 111, 109, 112]⟩) (kl := .string [100, 101, 99, 111, 109, 112]) (Go.WideMaps.keyOf_string_mk (P := Tryz.prog) Tryz.underlying9 (s := ⟨#[100, 101, 99, 111, 109, 112]⟩) (by decide))
  unfold saysV at hr4
  rw [hr4]
  clear hr4
  have hcell : W0.heap[H + 1 + 1 + 1 + 1]? = some (.cells #[.map none, .int .i64 0, .slice none 0 0, .slice none 0 0, .map (some H), .map (some (H + 1)), .map (some (H + 1 + 1)), .map (some (H + 1 + 1 + 1))] 92 (0, 0)) := by
    rw [← hW0, heap_alloc_if, if_neg (by simp only [k1, hH]; omega), heap_alloc_if, if_pos (by simp only [k1, hH])]
  have g1 : Hid (MapG Tryz.prog 21 H 0 (fun _ => none) W0) := Lib.hid (by
    have := MapG.made w Tryz.prog 21
    rw [hH] at this
    rw [← hW0]
    exact MapG.alloc (MapG.alloc (MapG.alloc (MapG.alloc (MapG.alloc this _) _) _) _) _)
  have g2 : Hid (MapG Tryz.prog 21 (H + 1) 0 (fun _ => none) W0) := Lib.hid (by
    have := MapG.made (w.alloc (.map #[] 0)) Tryz.prog 21
    simp only [k1, hH] at this
    rw [← hW0]
    exact MapG.alloc (MapG.alloc (MapG.alloc (MapG.alloc this _) _) _) _)
  have g3 : Hid (MapG Tryz.prog 21 (H + 1 + 1) 0 (fun _ => none) W0) := Lib.hid (by
    have := MapG.made ((w.alloc (.map #[] 0)).alloc (.map #[] 0)) Tryz.prog 21
    simp only [k1, hH] at this
    rw [← hW0]
    exact MapG.alloc (MapG.alloc (MapG.alloc this _) _) _)
  have g4 : Hid (MapG Tryz.prog 21 (H + 1 + 1 + 1) 0 (fun _ => none) W0) := Lib.hid (by
    have := MapG.made (((w.alloc (.map #[] 0)).alloc (.map #[] 0)).alloc (.map #[] 0)) Tryz.prog 21
    simp only [k1, hH] at this
    rw [← hW0]
    exact MapG.alloc (MapG.alloc this _) _)
  have hBW : Below H w W0 := by
    rw [← hW0, ← hH]
    exact ((((((Below.refl _ w).alloc (Nat.le_refl _) _).alloc (by simp) _).alloc (by simp; omega) _).alloc (by simp; omega) _).alloc (by simp; omega) _).alloc (by simp; omega) _
  have hKK := ((hK1.trans hK2).trans hK3).trans hK4
  have HKK := Lib.hid hKK
  have HBW := Lib.hid hBW
  have HM4 := Lib.hid (MapG.congr hM4 (says_put _))
  have hz : W0.heap.size = H + 1 + 1 + 1 + 1 + 1 + 1 := by rw [← hW0]; simp only [k1, hH]
  have HZ := Lib.hid hz
  have hcell4 := hKK.heap hcell (by omega)
  have HC4 := Lib.hid hcell4
  have c0 : w4.cell? ⟨H + 1 + 1 + 1 + 1, 0, none⟩ = some (.map none) := by rw [Lib.cell_of_heap hcell4]; rfl
  have f0 : w4.frozen? ⟨H + 1 + 1 + 1 + 1, 0, none⟩ = false := Lib.frozen_of_heap hcell4 _
  clear hM0 hM1 hM2 hM3 hM4 hK1 hK2 hK3 hK4 hKK hBW hcell hcell4 hW0 k1 hz
  go_wp2
  go_ret
  rw [hH]
  have hset := heap_setCell_same w4 (H + 1 + 1 + 1 + 1) 0 _ _ (.map (some (H + 1 + 1 + 1 + 1 + 1))) HC4.out
  obtain ⟨W5, hW5⟩ : ∃ W5, w4.setCell ⟨H + 1 + 1 + 1 + 1, 0, none⟩ (.map (some (H + 1 + 1 + 1 + 1 + 1))) = W5 := ⟨_, rfl⟩
  have hK5 : Keep (fun b => b = H + 1 + 1 + 1 + 1) w4 W5 := by
    rw [← hW5]
    exact Keep.setCell (X := fun b => b = H + 1 + 1 + 1 + 1) (Keep.refl _ w4) (p := ⟨H + 1 + 1 + 1 + 1, 0, none⟩) rfl _
  rw [hW5] at hset ⊢
  have hz4 := HKK.out.size
  rw [HZ.out] at hz4
  have hK : Keep (fun b => b = H + 1 + 1 + 1 + 1 + 1 ∨ b = H + 1 + 1 + 1 + 1) W0 W5 := (HKK.out.weaken (fun _ _ h => Or.inl h)).trans (hK5.weaken (fun _ _ h => Or.inr h))
  refine ⟨⟨H + 1 + 1 + 1 + 1, H + 1 + 1 + 1 + 1 + 1, H, H + 1, H + 1 + 1, H + 1 + 1 + 1⟩, rfl, HBW.out.trans (hK.below (by rw [HZ.out]; omega) (fun b hb => by omega)), newRole H, ?_⟩
  have gm : ∀ (b k : Nat) (f : Lit → Option Value), MapG Tryz.prog k b 0 (fun _ => none) W0 → b < H + 1 + 1 + 1 + 1 → (∀ kl, none = f kl) → MapG Tryz.prog k b 0 f W5 := fun b k f h h2 h3 => MapG.congr (MapG.keep h hK (by omega)) (fun kl _ => h3 kl)
  exact {
    hr := newRole_le H, hB := by have := hK5.size; omega, g := newRole4 H, cell := by simpa [cellsR] using hset
    c := own_nil _ _ _ _
    k := own_nil _ _ _ _
    d := ⟨newRole0 H, fun _ => none, gm (H) _ _ g1.out (by omega) (ptF_none (fun _ => rfl)), fun _ => rfl, fun _ _ _ h => by cases h⟩
    f := ⟨newRole1 H, fun _ => none, gm (H + 1) _ _ g2.out (by omega) (ptF_none (fun _ => rfl)), fun _ => rfl, fun _ _ _ h => by cases h⟩
    l := ⟨newRole2 H, gm (H + 1 + 1) _ _ g3.out (by omega) (ptF_none (fun _ => rfl))⟩
    e := ⟨newRole3 H, gm (H + 1 + 1 + 1) _ _ g4.out (by omega) (ptF_none (fun _ => rfl))⟩
    s := ⟨newRole5 H, MapG.keep HM4.out hK5 (show ¬ H + 1 + 1 + 1 + 1 + 1 = H + 1 + 1 + 1 + 1 by omega)⟩ }
end Go.Proofs.YtcfhblbmpbfoaaaGreatDoor
