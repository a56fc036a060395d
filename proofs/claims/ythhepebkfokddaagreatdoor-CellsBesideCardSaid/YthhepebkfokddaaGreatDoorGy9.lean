/- Parts of the proof of what the last text says. -/
import Derived.Test.YthhepebkfokddaaGreatDoorGy7
import Derived.Test.YthhepebkfokddaaGreatDoorGy3
import Derived.Test.YthhepebkfokddaaGreatDoorGy8
import Derived.Deep.CutRange
import Derived.Deep.CutBlock
import Derived.Deep.DeepCutAuto
import Derived.Test.YthhepebkfokddaaGreatDoorGy5
/- slices.Sort on numbers of 32 bits: patterns are broken, by numbers that nobody knows. -/
namespace Go.Proofs.YthhepebkfokddaaGreatDoor
open Go Go.RowKit Go.Kt Go.Kt.Os Go.Sort

set_option maxRecDepth 100000 in
set_option maxHeartbeats 1000000 in
theorem oNext (rb : Nat) (x : Int) (w : World) (hc : w.cell? ⟨rb, 0, none⟩ = some (.int .u64 x)) (hf : w.frozen? ⟨rb, 0, none⟩ = false) :
    Calls Tryz.prog 160 #[.pointer (some ⟨rb, 0, none⟩)] w fun e w' => ∃ y : Int, e = .returned (.int .u64 y) ∧ w'.cell? ⟨rb, 0, none⟩ = some (.int .u64 y) ∧ w'.frozen? ⟨rb, 0, none⟩ = false ∧ Keep (fun b => b = rb) w w' := by
  go_enter Tryz.func160, Tryz.ntmps160
  go_wp2
  have K0 := Lib.hid (Keep.refl (fun b => b = rb) w)
  go_region
  go_wp2_with fail
  generalize bits BinOp.xor IntKind.u64 x (IntKind.u64.wrap (x * 8192)) = y1
  have c1 : ((w.setCell ⟨rb, 0, none⟩ (.int .u64 y1)).drew).cell? ⟨rb, 0, none⟩ = some (.int .u64 y1) := World.cell?_setCell_same _ _ _ hc
  have f1 : ((w.setCell ⟨rb, 0, none⟩ (.int .u64 y1)).drew).frozen? ⟨rb, 0, none⟩ = false := (World.frozen?_setCell _ _ _ _).trans hf
  have K1 : Hid (Keep (fun b => b = rb) w (w.setCell ⟨rb, 0, none⟩ (.int .u64 y1)).drew) := Lib.hid ((K0.out.setCell (p := ⟨rb, 0, none⟩) rfl _).drew)
  generalize ((w.setCell ⟨rb, 0, none⟩ (.int .u64 y1)).drew) = w1 at c1 f1 K1 ⊢
  go_region
  go_wp2_with fail
  generalize bits BinOp.xor IntKind.u64 y1 (y1 / 128) = y2
  have c2 : ((w1.setCell ⟨rb, 0, none⟩ (.int .u64 y2)).drew).cell? ⟨rb, 0, none⟩ = some (.int .u64 y2) := World.cell?_setCell_same _ _ _ c1
  have f2 : ((w1.setCell ⟨rb, 0, none⟩ (.int .u64 y2)).drew).frozen? ⟨rb, 0, none⟩ = false := (World.frozen?_setCell _ _ _ _).trans f1
  have K2 : Hid (Keep (fun b => b = rb) w (w1.setCell ⟨rb, 0, none⟩ (.int .u64 y2)).drew) := Lib.hid ((K1.out.setCell (p := ⟨rb, 0, none⟩) rfl _).drew)
  generalize ((w1.setCell ⟨rb, 0, none⟩ (.int .u64 y2)).drew) = w2 at c2 f2 K2 ⊢
  go_region
  go_wp2_with fail
  generalize bits BinOp.xor IntKind.u64 y2 (IntKind.u64.wrap (y2 * 131072)) = y3
  have c3 : ((w2.setCell ⟨rb, 0, none⟩ (.int .u64 y3)).drew).cell? ⟨rb, 0, none⟩ = some (.int .u64 y3) := World.cell?_setCell_same _ _ _ c2
  have f3 : ((w2.setCell ⟨rb, 0, none⟩ (.int .u64 y3)).drew).frozen? ⟨rb, 0, none⟩ = false := (World.frozen?_setCell _ _ _ _).trans f2
  have K3 : Hid (Keep (fun b => b = rb) w (w2.setCell ⟨rb, 0, none⟩ (.int .u64 y3)).drew) := Lib.hid ((K2.out.setCell (p := ⟨rb, 0, none⟩) rfl _).drew)
  generalize ((w2.setCell ⟨rb, 0, none⟩ (.int .u64 y3)).drew) = w3 at c3 f3 K3 ⊢
  go_wp2
  go_ret
  exact ⟨y3, rfl, c3, f3, K3.out⟩

theorem bl_zero : ∀ f, Lib.bitLenAux f 0 = 0
  | 0 => rfl
  | _ + 1 => rfl
theorem bl_aux : ∀ (f x : Nat), x < 2 ^ f → x < 2 ^ Lib.bitLenAux f x ∧ (x ≠ 0 → 2 ^ Lib.bitLenAux f x ≤ 2 * x)
  | 0, x, h => by
    have : x = 0 := by simpa using h
    subst this
    exact ⟨by simp [Lib.bitLenAux], fun e => absurd rfl e⟩
  | f + 1, x, h => by
    by_cases h0 : x = 0
    · subst h0
      rw [bl_zero]
      exact ⟨by decide, fun e => absurd rfl e⟩
    · have hd : x / 2 < 2 ^ f := by rw [Nat.pow_succ] at h; omega
      obtain ⟨i1, i2⟩ := bl_aux f (x / 2) hd
      have e : Lib.bitLenAux (f + 1) x = 1 + Lib.bitLenAux f (x / 2) := by rw [Lib.bitLenAux, if_neg h0]
      rw [e, Nat.add_comm, Nat.pow_succ]
      refine ⟨by omega, fun _ => ?_⟩
      by_cases h1 : x / 2 = 0
      · rw [h1, bl_zero]; omega
      · have := i2 h1; omega
theorem bl_le : ∀ (f x : Nat), Lib.bitLenAux f x ≤ f
  | 0, _ => Nat.le_refl _
  | f + 1, x => by
    by_cases h0 : x = 0
    · subst h0; rw [bl_zero]; omega
    · have := bl_le f (x / 2)
      rw [Lib.bitLenAux, if_neg h0]; omega

theorem wrap_pow {k : Nat} (hk : k ≤ 63) : IntKind.u64.wrap ((2 : Int) ^ k) = ((2 ^ k : Nat) : Int) := by
  have h1 : 2 ^ k < 2 ^ 64 := Nat.pow_lt_pow_right (by decide) (by omega)
  rw [show (2 : Int) ^ k = ((2 ^ k : Nat) : Int) by simp]
  generalize 2 ^ k = z at h1
  show (if (false && decide ((z : Int) % 2 ^ 64 ≥ 2 ^ (64 - 1))) = true then (z : Int) % 2 ^ 64 - 2 ^ 64 else (z : Int) % 2 ^ 64) = _
  rw [Bool.false_and, if_neg (by decide)]
  omega

theorem bits_mask (y : Int) {k : Nat} (hk : k ≤ 63) : ∃ r : Nat, bits .and .u64 y ((2 : Int) ^ k - 1) = (r : Int) ∧ (r : Int) < (2 : Int) ^ k := by
  have h1 : 2 ^ k < 2 ^ 64 := Nat.pow_lt_pow_right (by decide) (by omega)
  have h0 : 0 < 2 ^ k := Nat.pos_of_ne_zero (by simp)
  have e0 : (2 : Int) ^ k = ((2 ^ k : Nat) : Int) := by simp
  rw [e0]
  generalize 2 ^ k = z at h0 h1
  have e1 : ((z : Int) - 1) = ((z - 1 : Nat) : Int) := by omega
  rw [e1]
  have h2 : ((BitVec.ofInt 64 y) &&& (BitVec.ofInt 64 ((z - 1 : Nat) : Int))).toNat ≤ z - 1 := by
    rw [BitVec.toNat_and]
    refine Nat.le_trans Nat.and_le_right ?_
    rw [BitVec.toNat_ofInt]
    omega
  refine ⟨((BitVec.ofInt 64 y) &&& (BitVec.ofInt 64 ((z - 1 : Nat) : Int))).toNat, ?_, by omega⟩
  show IntKind.u64.wrap (((BitVec.ofInt 64 y) &&& (BitVec.ofInt 64 ((z - 1 : Nat) : Int))).toNat : Int) = _
  generalize ((BitVec.ofInt 64 y) &&& (BitVec.ofInt 64 ((z - 1 : Nat) : Int))).toNat = r at h2
  show (if (false && decide ((r : Int) % 2 ^ 64 ≥ 2 ^ (64 - 1))) = true then (r : Int) % 2 ^ 64 - 2 ^ 64 else (r : Int) % 2 ^ 64) = _
  rw [Bool.false_and, if_neg (by decide)]
  omega

set_option maxRecDepth 100000 in
set_option maxHeartbeats 1000000 in
theorem oPow (n : Nat) (w : World) (h0 : 1 ≤ n) (hn : n < 4611686018427387904) :
    Calls Tryz.prog 159 #[.int .i64 n] w fun e w' => ∃ m : Int, e = .returned (.int .u64 m) ∧ (n : Int) < m ∧ m ≤ 2 * (n : Int) ∧ (∀ y : Int, ∃ r : Nat, bits .and .u64 y (m - 1) = (r : Int) ∧ (r : Int) < m) ∧ w' = w := by
  obtain ⟨b1, b2⟩ := bl_aux 64 n (by omega)
  have hb : 2 ^ Lib.bitLenAux 64 n ≤ 2 * n := b2 (by omega)
  have hk : Lib.bitLenAux 64 n ≤ 63 := by
    rcases Nat.lt_or_ge 63 (Lib.bitLenAux 64 n) with h | h
    · have : 2 ^ 64 ≤ 2 ^ Lib.bitLenAux 64 n := Nat.pow_le_pow_right (by decide) h
      omega
    · exact h
  have C0 := Tryz.bits_Len (n : Int) w (by omega) (by omega)
  rw [Int.toNat_natCast, show Lib.bitLen n = Lib.bitLenAux 64 n from rfl] at C0
  obtain ⟨k, hkk⟩ : ∃ k, Lib.bitLenAux 64 n = k := ⟨_, rfl⟩
  rw [hkk] at C0 b1 hb hk
  have e0 : (2 : Int) ^ k = ((2 ^ k : Nat) : Int) := by simp
  have HX := Lib.hid (show (n : Int) < 2 ^ k ∧ (2 : Int) ^ k ≤ 2 * (n : Int) ∧ k ≤ 63 from ⟨by rw [e0]; omega, by rw [e0]; omega, hk⟩)
  have C := Lib.hid C0
  clear C0 b1 b2 hb hkk e0
  go_enter Tryz.func159, Tryz.ntmps159
  go_wp2_with fail
  refine C.out.mono ?_
  rintro e w' ⟨rfl, rfl⟩
  go_wp2
  go_ret
  exact ⟨(2 : Int) ^ k, congrArg (fun z => Ending.returned (Value.int .u64 z)) ((wrap_pow HX.out.2.2).trans (by simp)), HX.out.1, HX.out.2.1, fun y => bits_mask y HX.out.2.2, rfl⟩

set_option maxRecDepth 100000 in
set_option maxHeartbeats 1000000 in
theorem oBreak (blk off cap a l n : Nat) (d : Array Int) (w : World) (hn : d.size = n) (hH : Holds E32 w blk off d) (hblk : blk < w.heap.size) (hl8 : 8 ≤ l) (hb : a + l ≤ n) (hsz : n < 4611686018427387904) :
    Calls Tryz.prog 140 #[.slice (some ⟨blk, off, none⟩) n cap, .int .i64 a, .int .i64 ((a : Int) + (l : Int))] w fun e w' =>
      e = .returned (.tuple #[]) ∧ ∃ d', PermIn a (a + l) d d' ∧ SW w blk off d' w' := by
  have HS1 := Lib.hid (SW.refl hH)
  have HN := Lib.hid hn
  clear hH hn
  have hl8z : (8 : Int) ≤ (a : Int) + (l : Int) - (a : Int) := by omega
  have EL := Lib.hid (show (a : Int) + (l : Int) - (a : Int) = (l : Int) by omega)
  have C := Lib.hid (fun W => oPow l W (by omega) (by omega))
  go_enter Tryz.func140, Tryz.ntmps140
  go_wp2_with fail
  rw [EL.out]
  refine (C.out _).mono ?_
  rintro e w1 ⟨m, rfl, m1, m2, m3, rfl⟩
  have HM := Lib.hid m3
  clear C m3 hl8z
  have m4 : m ≤ 9223372036854775807 := by omega
  go_wp2_with fail
  obtain ⟨q, hq⟩ : ∃ q, q = l / 4 * 2 := ⟨_, rfl⟩
  have hq1 : 4 ≤ q := by omega
  have hq2 : q + 1 < l := by omega
  have EQ := Lib.hid (show (l : Int) / 4 * 2 = (q : Int) by omega)
  clear hq
  rw [EQ.out]
  have K1 : Hid (Keep (fun b => b = blk) w (w.alloc (.cells #[.int .u64 (l : Int)] 209))) := Lib.hid ((Keep.refl _ _).alloc _)
  have hs1 : SW w blk off d (w.alloc (.cells #[.int .u64 (l : Int)] 209)) := ⟨K1.out, holds_keep HS1.out.holds ((Keep.refl (fun _ => False) w).alloc _) id⟩
  have hc1 : (w.alloc (.cells #[.int .u64 (l : Int)] 209)).cell? ⟨w.heap.size, 0, none⟩ = some (.int .u64 (l : Int)) := by
    rw [World.cell?_alloc_at _ _ _ _ (by simp)]; rfl
  have hf1 : (w.alloc (.cells #[.int .u64 (l : Int)] 209)).frozen? ⟨w.heap.size, 0, none⟩ = false := by
    exact World.frozen?_alloc_new _ _ _ _
  have HB := Lib.hid (show _ ∧ _ ∧ _ from ⟨hs1, hc1, hf1⟩)
  clear hs1 hc1 hf1 K1
  go_loopw [9] (fun vi wr => ∃ (i : Nat) (dk : Array Int) (x : Int), vi = .int .i64 i ∧ a + q ≤ i + 1 ∧ i ≤ a + q + 2 ∧ Hid (PermIn a (a + l) d dk ∧ SW w blk off dk wr ∧ wr.cell? ⟨w.heap.size, 0, none⟩ = some (.int .u64 x) ∧ wr.frozen? ⟨w.heap.size, 0, none⟩ = false)) (fun vi _ => a + q + 2 - (RowKit.intOf vi).toNat)
  case atStart => exact ⟨a + q - 1, d, (l : Int), by go_num, by omega, by omega, Lib.hid ⟨permIn_refl _ _ _, HB.out⟩⟩
  case round =>
    obtain ⟨i, dk, x, rfl, hi1, hi2, hh⟩ := hrel
    clear HB
    by_cases hi : i ≤ a + q + 1
    · have hiz : (i : Int) ≤ (a : Int) + (l : Int) / 4 * 2 + 1 := by have := EQ.out; omega
      have C := Lib.hid (oNext w.heap.size x wr hh.out.2.2.1 hh.out.2.2.2)
      go_wp2_with fail
      refine C.out.mono ?_
      rintro e w2 ⟨y, rfl, hc2, hf2, hk2⟩
      clear C
      have HB := Lib.hid (show SW w blk off dk w2 ∧ _ ∧ _ from ⟨hh.out.2.1.then (hk2.weaken fun b _ e => by subst e; exact ⟨by omega, Nat.le_refl _⟩), hc2, hf2⟩)
      clear hc2 hf2 hk2
      obtain ⟨r, hr, hrm⟩ := HM.out y
      obtain ⟨G, hG⟩ : ∃ G : Nat → Int, ∀ t, G t = dk[t]! := ⟨fun t => dk[t]!, fun _ => rfl⟩
      have hsk : dk.size = n := hh.out.1.1.trans HN.out
      have hcw := HB.out.1.cells hG hsk
      have hfw := HB.out.1.thaw hsk
      have HG := Lib.hid hG
      have HSK := Lib.hid hsk
      clear hG hsk
      have hrz : (r : Int) ≤ 9223372036854775807 := by omega
      by_cases hrl : l ≤ r
      · have hrlz : (l : Int) ≤ (r : Int) := by omega
        obtain ⟨o, ho⟩ : ∃ o, o = r - l := ⟨_, rfl⟩
        have EO := Lib.hid (show (r : Int) - (l : Int) = (o : Int) by omega)
        have hol : o < l := by omega
        clear ho
        obtain ⟨v3, hy3⟩ := cell?_setCell_some (w := w2) (p := ⟨blk, off + i, none⟩) (x := .int .i32 (G (a + o))) (q := ⟨blk, off + (a + o), none⟩) (hcw (a + o) (by omega))
        go_wp2_with fail
        rw [EO.out]
        go_region
        all_goals go_wp2
        all_goals go_roundw
        case rel => exact ⟨i + 1, swp dk i (a + o), y, by go_num, by omega, by omega, Lib.hid ⟨permIn_trans _ _ _ _ _ hh.out.1 (swp_permIn dk a (a + l) i (a + o) (by omega) (by omega) (by omega) (by omega) (by have := HSK.out; omega)), HB.out.1.swapq HG.out (by have := HSK.out; omega) (by have := HSK.out; omega) 0 1, by
          refine (World.cell?_setCell_other _ _ _ _ (fun e => ?_)).trans ((World.cell?_setCell_other _ _ _ _ (fun e => ?_)).trans HB.out.2.1)
          · injection e with e; omega
          · injection e with e; omega, by
          refine (World.frozen?_setCell _ _ _ _).trans ((World.frozen?_setCell _ _ _ _).trans HB.out.2.2)⟩⟩
        case measure => simp [RowKit.intOf]; omega
      · have hrlz : (r : Int) < (l : Int) := by omega
        obtain ⟨v3, hy3⟩ := cell?_setCell_some (w := w2) (p := ⟨blk, off + i, none⟩) (x := .int .i32 (G (a + r))) (q := ⟨blk, off + (a + r), none⟩) (hcw (a + r) (by omega))
        go_wp2_with fail
        go_region
        all_goals go_wp2
        all_goals go_roundw
        case rel => exact ⟨i + 1, swp dk i (a + r), y, by go_num, by omega, by omega, Lib.hid ⟨permIn_trans _ _ _ _ _ hh.out.1 (swp_permIn dk a (a + l) i (a + r) (by omega) (by omega) (by omega) (by omega) (by have := HSK.out; omega)), HB.out.1.swapq HG.out (by have := HSK.out; omega) (by have := HSK.out; omega) 0 1, by
          refine (World.cell?_setCell_other _ _ _ _ (fun e => ?_)).trans ((World.cell?_setCell_other _ _ _ _ (fun e => ?_)).trans HB.out.2.1)
          · injection e with e; omega
          · injection e with e; omega, by
          refine (World.frozen?_setCell _ _ _ _).trans ((World.frozen?_setCell _ _ _ _).trans HB.out.2.2)⟩⟩
        case measure => simp [RowKit.intOf]; omega
    · have hiz : (a : Int) + (l : Int) / 4 * 2 + 1 < (i : Int) := by have := EQ.out; omega
      go_wp2
      go_end0
      exact ⟨rfl, dk, hh.out.1, hh.out.2.1⟩
end Go.Proofs.YthhepebkfokddaaGreatDoor
/- slices.Sort: what a round of the sort that parts a row keeps. No program. -/
namespace Go.Kt.Os
open Go Go.RowKit Go.Kt Go.Sort

theorem ltI_t {x y : Int} : ltInt x y = true ↔ x < y := by simp [ltInt]
theorem ltI_f {x y : Int} : ltInt x y = false ↔ y ≤ x := by simp [ltInt]

structure PWay (a b : Nat) (d : Array Int) (a' b' : Nat) (dk : Array Int) : Prop where
  lo : a ≤ a'
  mid : a' ≤ b'
  hi : b' ≤ b
  all : b ≤ d.size
  perm : PermIn a b d dk
  under : Sort.Below ltInt a' b' dk
  fin : ∀ d4, PermIn a' b' dk d4 → SortedIn ltInt a' b' d4 → SortedIn ltInt a b d4

section
variable {a b a' b' m : Nat} {d dk d5 d6 : Array Int}
theorem PWay.size (h : PWay a b d a' b' dk) : dk.size = d.size := h.perm.1
theorem PWay.start (hab : a ≤ b) (hb : b ≤ d.size) (h : Sort.Below ltInt a b d) : PWay a b d a b d := ⟨Nat.le_refl _, hab, Nat.le_refl _, hb, permIn_refl _ _ _, h, fun _ _ h => h⟩
theorem PWay.wide (h : PWay a b d a' b' dk) (k : PermIn a' b' dk d5) : PermIn a b d d5 :=
  permIn_trans _ _ _ _ _ h.perm (permIn_mono _ _ _ _ _ _ h.lo h.hi (by rw [h.size]; exact h.all) k)
theorem PWay.done (h : PWay a b d a' b' dk) (k : PermIn a' b' dk d5) (s : SortedIn ltInt a' b' d5) : PermIn a b d d5 ∧ SortedIn ltInt a b d5 := ⟨h.wide k, h.fin _ k s⟩
theorem PWay.turn (h : PWay a b d a' b' dk) (k : PermIn a' b' dk d5) : PWay a b d a' b' d5 :=
  ⟨h.lo, h.mid, h.hi, h.all, h.wide k, h.under.permA permIn_all (by rw [h.size]; have := h.hi; have := h.all; omega) k, fun d4 h1 h2 => h.fin d4 (permIn_trans _ _ _ _ _ k h1) h2⟩
theorem pget (h : PermIn a b d d5) {i : Nat} (hi : i < a ∨ b ≤ i) : d5[i]! = d[i]! := h.2.1 i hi

theorem PWay.equal (h : PWay a b d a' b' dk) (p : Int) (h0 : ∀ i, a' ≤ i → i < b' → ltInt dk[i]! p = false) (k : PermIn a' b' dk d5) (hm : a' < m) (hm' : m ≤ b')
    (h1 : ∀ i, a' ≤ i → i < m → ltInt p d5[i]! = false) (h2 : ∀ i, m ≤ i → i < b' → ltInt p d5[i]! = true) : PWay a b d m b' d5 := by
  have hb' : b' ≤ dk.size := by rw [h.size]; have := h.hi; have := h.all; omega
  have hp := permIn_all dk d5 a' b' (fun x => p ≤ x) hb' k (fun i h3 h4 => ltI_f.1 (h0 i h3 h4))
  refine ⟨by have := h.lo; omega, hm', h.hi, h.all, h.wide k, .inr (fun i h3 h4 => ?_), fun d4 h3 h4 => ?_⟩
  · have e1 := ltI_t.1 (h2 i h3 h4)
    have e2 := ltI_f.1 (h1 (m - 1) (by omega) (by omega))
    exact ltI_f.2 (by omega)
  · refine h.fin d4 (permIn_trans _ _ _ _ _ k (permIn_mono _ _ _ _ _ _ (by omega) (Nat.le_refl _) (by rw [k.1]; exact hb') h3)) (fun i j hi hij hj => ?_)
    have hq := permIn_all d5 d4 m b' (fun x => p < x) (by rw [k.1]; exact hb') h3 (fun i h5 h6 => ltI_t.1 (h2 i h5 h6))
    rcases Nat.lt_or_ge j m with hjm | hjm
    · rw [pget h3 (.inl hjm), pget h3 (.inl (by omega))]
      have e1 := ltI_f.1 (h1 i hi (by omega))
      have e2 := hp j (by omega) hj
      exact ltI_f.2 (by omega)
    · rcases Nat.lt_or_ge i m with him | him
      · rw [pget h3 (.inl him)]
        have e1 := ltI_f.1 (h1 i hi him)
        have e2 := hq j hjm hj
        exact ltI_f.2 (by omega)
      · exact h4 i j him hij hj

structure Parted (a' b' m : Nat) (d5 : Array Int) : Prop where
  le : a' ≤ m
  lt : m < b'
  less : ∀ i, a' ≤ i → i < m → ltInt d5[i]! d5[m]! = true
  more : ∀ i, m < i → i < b' → ltInt d5[i]! d5[m]! = false

theorem PWay.belowL (h : PWay a b d a' b' d5) (k : Parted a' b' m d5) : Sort.Below ltInt a' m d5 := by
  rcases h.under with e | e
  · exact .inl e
  · exact .inr fun i h1 h2 => e i h1 (by have := k.lt; omega)
theorem PWay.belowR (k : Parted a' b' m d5) : Sort.Below ltInt (m + 1) b' d5 := .inr fun i h1 h2 => k.more i (by omega) h2

theorem PWay.left (h : PWay a b d a' b' d5) (k : Parted a' b' m d5) (h1 : PermIn a' m d5 d6) (h2 : SortedIn ltInt a' m d6) : PWay a b d (m + 1) b' d6 := by
  have hs : b' ≤ d5.size := by rw [h.size]; have := h.hi; have := h.all; omega
  have hw : PermIn a' b' d5 d6 := permIn_mono _ _ _ _ _ _ (Nat.le_refl _) (by have := k.lt; omega) hs h1
  have hl := permIn_all d5 d6 a' m (fun x => x < d5[m]!) (by have := k.lt; omega) h1 (fun i h3 h4 => ltI_t.1 (k.less i h3 h4))
  have hm6 : d6[m]! = d5[m]! := pget h1 (.inr (Nat.le_refl _))
  refine ⟨by have := h.lo; have := k.le; omega, k.lt, h.hi, h.all, h.wide hw, .inr (fun i h3 h4 => ?_), fun d4 h3 h4 => ?_⟩
  · rw [Nat.add_sub_cancel, hm6, pget h1 (.inr (by omega))]
    exact k.more i (by omega) h4
  · have hmr := permIn_all d6 d4 (m + 1) b' (fun x => d5[m]! ≤ x) (by rw [h1.1]; exact hs) h3 (fun i h5 h6 => by rw [pget h1 (.inr (by omega))]; exact ltI_f.1 (k.more i (by omega) h6))
    refine h.fin d4 (permIn_trans _ _ _ _ _ hw (permIn_mono _ _ _ _ _ _ (by have := k.le; omega) (Nat.le_refl _) (by rw [h1.1]; exact hs) h3)) (fun i j hi hij hj => ?_)
    have eL : ∀ t, t < m + 1 → d4[t]! = d6[t]! := fun t ht => pget h3 (.inl ht)
    rcases Nat.lt_trichotomy j m with hjm | hjm | hjm
    · rw [eL j (by omega), eL i (by omega)]; exact h2 i j hi hij hjm
    · subst hjm
      rw [eL j (by omega), eL i (by omega), hm6]
      have := hl i hi hij
      exact ltI_f.2 (by omega)
    · have ej := hmr j (by omega) hj
      rcases Nat.lt_trichotomy i m with him | him | him
      · rw [eL i (by omega)]
        have := hl i hi him
        exact ltI_f.2 (by omega)
      · subst him
        rw [eL i (by omega), hm6]
        exact ltI_f.2 (by omega)
      · exact h4 i j (by omega) hij hj

theorem PWay.right (h : PWay a b d a' b' d5) (k : Parted a' b' m d5) (h1 : PermIn (m + 1) b' d5 d6) (h2 : SortedIn ltInt (m + 1) b' d6) : PWay a b d a' m d6 := by
  have hs : b' ≤ d5.size := by rw [h.size]; have := h.hi; have := h.all; omega
  have hw : PermIn a' b' d5 d6 := permIn_mono _ _ _ _ _ _ (by have := k.le; omega) (Nat.le_refl _) hs h1
  have hr := permIn_all d5 d6 (m + 1) b' (fun x => d5[m]! ≤ x) hs h1 (fun i h3 h4 => ltI_f.1 (k.more i (by omega) h4))
  have hm6 : d6[m]! = d5[m]! := pget h1 (.inl (by omega))
  refine ⟨h.lo, k.le, by have := h.hi; have := k.lt; omega, h.all, h.wide hw, ?_, fun d4 h3 h4 => ?_⟩
  · rcases h.belowL k with e | e
    · exact .inl e
    · refine .inr fun i h3 h4 => ?_
      rw [pget h1 (.inl (by omega)), pget h1 (.inl (by omega))]
      exact e i h3 h4
  · have hl := permIn_all d6 d4 a' m (fun x => x < d5[m]!) (by rw [h1.1]; have := k.lt; omega) h3 (fun i h5 h6 => by rw [pget h1 (.inl (by omega))]; exact ltI_t.1 (k.less i h5 h6))
    refine h.fin d4 (permIn_trans _ _ _ _ _ hw (permIn_mono _ _ _ _ _ _ (Nat.le_refl _) (by have := k.lt; omega) (by rw [h1.1]; exact hs) h3)) (fun i j hi hij hj => ?_)
    have eR : ∀ t, m ≤ t → d4[t]! = d6[t]! := fun t ht => pget h3 (.inr ht)
    rcases Nat.lt_trichotomy j m with hjm | hjm | hjm
    · exact h4 i j hi hij hjm
    · subst hjm
      rw [eR j (Nat.le_refl _), hm6]
      have := hl i hi hij
      exact ltI_f.2 (by omega)
    · rw [eR j (by omega)]
      have ej := hr j (by omega) hj
      rcases Nat.lt_trichotomy i m with him | him | him
      · have := hl i hi him
        exact ltI_f.2 (by omega)
      · subst him
        rw [eR i (Nat.le_refl _), hm6]
        exact ltI_f.2 (by omega)
      · rw [eR i (by omega)]
        exact h2 i j (by omega) hij hj
end
end Go.Kt.Os
/- slices.Sort on numbers of 32 bits: which place a row is parted by. -/
namespace Go.Proofs.YthhepebkfokddaaGreatDoor
open Go Go.RowKit Go.Kt Go.Kt.Os Go.Sort

structure PV (w : World) (blk off : Nat) (d : Array Int) (sb : Nat) : Prop where
  row : Holds E32 w blk off d
  ne : sb ≠ blk
  cell : ∃ s : Int, w.cell? ⟨sb, 0, none⟩ = some (.int .i64 s)
  thaw : w.frozen? ⟨sb, 0, none⟩ = false
theorem PV.drewN {w : World} {blk off sb : Nat} {d : Array Int} (h : PV w blk off d sb) (q : Nat) : PV (w.drewN q) blk off d sb := ⟨h.row, h.ne, h.cell, h.thaw⟩
theorem PV.set {w : World} {blk off sb : Nat} {d : Array Int} (h : PV w blk off d sb) (x : Int) : PV (w.setCell ⟨sb, 0, none⟩ (.int .i64 x)) blk off d sb := by
  obtain ⟨s, hs⟩ := h.cell
  have hk : Keep (fun b => b = sb) w (w.setCell ⟨sb, 0, none⟩ (.int .i64 x)) := Keep.setCell (X := fun b => b = sb) (Keep.refl _ _) (p := ⟨sb, 0, none⟩) rfl _
  exact ⟨holds_keep h.row hk (fun e => h.ne e.symm), h.ne, ⟨x, World.cell?_setCell_same _ _ _ hs⟩, by rw [World.frozen?_setCell]; exact h.thaw⟩

set_option maxRecDepth 100000 in
set_option maxHeartbeats 1000000 in
theorem oOrd2 (blk off cap a b n sb : Nat) (d : Array Int) (w : World) (hn : d.size = n) (hP : PV w blk off d sb) (ha : a < n) (hb : b < n) :
    Calls Tryz.prog 169 #[.slice (some ⟨blk, off, none⟩) n cap, .int .i64 a, .int .i64 b, .pointer (some ⟨sb, 0, none⟩)] w fun e w' =>
      ∃ x y : Nat, e = .returned (.tuple #[.int .i64 x, .int .i64 y]) ∧ ((x = a ∧ y = b) ∨ (x = b ∧ y = a)) ∧ PV w' blk off d sb ∧ Keep (fun b => b = sb) w w' := by
  obtain ⟨G, hG⟩ : ∃ G : Nat → Int, ∀ t, G t = d[t]! := ⟨fun t => d[t]!, fun _ => rfl⟩
  have hcw := (SW.refl hP.row).cells hG hn
  obtain ⟨s, hs⟩ := hP.cell
  have hfz := hP.thaw
  have HP := Lib.hid hP
  clear hG hP
  go_enter Tryz.func169, Tryz.ntmps169
  go_wp2
  go_big_quiet (first | (go_at_call 118; refine Calls.quiet_of_same (oLess _ _ _)))
  go_wp2_with fail
  · have HP2 := Lib.hid (HP.out.drewN nq)
    have HK2 : Hid (Keep (fun b => b = sb) w (w.drewN nq)) := Lib.hid ⟨rfl, rfl, rfl, Nat.le_refl _, fun _ _ _ => rfl⟩
    have hs2 : (w.drewN nq).cell? ⟨sb, 0, none⟩ = some (.int .i64 s) := hs
    have hf2 : (w.drewN nq).frozen? ⟨sb, 0, none⟩ = false := hfz
    clear hcw hs hfz
    generalize w.drewN nq = w2 at HP2 HK2 hs2 hf2 ⊢
    go_wp2
    go_ret2
    exact ⟨b, a, rfl, .inr ⟨rfl, rfl⟩, HP2.out.set _, HK2.out.setCell rfl _⟩
  · go_wp2
    go_ret2
    exact ⟨a, b, rfl, .inl ⟨rfl, rfl⟩, HP.out.drewN nq, ⟨rfl, rfl, rfl, Nat.le_refl _, fun _ _ _ => rfl⟩⟩

set_option maxRecDepth 100000 in
set_option maxHeartbeats 1000000 in
theorem oMed (blk off cap a b c n sb : Nat) (d : Array Int) (w : World) (hn : d.size = n) (hP : PV w blk off d sb) (ha : a < n) (hb : b < n) (hc : c < n) :
    Calls Tryz.prog 162 #[.slice (some ⟨blk, off, none⟩) n cap, .int .i64 a, .int .i64 b, .int .i64 c, .pointer (some ⟨sb, 0, none⟩)] w fun e w' =>
      ∃ x : Nat, e = .returned (.int .i64 x) ∧ (x = a ∨ x = b ∨ x = c) ∧ PV w' blk off d sb ∧ Keep (fun b => b = sb) w w' := by
  have C1 := Lib.hid (oOrd2 blk off cap a b n sb d w hn hP ha hb)
  have HN := Lib.hid hn
  clear hP hn
  go_enter Tryz.func162, Tryz.ntmps162
  go_wp2_with fail
  refine C1.out.mono ?_
  rintro e w1 ⟨a1, b1, rfl, h1, hP1, hK1⟩
  clear C1
  have C2 := Lib.hid (oOrd2 blk off cap b1 c n sb d w1 HN.out hP1 (by omega) hc)
  have HK1 := Lib.hid hK1
  clear hP1 hK1
  go_wp2_with fail
  refine C2.out.mono ?_
  rintro e w2 ⟨b2, c2, rfl, h2, hP2, hK2⟩
  clear C2
  have C3 := Lib.hid (oOrd2 blk off cap a1 b2 n sb d w2 HN.out hP2 (by omega) (by omega))
  have HK2 := Lib.hid hK2
  clear hP2 hK2
  go_wp2_with fail
  refine C3.out.mono ?_
  rintro e w3 ⟨a3, b3, rfl, h3, hP3, hK3⟩
  clear C3
  have HP3 := Lib.hid hP3
  have HK3 := Lib.hid hK3
  have HX := Lib.hid (show b3 = a ∨ b3 = b ∨ b3 = c by omega)
  clear hP3 hK3 h1 h2 h3
  go_wp2
  go_ret
  exact ⟨b3, rfl, HX.out, HP3.out, (HK1.out.trans HK2.out).trans HK3.out⟩

set_option maxRecDepth 100000 in
set_option maxHeartbeats 1000000 in
theorem oAdj (blk off cap a n sb : Nat) (d : Array Int) (w : World) (hn : d.size = n) (hP : PV w blk off d sb) (ha0 : 1 ≤ a) (ha : a + 1 < n) (hsz : n < 4611686018427387904) :
    Calls Tryz.prog 161 #[.slice (some ⟨blk, off, none⟩) n cap, .int .i64 a, .pointer (some ⟨sb, 0, none⟩)] w fun e w' =>
      ∃ x : Nat, e = .returned (.int .i64 x) ∧ (a - 1 ≤ x ∧ x ≤ a + 1) ∧ PV w' blk off d sb ∧ Keep (fun b => b = sb) w w' := by
  have C0 := oMed blk off cap (a - 1) a (a + 1) n sb d w hn hP (by omega) (by omega) ha
  rw [show ((a - 1 : Nat) : Int) = (a : Int) - 1 by omega, show ((a + 1 : Nat) : Int) = (a : Int) + 1 by omega] at C0
  have C1 := Lib.hid C0
  clear C0 hP hn
  go_enter Tryz.func161, Tryz.ntmps161
  go_wp2_with fail
  refine C1.out.mono ?_
  rintro e w1 ⟨x, rfl, h1, hP1, hK1⟩
  clear C1
  have HP1 := Lib.hid hP1
  have HK1 := Lib.hid hK1
  have HX := Lib.hid (show a - 1 ≤ x ∧ x ≤ a + 1 by omega)
  clear hP1 hK1 h1
  go_wp2
  go_ret
  exact ⟨x, rfl, HX.out, HP1.out, HK1.out⟩
end Go.Proofs.YthhepebkfokddaaGreatDoor
/- slices.Sort on numbers of 32 bits: the place that parts a row lies in it. -/
namespace Go.Proofs.YthhepebkfokddaaGreatDoor
open Go Go.RowKit Go.Kt Go.Kt.Os Go.Sort

set_option maxRecDepth 100000 in
set_option maxHeartbeats 1000000 in
theorem oPivot (blk off cap a l n : Nat) (d : Array Int) (w : World) (hn : d.size = n) (hH : Holds E32 w blk off d) (hblk : blk < w.heap.size) (hl8 : 8 ≤ l) (hb : a + l ≤ n) (hsz : n < 4611686018427387904) :
    Calls Tryz.prog 141 #[.slice (some ⟨blk, off, none⟩) n cap, .int .i64 a, .int .i64 ((a : Int) + (l : Int))] w fun e w' =>
      ∃ (x : Nat) (h : Int), e = .returned (.tuple #[.int .i64 x, .int .i64 h]) ∧ a ≤ x ∧ x < a + l ∧ SW w blk off d w' := by
  have HS1 := Lib.hid (SW.refl hH)
  have HN := Lib.hid hn
  clear hH hn
  have EL := Lib.hid (show (a : Int) + (l : Int) - (a : Int) = (l : Int) by omega)
  obtain ⟨q, hq⟩ : ∃ q, q = l / 4 := ⟨_, rfl⟩
  have hq1 : 4 * q ≤ l := by omega
  have hq2 : l < 4 * q + 4 := by omega
  have EQ := Lib.hid (show (l : Int) / 4 = (q : Int) by omega)
  clear hq
  have hlz : (8 : Int) ≤ (a : Int) + (l : Int) - (a : Int) := by omega
  have HP : Hid (PV (w.alloc (.cells #[.int .i64 0] 3)) blk off d w.heap.size) := Lib.hid ⟨holds_keep HS1.out.holds ((Keep.refl (fun _ => False) w).alloc _) id, by omega, ⟨0, by rw [World.cell?_alloc_at _ _ _ _ (by simp)]; rfl⟩, World.frozen?_alloc_new _ _ _ _⟩
  have HK : Hid (SW w blk off d (w.alloc (.cells #[.int .i64 0] 3))) := Lib.hid ⟨(Keep.refl _ _).alloc _, HP.out.row⟩
  have FIN : ∀ W, Keep (fun b => b = w.heap.size) (w.alloc (.cells #[.int .i64 0] 3)) W → SW w blk off d W := fun W k => HK.out.then (k.weaken fun b _ e => by subst e; exact ⟨by omega, Nat.le_refl _⟩)
  have HF := Lib.hid FIN
  clear FIN HK
  by_cases h50 : 50 ≤ l
  · have h50z : (50 : Int) ≤ (a : Int) + (l : Int) - (a : Int) := by omega
    go_enter Tryz.func141, Tryz.ntmps141
    go_wp2_with fail
    rw [EL.out, EQ.out]
    have C0 := oAdj blk off cap (a + q) n w.heap.size d _ HN.out HP.out (by omega) (by omega) hsz
    rw [show ((a + q : Nat) : Int) = (a : Int) + (q : Int) by omega] at C0
    have C := Lib.hid C0
    clear C0
    refine C.out.mono ?_
    rintro e w1 ⟨x1, rfl, hx1, hp1, hk1⟩
    clear C
    have HP1 := Lib.hid hp1
    have HK1 := Lib.hid (hk1)
    clear hp1 hk1
    have C0 := oAdj blk off cap (a + q * 2) n w.heap.size d w1 HN.out HP1.out (by omega) (by omega) hsz
    rw [show ((a + q * 2 : Nat) : Int) = (a : Int) + (q : Int) * 2 by omega] at C0
    have C := Lib.hid C0
    clear C0
    go_wp2_with fail
    refine C.out.mono ?_
    rintro e w2 ⟨x2, rfl, hx2, hp2, hk2⟩
    clear C
    have HP2 := Lib.hid hp2
    have HK2 := Lib.hid (HK1.out.trans hk2)
    clear hp2 hk2
    have C0 := oAdj blk off cap (a + q * 3) n w.heap.size d w2 HN.out HP2.out (by omega) (by omega) hsz
    rw [show ((a + q * 3 : Nat) : Int) = (a : Int) + (q : Int) * 3 by omega] at C0
    have C := Lib.hid C0
    clear C0
    go_wp2_with fail
    refine C.out.mono ?_
    rintro e w3 ⟨x3, rfl, hx3, hp3, hk3⟩
    clear C
    have HP3 := Lib.hid hp3
    have HK3 := Lib.hid (HK2.out.trans hk3)
    clear hp3 hk3
    have C := Lib.hid (oMed blk off cap x1 x2 x3 n w.heap.size d w3 HN.out HP3.out (by omega) (by omega) (by omega))
    go_wp2_with fail
    refine C.out.mono ?_
    rintro e w4 ⟨x4, rfl, hx4, hp4, hk4⟩
    clear C
    obtain ⟨s, hs⟩ := hp4.cell
    have HB := Lib.hid (show a ≤ x4 ∧ x4 < a + l by omega)
    have HS := Lib.hid (HF.out w4 (HK3.out.trans hk4))
    clear hp4 hk4 hx1 hx2 hx3 hx4
    go_wp2
    all_goals go_ret2
    all_goals exact ⟨x4, _, rfl, HB.out.1, HB.out.2, HS.out⟩
  · have h50z : (a : Int) + (l : Int) - (a : Int) < 50 := by omega
    go_enter Tryz.func141, Tryz.ntmps141
    go_wp2_with fail
    rw [EL.out, EQ.out]
    have C0 := oMed blk off cap (a + q) (a + q * 2) (a + q * 3) n w.heap.size d _ HN.out HP.out (by omega) (by omega) (by omega)
    rw [show ((a + q : Nat) : Int) = (a : Int) + (q : Int) by omega, show ((a + q * 2 : Nat) : Int) = (a : Int) + (q : Int) * 2 by omega, show ((a + q * 3 : Nat) : Int) = (a : Int) + (q : Int) * 3 by omega] at C0
    have C := Lib.hid C0
    clear C0
    refine C.out.mono ?_
    rintro e w4 ⟨x4, rfl, hx4, hp4, hk4⟩
    clear C
    obtain ⟨s, hs⟩ := hp4.cell
    have HB := Lib.hid (show a ≤ x4 ∧ x4 < a + l by omega)
    have HS := Lib.hid (HF.out w4 hk4)
    clear hp4 hk4 hx4
    go_wp2
    all_goals go_ret2
    all_goals exact ⟨x4, _, rfl, HB.out.1, HB.out.2, HS.out⟩
end Go.Proofs.YthhepebkfokddaaGreatDoor
/- slices.Sort on numbers of 32 bits: the sort that parts a row. -/
namespace Go.Proofs.YthhepebkfokddaaGreatDoor
open Go Go.RowKit Go.Kt Go.Kt.Os Go.Sort

set_option maxRecDepth 100000 in
set_option maxHeartbeats 4000000 in
theorem oPdq (blk off cap n : Nat) (hsz : n < 4611686018427387904) : ∀ (N a b lim : Nat) (d : Array Int) (w : World), b - a < N → d.size = n → Holds E32 w blk off d → blk < w.heap.size → a ≤ b → b ≤ n → lim < 4611686018427387904 → Sort.Below ltInt a b d →
    Calls Tryz.prog 114 #[.slice (some ⟨blk, off, none⟩) n cap, .int .i64 a, .int .i64 b, .int .i64 lim] w fun e w' => e = .returned (.tuple #[]) ∧ ∃ d', (PermIn a b d d' ∧ SortedIn ltInt a b d') ∧ SW w blk off d' w' := by
  intro N
  induction N with
  | zero => intro _ _ _ _ _ h; exact absurd h (Nat.not_lt_zero _)
  | succ N ih =>
    intro a b lim d w hN hn hH hblk hab hb hlim hBel
    have H0 : Hid (d.size = n ∧ SW w blk off d w ∧ PWay a b d a b d) := Lib.hid ⟨hn, SW.refl hH, PWay.start hab (by omega) hBel⟩
    have IH := Lib.hid ih
    clear ih hn hH hBel
    go_enter Tryz.func114, Tryz.ntmps114
    go_wp2
    go_loopw [1, 2, 3, 8, 9] (fun s1 s2 s3 s8 s9 wr => ∃ (a' b' l' : Nat) (wb wp : Bool) (dk : Array Int), s1 = .int .i64 a' ∧ s2 = .int .i64 b' ∧ s3 = .int .i64 l' ∧ s8 = .bool wb ∧ s9 = .bool wp ∧ l' ≤ lim ∧ a' ≤ b' ∧ b' ≤ b ∧ a ≤ a' ∧ Hid (dk.size = n ∧ SW w blk off dk wr ∧ PWay a b d a' b' dk))
      (fun s1 s2 _ _ _ _ => (RowKit.intOf s2).toNat - (RowKit.intOf s1).toNat)
    case atStart => exact ⟨a, b, lim, true, true, d, rfl, rfl, rfl, rfl, rfl, Nat.le_refl _, hab, Nat.le_refl _, Nat.le_refl _, H0⟩
    case round =>
      obtain ⟨a', b', l', wb, wp, dk, rfl, rfl, rfl, rfl, rfl, hl', hab', hbb, haa, HY⟩ := hrel
      clear H0
      have hblk' : blk < wr.heap.size := Nat.lt_of_lt_of_le hblk HY.out.2.1.keep.size
      by_cases h12 : b' - a' ≤ 12
      · have h12z : (b' : Int) - (a' : Int) ≤ 12 := by omega
        have C0 := oIns blk off cap a' b' dk wr HY.out.2.1.holds hab' (by have := HY.out.1; omega) (by have := HY.out.1; omega)
        rw [HY.out.1] at C0
        have C := Lib.hid C0
        clear C0
        go_wp2_with (go_at_call 138; refine C.out.mono ?_; rintro e w1 ⟨rfl, hw1⟩)
        (try simp only [Exit.inBlock, Exit.then]); refine bodyPost_ret (results_none rfl _ _ _) rfl ?_
        obtain ⟨i1, i2⟩ := insertionSort_holds swo_ltInt dk a' b' hab' (by have := HY.out.1; omega)
        exact ⟨rfl, _, HY.out.2.2.done i1 i2, HY.out.2.1.trans hw1⟩
      · have h12z : 12 < (b' : Int) - (a' : Int) := by omega
        by_cases hl0 : l' = 0
        · subst hl0
          have C := Lib.hid (oHeap blk off cap a' b' n dk wr HY.out.1 HY.out.2.1.holds hab' (by omega) hsz)
          go_wp2_with (go_at_call 139; refine C.out.mono ?_; rintro e w1 ⟨rfl, hw1⟩)
          (try simp only [Exit.inBlock, Exit.then]); refine bodyPost_ret (results_none rfl _ _ _) rfl ?_
          obtain ⟨i1, i2⟩ := heapSort_holds swo_ltInt dk a' b' hab' (by have := HY.out.1; omega)
          exact ⟨rfl, _, HY.out.2.2.done i1 i2, HY.out.2.1.trans hw1⟩
        · have hl0z : ¬ ((l' : Int) = 0) := by omega
          have hl0b : ((l' : Int) == 0) = false := beq_eq_false_iff_ne.2 hl0z
          have EB := Lib.hid (show (a' : Int) + ((b' - a' : Nat) : Int) = (b' : Int) by omega)
          have EN := Lib.hid (show a' + (b' - a') = b' by omega)
          go_upto_if 35 with fail
          go_cut [3] from 19 to 133 (fun s3 wc => ∃ (l1 : Nat) (d1 : Array Int), s3 = .int .i64 l1 ∧ l1 ≤ lim ∧ Hid (d1.size = n ∧ SW w blk off d1 wc ∧ PWay a b d a' b' d1))
          case first =>
            cases wb
            · have C0 := oBreak blk off cap a' (b' - a') n dk wr HY.out.1 HY.out.2.1.holds hblk' (by omega) (by omega) hsz
              rw [EB.out, EN.out] at C0
              have C := Lib.hid C0
              clear C0
              go_wp2_with (go_at_call 140; refine C.out.mono ?_; rintro e w1 ⟨rfl, d1, hp1, hw1⟩)
              go_meet
              case rel => exact ⟨l' - 1, d1, by go_num, by omega, Lib.hid ⟨hp1.1.trans HY.out.1, HY.out.2.1.trans hw1, HY.out.2.2.turn hp1⟩⟩
            · go_wp2_with fail
              go_meet
              case rel => exact ⟨l', dk, rfl, hl', HY⟩
          case rest =>
            obtain ⟨l1, d1, rfl, hl1, H1⟩ := hcut
            clear HY
            have C0 := oPivot blk off cap a' (b' - a') n d1 wc H1.out.1 H1.out.2.1.holds (Nat.lt_of_lt_of_le hblk H1.out.2.1.keep.size) (by omega) (by omega) hsz
            rw [EB.out, EN.out] at C0
            have C := Lib.hid C0
            clear C0
            go_upto_if 50 with (go_at_call 141; refine C.out.mono ?_; rintro e w2 ⟨x, h, rfl, hx1, hx2, hw2⟩)
            have H2 : Hid (d1.size = n ∧ SW w blk off d1 w2 ∧ PWay a b d a' b' d1) := Lib.hid ⟨H1.out.1, H1.out.2.1.trans hw2, H1.out.2.2⟩
            clear C H1 hw2
            go_cut [11, 12] from 19 to 133 (fun s11 s12 wc => ∃ (p : Nat) (h : Int) (d2 : Array Int), s11 = .int .i64 p ∧ s12 = .int .i64 h ∧ a' ≤ p ∧ p < b' ∧ Hid (d2.size = n ∧ SW w blk off d2 wc ∧ PWay a b d a' b' d2))
            case first =>
              by_cases hh : h = 2
              · subst hh
                have C0 := oRev blk off cap a' b' d1 w2 H2.out.2.1.holds (by omega) (by have := H2.out.1; omega) (by have := H2.out.1; omega)
                rw [H2.out.1] at C0
                have C := Lib.hid C0
                clear C0
                go_wp2_with (go_at_call 142; refine C.out.mono ?_; rintro e w3 ⟨rfl, d2, hp2, hw3⟩)
                go_meet
                case rel => exact ⟨(b' - 1) - (x - a'), 1, d2, by go_num, rfl, by omega, by omega, Lib.hid ⟨hp2.1.trans H2.out.1, H2.out.2.1.trans hw3, H2.out.2.2.turn hp2⟩⟩
              · have hhb : (h == 2) = false := beq_eq_false_iff_ne.2 hh
                go_wp2_with fail
                go_meet
                case rel => exact ⟨x, h, d1, rfl, rfl, hx1, hx2, H2⟩
            case rest =>
              obtain ⟨p, h3, d2, rfl, rfl, hp1, hp2, H3⟩ := hcut
              clear H2 hx1 hx2
              go_upto_region 15 with fail
              go_cut [12, 68] from 19 to 133 (fun s12 s68 wx => s12 = .int .i64 h3 ∧ ∃ t : Bool, s68 = .bool t ∧ wx = wc)
              case first =>
                cases wb <;> cases wp <;>
                  (go_wp2_with fail
                   go_meet
                   exact ⟨rfl, _, rfl, rfl⟩)
              case rest =>
                obtain ⟨rfl, t, rfl, rfl⟩ := hcut
                go_upto_if 68 with fail
                go_cut [] from 19 to 133 (fun wx => ∃ d3 : Array Int, Hid (d3.size = n ∧ SW w blk off d3 wx ∧ PWay a b d a' b' d3))
                case first =>
                  cases t
                  · go_wp2_with fail
                    go_meet
                    case rel => exact ⟨d2, H3⟩
                  · have C0 := oPins blk off cap a' b' n d2 wc H3.out.1 H3.out.2.1.holds (by omega) (by omega) hsz
                    obtain ⟨i1, i2⟩ := partialInsertionSort_holds swo_ltInt d2 a' b' (by omega) (by have := H3.out.1; omega) H3.out.2.2.under
                    obtain ⟨⟨d3, r⟩, hr⟩ : ∃ z, partialInsertionSort ltInt d2 a' b' = z := ⟨_, rfl⟩
                    rw [hr] at C0 i1 i2
                    simp only at C0 i1 i2
                    have HI := Lib.hid (And.intro i1 i2)
                    have C := Lib.hid C0
                    clear C0 hr i1 i2
                    cases r
                    · go_wp2_with (go_at_call 143; refine C.out.mono ?_; rintro e w4 ⟨rfl, hw4⟩)
                      go_meet
                      case rel => exact ⟨d3, Lib.hid ⟨HI.out.1.1.trans H3.out.1, H3.out.2.1.trans hw4, H3.out.2.2.turn HI.out.1⟩⟩
                    · go_wp2_with (go_at_call 143; refine C.out.mono ?_; rintro e w4 ⟨rfl, hw4⟩)
                      (try simp only [Exit.inBlock, Exit.then]); refine bodyPost_ret (results_none rfl _ _ _) rfl ?_
                      exact ⟨rfl, d3, H3.out.2.2.done HI.out.1 (HI.out.2 trivial), H3.out.2.1.trans hw4⟩
                case rest =>
                  obtain ⟨d3, H4⟩ := hcut
                  clear H3
                  go_upto_region 17 with fail
                  go_cut [87] from 19 to 133 (fun s87 wx => ∃ t : Bool, s87 = .bool t ∧ Hid (SW w blk off d3 wx) ∧ Hid (t = true → 0 < a' ∧ ltInt d3[a' - 1]! d3[p]! = false))
                  case first =>
                    obtain ⟨G, hG⟩ : ∃ G : Nat → Int, ∀ t, G t = d3[t]! := ⟨fun t => d3[t]!, fun _ => rfl⟩
                    have hcw := H4.out.2.1.cells hG H4.out.1
                    have HG := Lib.hid hG
                    clear hG
                    by_cases ha0 : 0 < a'
                    · have ha0z : (0 : Int) < (a' : Int) := by omega
                      go_big_quiet (first | (go_at_call 118; refine Calls.quiet_of_same (oLess _ _ _)))
                      go_wp2_with fail
                      go_meet
                      case rel => exact ⟨_, rfl, Lib.hid (H4.out.2.1.drewN _), Lib.hid (fun e => ⟨ha0, by rw [← HG.out, ← HG.out]; simpa using e⟩)⟩
                    · have ha0z : ¬ (0 : Int) < (a' : Int) := by omega
                      go_big_quiet (first | (go_at_call 118; refine Calls.quiet_of_same (oLess _ _ _)))
                      go_wp2_with fail
                      go_meet
                      case rel => exact ⟨_, rfl, Lib.hid (H4.out.2.1.drewN _), Lib.hid (fun e => by cases e)⟩
                  case rest =>
                    obtain ⟨t, rfl, hS5, hT⟩ := hcut
                    have hb3 : b' ≤ d3.size := by have := H4.out.1; omega
                    cases t
                    · have C0 := oPart blk off cap a' b' p n d3 wc H4.out.1 hS5.out.holds hp1 hp2 (by omega) hsz
                      obtain ⟨i1, i2, i3, i4, i5⟩ := partition_holds ltInt swo_ltInt d3 a' b' p hp1 hp2 hb3
                      obtain ⟨⟨m, al, d5⟩, hr⟩ : ∃ z, partition ltInt d3 a' b' p = z := ⟨_, rfl⟩
                      rw [hr] at C0 i1 i2 i3 i4 i5
                      simp only at C0 i1 i2 i3 i4 i5
                      have HPt : Hid (Parted a' b' m d5) := Lib.hid ⟨i1, i2, i4, i5⟩
                      have HW : Hid (PWay a b d a' b' d5) := Lib.hid (H4.out.2.2.turn i3)
                      have HD5 : Hid (d5.size = n) := Lib.hid (i3.1.trans H4.out.1)
                      have C := Lib.hid C0
                      clear C0 hr i3 i4 i5 hT
                      by_cases hlr : m - a' < b' - m
                      · have hlrz : (m : Int) - (a' : Int) < (b' : Int) - (m : Int) := by omega
                        go_wp2_with (first | (go_at_call 145; refine C.out.mono ?_; rintro e w5 ⟨rfl, hw5⟩) | (go_at_call 114; refine (IH.out a' m l1 d5 w5 (by omega) HD5.out hw5.holds (Nat.lt_of_lt_of_le hblk (hS5.out.trans hw5).keep.size) i1 (by omega) (by omega) (HW.out.belowL HPt.out)).mono ?_; rintro e w6 ⟨rfl, d6, hd6, hw6⟩))
                        go_roundw
                        case rel => exact ⟨m + 1, b', l1, _, al, d6, by go_num, rfl, rfl, rfl, rfl, hl1, by omega, hbb, by omega, Lib.hid ⟨hd6.1.1.trans HD5.out, (hS5.out.trans hw5).trans hw6, HW.out.left HPt.out hd6.1 hd6.2⟩⟩
                        case measure => simp [RowKit.intOf]; omega
                      · have hlrz : (b' : Int) - (m : Int) ≤ (m : Int) - (a' : Int) := by omega
                        have EM := Lib.hid (show ((m + 1 : Nat) : Int) = (m : Int) + 1 by omega)
                        have CR0 : ∀ (W : World), Holds E32 W blk off d5 → blk < W.heap.size → Calls Tryz.prog 114 #[.slice (some ⟨blk, off, none⟩) n cap, .int .i64 ((m : Int) + 1), .int .i64 b', .int .i64 l1] W fun e w' => e = .returned (.tuple #[]) ∧ ∃ d', (PermIn (m + 1) b' d5 d' ∧ SortedIn ltInt (m + 1) b' d') ∧ SW W blk off d' w' := fun W h1 h2 => by
                          have := IH.out (m + 1) b' l1 d5 W (by omega) HD5.out h1 h2 (by omega) (by omega) (by omega) (PWay.belowR HPt.out)
                          rw [EM.out] at this
                          exact this
                        have CR := Lib.hid CR0
                        clear CR0
                        go_wp2_with (first | (go_at_call 145; refine C.out.mono ?_; rintro e w5 ⟨rfl, hw5⟩) | (go_at_call 114; refine (CR.out w5 hw5.holds (Nat.lt_of_lt_of_le hblk (hS5.out.trans hw5).keep.size)).mono ?_; rintro e w6 ⟨rfl, d6, hd6, hw6⟩))
                        go_roundw
                        case rel => exact ⟨a', m, l1, _, al, d6, rfl, rfl, rfl, rfl, rfl, hl1, i1, by omega, haa, Lib.hid ⟨hd6.1.1.trans HD5.out, (hS5.out.trans hw5).trans hw6, HW.out.right HPt.out hd6.1 hd6.2⟩⟩
                        case measure => simp [RowKit.intOf]; omega
                    · obtain ⟨ha0, hlt⟩ := hT.out rfl
                      have hmin : ∀ i, a' ≤ i → i < b' → ltInt d3[i]! d3[p]! = false := fun i h1 h2 => by
                        rcases H4.out.2.2.under with e | e
                        · omega
                        · have e1 := ltI_f.1 (e i h1 h2)
                          have e2 := ltI_f.1 hlt
                          exact ltI_f.2 (by omega)
                      have C0 := oPeq blk off cap a' b' p n d3 wc H4.out.1 hS5.out.holds hp1 hp2 (by omega) hsz
                      obtain ⟨i1, i2, i3, i4, i5⟩ := partitionEqual_holds ltInt swo_ltInt d3 a' b' p hp1 hp2 hb3 hmin
                      obtain ⟨⟨m, d5⟩, hr⟩ : ∃ z, partitionEqual ltInt d3 a' b' p = z := ⟨_, rfl⟩
                      rw [hr] at C0 i1 i2 i3 i4 i5
                      simp only at C0 i1 i2 i3 i4 i5
                      have HW : Hid (PWay a b d m b' d5) := Lib.hid (H4.out.2.2.equal d3[p]! hmin i3 i1 i2 i4 i5)
                      have HD5 : Hid (d5.size = n) := Lib.hid (i3.1.trans H4.out.1)
                      have C := Lib.hid C0
                      clear C0 hr i3 i4 i5 hT hmin hlt
                      go_wp2_with (go_at_call 144; refine C.out.mono ?_; rintro e w5 ⟨rfl, hw5⟩)
                      go_roundw
                      case rel => exact ⟨m, b', l1, wb, wp, d5, rfl, rfl, rfl, rfl, rfl, hl1, i2, hbb, by omega, Lib.hid ⟨HD5.out, hS5.out.trans hw5, HW.out⟩⟩
                      case measure => simp [RowKit.intOf]; omega
end Go.Proofs.YthhepebkfokddaaGreatDoor
/- slices.Sort on numbers of 32 bits, whole; and of no number. -/
namespace Go.Proofs.YthhepebkfokddaaGreatDoor
open Go Go.RowKit Go.Kt Go.Kt.Os Go.Sort

set_option maxRecDepth 100000 in
set_option maxHeartbeats 1000000 in
theorem oSort (blk off cap n : Nat) (d : Array Int) (w : World) (hn : d.size = n) (hH : Holds E32 w blk off d) (hblk : blk < w.heap.size) (hsz : n < 4611686018427387904) :
    Calls Tryz.prog 82 #[.slice (some ⟨blk, off, none⟩) n cap] w fun e w' => e = .returned (.tuple #[]) ∧ ∃ d', (PermIn 0 n d d' ∧ SortedIn ltInt 0 n d') ∧ SW w blk off d' w' := by
  have C0 := Tryz.bits_Len (n : Int) w (by omega) (by omega)
  rw [Int.toNat_natCast] at C0
  have hl : Lib.bitLen n < 4611686018427387904 := by have := bl_le 64 n; show Lib.bitLenAux 64 n < _; omega
  obtain ⟨k, hk⟩ : ∃ k, Lib.bitLen n = k := ⟨_, rfl⟩
  rw [hk] at C0 hl
  have D0 := oPdq blk off cap n hsz (n + 1) 0 n k d w (by omega) hn hH hblk (by omega) (Nat.le_refl _) hl (.inl rfl)
  rw [show ((0 : Nat) : Int) = 0 from rfl] at D0
  have C := Lib.hid C0
  have D := Lib.hid D0
  clear C0 D0 hk hH hn
  go_enter Tryz.func82, Tryz.ntmps82
  go_wp2_with (first | (go_at_call 115; refine C.out.mono ?_; rintro e w1 ⟨rfl, rfl⟩) | (go_at_call 114; refine D.out.mono ?_; rintro e w2 ⟨rfl, hd⟩))
  go_end0
  exact ⟨rfl, hd⟩

set_option maxRecDepth 100000 in
set_option maxHeartbeats 1000000 in
theorem oIns_nil (w : World) : Calls Tryz.prog 138 #[.slice none 0 0, .int .i64 0, .int .i64 0] w fun e w' => e = .returned (.tuple #[]) ∧ w' = w := by
  go_enter Tryz.func138, Tryz.ntmps138
  go_wp2
  go_loopw [6] (fun vi wr => vi = .int .i64 1 ∧ wr = w) (fun _ _ => 0)
  case atStart => exact ⟨rfl, rfl⟩
  case round =>
    obtain ⟨rfl, rfl⟩ := hrel
    go_wp2
    go_end0
    exact ⟨rfl, rfl⟩
set_option maxRecDepth 100000 in
set_option maxHeartbeats 1000000 in
theorem oPdq_nil (w : World) : Calls Tryz.prog 114 #[.slice none 0 0, .int .i64 0, .int .i64 0, .int .i64 0] w fun e w' => e = .returned (.tuple #[]) ∧ w' = w := by
  go_enter Tryz.func114, Tryz.ntmps114
  go_wp2
  go_loopw [1, 2, 3, 8, 9] (fun s1 s2 s3 s8 s9 wr => s1 = .int .i64 0 ∧ s2 = .int .i64 0 ∧ s3 = .int .i64 0 ∧ s8 = .bool true ∧ s9 = .bool true ∧ wr = w) (fun _ _ _ _ _ _ => 0)
  case atStart => exact ⟨rfl, rfl, rfl, rfl, rfl, rfl⟩
  case round =>
    obtain ⟨rfl, rfl, rfl, rfl, rfl, rfl⟩ := hrel
    go_wp2_with (go_at_call 138; refine (oIns_nil _).mono ?_; rintro e w1 ⟨rfl, rfl⟩)
    (try simp only [Exit.inBlock, Exit.then]); refine bodyPost_ret (results_none rfl _ _ _) rfl ?_
    exact ⟨rfl, rfl⟩
set_option maxRecDepth 100000 in
set_option maxHeartbeats 1000000 in
theorem oSort_nil (w : World) : Calls Tryz.prog 82 #[.slice none 0 0] w fun e w' => e = .returned (.tuple #[]) ∧ w' = w := by
  have C0 := Tryz.bits_Len 0 w (by omega) (by omega)
  rw [show Lib.bitLen (0 : Int).toNat = 0 from rfl] at C0
  have C := Lib.hid C0
  clear C0
  go_enter Tryz.func82, Tryz.ntmps82
  go_wp2_with (first | (go_at_call 115; refine C.out.mono ?_; rintro e w1 ⟨rfl, rfl⟩) | (go_at_call 114; refine (oPdq_nil _).mono ?_; rintro e w2 ⟨rfl, rfl⟩))
  go_end0
  exact ⟨rfl, rfl⟩
end Go.Proofs.YthhepebkfokddaaGreatDoor
/- props: the points whose decompositions lines tell, rising. -/
namespace Go.Proofs.YthhepebkfokddaaGreatDoor
open Go Go.RowKit Go.Kt Go.Kt.Rg Go.Maps Go.Kt.Os Go.Sort

def RsV (B : Nat) (v : Value) (L : List Nat) (w : World) : Prop :=
  (L = [] ∧ v = .slice none 0 0) ∨ ∃ g cp, v = .slice (some ⟨g, 0, none⟩) L.length cp ∧ L.length ≤ cp ∧ B ≤ g ∧ g < w.heap.size ∧ ∀ (i : Nat) (x : Nat), L[i]? = some x → w.cell? ⟨g, i, none⟩ = some (.int .i32 (x : Nat))

theorem pcollect (vs : Nat → Option Value) (gf : Nat) (lb : Array Value) (Nd : Nat → Prop) (w w0 : World) (eg : ∀ args w, (callFunc gf args).run Tryz.prog w = .ok (.enter gf args) w)
    (hit : Iter5 Tryz.prog gf lb encK (OkK vs) (FinK vs) (fun _ => False) Nd w0) (hNd : ∀ b, Nd b → b < w.heap.size) (hNdw : ∀ b, Nd b → w.heap[b]? = w0.heap[b]?) (hw0 : w0.heap.size ≤ w.heap.size) (hbd : ∀ x, (vs x).isSome = true → x < 1114112) :
    Calls Tryz.prog 81 #[.func (.func gf) #[] lb] w fun e w' => ∃ L ao cp, FinK vs L ∧ e = .returned (.slice ao L.length cp) ∧ OwnS (fun b => w.heap.size ≤ b) 21 1 (.slice ao L.length cp) L.length (encN L) w' ∧ Below w.heap.size w w' := by
  have C := Lib.hid (pappend_any vs gf lb Nd w w0 eg hit hNd hNdw hw0 hbd)
  clear eg hit hNd hNdw hw0 hbd
  go_enter Tryz.func81, Tryz.ntmps81
  go_wp2_with fail
  refine C.out.mono ?_
  rintro e w1 ⟨L, ao, cp, h1, rfl, h2, h3⟩
  have H := Lib.hid (And.intro h1 (And.intro h2 h3))
  clear h1 h2 h3
  go_wp2
  go_ret
  exact ⟨L, ao, cp, H.out.1, rfl, H.out.2.1, H.out.2.2⟩

theorem rise_of {L : List Nat} {d' : Array Int} {n : Nat} (hn : L.length = n) (hnd : L.Nodup) (hp : PermIn 0 n (L.map (fun x : Nat => (x : Int))).toArray d') (hs : SortedIn ltInt 0 n d') :
    ∃ Ls : List Nat, Ls.length = n ∧ d' = (Ls.map (fun x : Nat => (x : Int))).toArray ∧ Ls.Perm L ∧ Ls.Pairwise (· < ·) := by
  obtain ⟨h1, _, h3⟩ := hp
  have hz : d'.size = n := by rw [h1]; simp [hn]
  have e1 : d'.extract 0 n = d' := by rw [← hz]; simp
  have e2 : ((L.map (fun x : Nat => (x : Int))).toArray).extract 0 n = (L.map (fun x : Nat => (x : Int))).toArray := by
    have : ((L.map (fun x : Nat => (x : Int))).toArray).size = n := by simp [hn]
    rw [← this]; simp
    exact List.take_of_length_le (by simp)
  rw [e1, e2] at h3
  have h3 : d'.toList.Perm (L.map (fun x : Nat => (x : Int))) := h3
  have hnn : ∀ y ∈ d'.toList, 0 ≤ y := fun y hy => by
    obtain ⟨x, _, rfl⟩ := List.mem_map.1 (h3.mem_iff.1 hy)
    omega
  have hb : (d'.toList.map Int.toNat).map (fun x : Nat => (x : Int)) = d'.toList := by
    rw [List.map_map]
    conv => rhs; rw [← List.map_id d'.toList]
    refine List.map_congr_left fun y hy => ?_
    have := hnn y hy
    simp only [Function.comp, id]
    omega
  have hperm : (d'.toList.map Int.toNat).Perm L := by
    have := h3.map Int.toNat
    rw [List.map_map] at this
    have e : (Int.toNat ∘ fun x : Nat => (x : Int)) = id := by funext x; simp
    rw [e, List.map_id] at this
    exact this
  have hlen : (d'.toList.map Int.toNat).length = n := by rw [List.length_map]; exact hz
  refine ⟨d'.toList.map Int.toNat, hlen, ?_, hperm, ?_⟩
  · rw [hb]
  · have hnd2 := hperm.nodup_iff.2 hnd
    rw [List.pairwise_iff_getElem]
    intro i j hi hj hij
    have h4 := hs i j (Nat.zero_le _) hij (by omega)
    have h5 : i < d'.size := by omega
    have h6 : j < d'.size := by omega
    rw [getElem!_pos d' i h5, getElem!_pos d' j h6] at h4
    have h7 : ¬ d'[j] < d'[i] := by simpa [ltInt] using h4
    have h8 := (List.pairwise_iff_getElem.1 hnd2) i j hi hj hij
    have h9 : (d'.toList.map Int.toNat)[i] = (d'[i]).toNat := by simp
    have h10 : (d'.toList.map Int.toNat)[j] = (d'[j]).toNat := by simp
    rw [h9, h10] at h8 ⊢
    omega

set_option maxRecDepth 100000 in
set_option maxHeartbeats 2000000 in
theorem psorted (vs : Nat → Option Value) (gf : Nat) (lb : Array Value) (Nd : Nat → Prop) (w w0 : World) (eg : ∀ args w, (callFunc gf args).run Tryz.prog w = .ok (.enter gf args) w)
    (hit : Iter5 Tryz.prog gf lb encK (OkK vs) (FinK vs) (fun _ => False) Nd w0) (hNd : ∀ b, Nd b → b < w.heap.size) (hNdw : ∀ b, Nd b → w.heap[b]? = w0.heap[b]?) (hw0 : w0.heap.size ≤ w.heap.size) (hbd : ∀ x, (vs x).isSome = true → x < 1114112) :
    Calls Tryz.prog 46 #[.func (.func gf) #[] lb] w fun e w' => ∃ L v, L.Pairwise (· < ·) ∧ (∀ x, x ∈ L ↔ (vs x).isSome = true) ∧ e = .returned v ∧ RsV w.heap.size v L w' ∧ Below w.heap.size w w' := by
  have C := Lib.hid (pcollect vs gf lb Nd w w0 eg hit hNd hNdw hw0 hbd)
  have HBD := Lib.hid hbd
  clear eg hit hNd hNdw hw0 hbd
  go_enter Tryz.func46, Tryz.ntmps46
  go_wp2_with fail
  refine C.out.mono ?_
  rintro e w1 ⟨L, ao, cp, h1, rfl, h2, h3⟩
  rcases h2.shape with ⟨hv, h0⟩ | ⟨g, cap, hv, hg, hgl⟩
  · have hL : L = [] := List.eq_nil_of_length_eq_zero h0
    subst hL
    cases hv
    have H := Lib.hid (And.intro h1 h3)
    have C2 := Lib.hid (oSort_nil w1)
    clear h1 h2 h3
    simp only [List.length_nil]
    go_wp2_with fail
    refine C2.out.mono ?_
    rintro e w2 ⟨rfl, rfl⟩
    go_wp2
    go_ret
    exact ⟨[], _, List.Pairwise.nil, H.out.1.2, rfl, .inl ⟨rfl, rfl⟩, H.out.2⟩
  · cases hv
    obtain ⟨n, hn⟩ : ∃ n, L.length = n := ⟨_, rfl⟩
    have hln : n ≤ 1114112 := by rw [← hn]; exact nodup_le 1114112 L h1.1 (fun x hx => HBD.out x ((h1.2 x).1 hx))
    obtain ⟨d, hd⟩ : ∃ d : Array Int, (L.map (fun x : Nat => (x : Int))).toArray = d := ⟨_, rfl⟩
    have hds : d.size = n := by rw [← hd]; simp [hn]
    have hH : Holds E32 w1 g 0 d := fun j hj => by
      have hjl : j < L.length := by omega
      refine ⟨?_, by rw [Nat.zero_add]; exact h2.frozen j⟩
      rw [Nat.zero_add]
      refine h2.at0 (i := j) ?_
      have e1 : d[j]! = (L[j] : Int) := by rw [getElem!_pos d j hj]; simp [← hd]
      rw [e1]
      simp [encN, List.getElem?_map, List.getElem?_eq_getElem hjl]
    rw [hn]
    have C2 := Lib.hid (oSort g 0 cp n d w1 hds hH hgl (by omega))
    have hcp : Hid (n ≤ cp) := Lib.hid (by
      rcases h2.1.2 with ⟨hv, _⟩ | ⟨g', cap', cur, hv, _, hgg, hnc, _⟩
      · cases hv
      · cases hv; rw [hn] at hnc; exact hnc)
    have H := Lib.hid (And.intro h1 (And.intro h3 (And.intro hn (And.intro hg (And.intro hgl (And.intro hd hds))))))
    clear h1 h2 h3 hH hn hds hg hgl hd hln
    go_wp2_with fail
    refine C2.out.mono ?_
    rintro e w2 ⟨rfl, d', hps, hsw⟩
    have H2 := Lib.hid (And.intro hps hsw)
    clear hps hsw
    go_wp2
    go_ret
    obtain ⟨h1, h3, hn, hg, hgl, hd, hds⟩ := H.out
    obtain ⟨hps, hsw⟩ := H2.out
    rw [← hd] at hps
    obtain ⟨Ls, hl, hd', hpm, hpw⟩ := rise_of hn h1.1 hps.1 hps.2
    have hgw : w.heap.size ≤ g := hg
    refine ⟨Ls, _, hpw, fun x => by rw [hpm.mem_iff]; exact h1.2 x, rfl, .inr ⟨g, cp, by rw [hl]; rfl, by rw [hl]; exact hcp.out, hgw, Nat.lt_of_lt_of_le hgl hsw.keep.size, fun i x hx => ?_⟩, h3.trans (hsw.keep.below h3.size (fun b hb => by omega))⟩
    have hil := (List.getElem?_eq_some_iff.1 hx).1
    have hsz : d'.size = Ls.length := by rw [hd']; simp
    have := (hsw.holds i (by omega)).1
    rw [Nat.zero_add, getElem!_pos d' i (by omega)] at this
    rw [this]
    have e1 : d'[i] = (x : Int) := by
      simp only [hd', List.getElem_toArray, List.getElem_map]
      rw [(List.getElem?_eq_some_iff.1 hx).2]
    rw [e1]

theorem pdecomposed {B0 : Nat} {ρ : Nat → Nat} {R : RdB} {line n m : Nat} {S : RdS} {cv kv : Value} (w : World) (hR : RdW B0 ρ R line n m S cv kv w) (hbd : ∀ x, (S.ds x).isSome = true → x < 1114112) :
    Calls Tryz.prog 22 #[.pointer (some ⟨R.g, 0, none⟩)] w fun e w' => ∃ L v, L.Pairwise (· < ·) ∧ (∀ x, x ∈ L ↔ (S.ds x).isSome = true) ∧ e = .returned v ∧ RsV w.heap.size v L w' ∧ Below w.heap.size w w' := by
  have c4 : w.cell? ⟨R.g, 4, none⟩ = some (.map (some R.bd)) := by rw [Lib.cell_of_heap hR.cell]; rfl
  obtain ⟨hB, vs, hM, hs, _⟩ := hR.d
  obtain ⟨w1, hw1⟩ : ∃ w1, w.alloc (.cells #[.map (some R.bd)] 54) = w1 := ⟨_, rfl⟩
  have hb1 : Below w.heap.size w w1 := by rw [← hw1]; exact (Below.refl _ _).alloc (Nat.le_refl _) _
  have hz1 : w1.heap.size = w.heap.size + 1 := by rw [← hw1]; exact Array.size_push _
  have hbs : w1.cell? ⟨w.heap.size, 0, none⟩ = some (.map (some R.bd)) := by rw [← hw1, Lib.cell_of_heap (heap_alloc_new _ _)]; rfl
  have hM1 : MapG Tryz.prog 21 R.bd n (ptF vs) w1 := hM.below hb1 hM.lt
  have hit := pkeys_iter R.bd n vs w.heap.size w1 hbs hM1
  have hml := hM.lt
  have CS := Lib.hid (psorted vs _ _ _ w1 w1 enters_keys hit (fun b hb => by rcases hb with rfl | rfl <;> omega) (fun _ _ => rfl) (Nat.le_refl _) (fun x hx => hbd x (by rw [← hs x]; exact hx)))
  have CK := Lib.hid (pkeys_call R.bd w)
  have HS := Lib.hid hs
  have HB := Lib.hid (And.intro hb1 (And.intro hz1 hw1))
  clear hR hB hM hs hb1 hz1 hbs hM1 hit hml hbd hw1
  go_enter Tryz.func22, Tryz.ntmps22
  go_wp2_with fail
  refine CK.out.mono ?_
  rintro e w2 ⟨rfl, hw2⟩
  have e2 : w2 = w1 := hw2.symm.trans HB.out.2.2
  subst e2
  clear hw2
  go_wp2_with fail
  refine CS.out.mono ?_
  rintro e w3 ⟨L, v, h1, h2, rfl, h4, h5⟩
  have H := Lib.hid (And.intro h1 (And.intro h2 (And.intro h4 h5)))
  clear h1 h2 h4 h5
  go_wp2
  go_ret
  obtain ⟨h1, h2, h4, h5⟩ := H.out
  refine ⟨L, v, h1, fun x => by rw [h2 x, HS.out x], rfl, ?_, HB.out.1.trans (h5.mono (by have := HB.out.2.1; omega))⟩
  rcases h4 with h4 | ⟨g, cp, h6, h7, h8, h9, h10⟩
  · exact .inl h4
  · exact .inr ⟨g, cp, h6, h7, by have := HB.out.2.1; omega, h9, h10⟩
end Go.Proofs.YthhepebkfokddaaGreatDoor
