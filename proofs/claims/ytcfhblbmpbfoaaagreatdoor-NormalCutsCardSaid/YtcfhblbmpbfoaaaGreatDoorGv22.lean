/- Parts of the proof of what the last text says. -/
import Derived.Test.YtcfhblbmpbfoaaaGreatDoorDlx
import Derived.Test.YtcfhblbmpbfoaaaGreatDoorGv2
import Derived.Test.YtcfhblbmpbfoaaaGreatDoorGv3
import Derived.Test.YtcfhblbmpbfoaaaGreatDoorUrx
import Derived.Test.YtcfhblbmpbfoaaaGreatDoorGv17
import Derived.Test.YtcfhblbmpbfoaaaGreatDoorUpx
import Derived.Test.YtcfhblbmpbfoaaaGreatDoorGv18
namespace Go.Proofs.YtcfhblbmpbfoaaaGreatDoor
open Go Go.RowKit Go.Kt Go.Kt.Sg Go.Shelf Go.Lib Go.Sort

set_option maxHeartbeats 4000000 in
set_option maxRecDepth 1000000 in
theorem nStable (blk off cap n : Nat) (d : Array Pt) (w : World) (R : RowK encPn 2 w blk off d) (hs : d.size = n) (hsz : n < 1152921504606846976) :
    Calls Tryz.prog 157 #[.slice (some ⟨blk, off, none⟩) n cap, .int .i64 n, clsFn] w fun e w' => e = .returned (.tuple #[]) ∧
      ∃ d', SWK encPn 2 w blk off d' w' ∧ Mix ky2 0 n d.toList d'.toList ∧ Rise ky2 (seg d'.toList 0 n) := by
  have S0 : Hid (SWK encPn 2 w blk off d w) := Lib.hid (SWK.start R.hH)
  have HS := Lib.hid hs
  have CI : Hid (∀ (d1 : Array Pt) (W : World) (a b : Nat) (az bz : Int), d1.size = n → SWK encPn 2 w blk off d1 W → az = (a : Int) → bz = (b : Int) → a ≤ b → b ≤ n →
      Calls Tryz.prog 178 #[.slice (some ⟨blk, off, none⟩) n cap, .int .i64 az, .int .i64 bz, clsFn] W fun e w' => e = .returned (.tuple #[]) ∧
        ∃ d', SWK encPn 2 w blk off d' w' ∧ Mix ky2 a b d1.toList d'.toList ∧ Rise ky2 (seg d'.toList a b)) := Lib.hid fun d1 W a b az bz h1 h2 e1 e2 h3 h4 => by
    subst e1 e2
    have := nIns blk off cap a b d d1 w W R (h1.trans hs.symm) h2 h3 (by omega) (by omega)
    rwa [h1] at this
  have CM : Hid (∀ (d1 : Array Pt) (W : World) (a m b : Nat) (az mz bz : Int), d1.size = n → SWK encPn 2 w blk off d1 W → az = (a : Int) → mz = (m : Int) → bz = (b : Int) → a < m → m < b → b ≤ n → Rise ky2 (seg d1.toList a m) → Rise ky2 (seg d1.toList m b) →
      Calls Tryz.prog 179 #[.slice (some ⟨blk, off, none⟩) n cap, .int .i64 az, .int .i64 mz, .int .i64 bz, clsFn] W (SymO 2 w blk off a b d1)) :=
    Lib.hid fun d1 W a m b az mz bz h1 h2 e1 e2 e3 h3 h4 h5 h6 h7 => nSymN 2 rfl blk off cap n d w R hs (by omega) (b - a) a m b az mz bz d1 W e1 e2 e3 (Nat.le_refl _) h1 h2 h3 h4 h5 h6 h7
  clear R hs
  go_enter Tryz.func157, Tryz.ntmps157
  go_wp2
  go_loopg [7, 8] n (fun kx s t wr => ∃ (q : Nat) (d1 : Array Pt), s = .int .i64 (q * 20 : Nat) ∧ t = .int .i64 (q * 20 + 20 : Nat) ∧ q * 20 ≤ n ∧ n - q * 20 ≤ kx ∧ Hid (SWK encPn 2 w blk off d1 wr ∧ Mix ky2 0 n d.toList d1.toList ∧ Chop ky2 20 d1.toList 0 (q * 20)))
  case atStart => exact ⟨0, d, rfl, rfl, by omega, by omega, Lib.hid ⟨S0.out, Mix.refl _ _ _, by rw [Nat.zero_mul]; exact Chop.none _⟩⟩
  case round =>
    clear S0
    obtain ⟨q, d1, rfl, rfl, hq, hkx, S1⟩ := hrel
    obtain ⟨A, hA⟩ : ∃ A, A = q * 20 := ⟨_, rfl⟩
    rw [← hA] at hq hkx
    rw [← hA]
    have HA := Lib.hid hA
    clear hA
    by_cases hlt : A + 20 ≤ n
    · have hltz : ((A + 20 : Nat) : Int) ≤ (n : Int) := by omega
      have hltz2 : (A : Int) + 20 ≤ (n : Int) := by omega
      go_wp2_with fail
      refine (CI.out d1 _ A (A + 20) _ _ (S1.out.2.1.size.trans HS.out) S1.out.1 rfl (by omega) (by omega) hlt).mono ?_
      rintro e w' ⟨rfl, d2, h1, h2, h3⟩
      have H2 := Lib.hid h2
      have H3 := Lib.hid h3
      clear h2 h3
      go_wp2
      go_roundg (n - (A + 20))
      case measure => omega
      case rel =>
        have hA := HA.out
        refine ⟨q + 1, d2, by congr 1 <;> omega, by congr 1 <;> omega, by omega, by omega, Lib.hid ⟨h1, S1.out.2.1.trans (H2.out.wide (Nat.zero_le _) hlt), ?_⟩⟩
        have hc := S1.out.2.2.keep H2.out (.inr (by omega))
        refine Chop.more (q := q) (hc) (by omega) (by omega) ?_
        rw [← hA, show (q + 1) * 20 = A + 20 by omega]; exact H3.out
    · have hltz : ¬ ((A + 20 : Nat) : Int) ≤ (n : Int) := by omega
      have hltz2 : ¬ (A : Int) + 20 ≤ (n : Int) := by omega
      go_wp2_with fail
      refine (CI.out d1 _ A n _ _ (S1.out.2.1.size.trans HS.out) S1.out.1 rfl rfl hq (Nat.le_refl _)).mono ?_
      rintro e w' ⟨rfl, d2, h1, h2, h3⟩
      have hA := HA.out
      have hc : Chop ky2 20 d2.toList 0 n := Chop.more (q := q) (S1.out.2.2.keep h2 (.inr (by omega))) (by omega) (by omega) (by rw [← hA]; exact h3)
      have H1 : Hid (SWK encPn 2 w blk off d2 w' ∧ Mix ky2 0 n d.toList d2.toList ∧ Chop ky2 20 d2.toList 0 n) := Lib.hid ⟨h1, S1.out.2.1.trans (h2.wide (Nat.zero_le _) (Nat.le_refl _)), hc⟩
      clear h1 h2 h3 hc S1 hA hltz hltz2 hkx hlt
      go_wp2_with fail
      go_loopg [6] n (fun kx s wr => ∃ (z : Nat) (d1 : Array Pt), s = .int .i64 z ∧ 1 ≤ z ∧ z ≤ 2 * n + 20 ∧ n - z ≤ kx ∧ Hid (SWK encPn 2 w blk off d1 wr ∧ Mix ky2 0 n d.toList d1.toList ∧ Chop ky2 z d1.toList 0 n))
      case atStart => exact ⟨20, d2, rfl, by omega, by omega, by omega, H1⟩
      case round =>
        clear H1
        obtain ⟨z, d3, rfl, hz1, hz2, hkx, S2⟩ := hrel
        by_cases hlt : z < n
        · have hltz : (z : Int) < (n : Int) := by omega
          go_wp2_with fail
          go_loopg [7, 8] n (fun ky s t wr => ∃ (q A : Nat) (d4 : Array Pt), s = .int .i64 A ∧ t = .int .i64 (A + 2 * z : Nat) ∧ A ≤ n ∧ n - A ≤ ky ∧ Hid (A = q * (2 * z) ∧ SWK encPn 2 w blk off d4 wr ∧ Mix ky2 0 n d.toList d4.toList ∧ Chop ky2 (2 * z) d4.toList 0 A ∧ Chop ky2 z d4.toList A n))
          case atStart => exact ⟨0, 0, d3, rfl, by congr 1 <;> omega, by omega, by omega, Lib.hid ⟨by rw [Nat.zero_mul], S2.out.1, S2.out.2.1, Chop.none _, S2.out.2.2⟩⟩
          case round =>
            clear S2
            obtain ⟨q, A, d4, rfl, rfl, hA, hky, S3⟩ := hrel
            have hf := S3.out.2.2.2.2.first hA
            have hr := S3.out.2.2.2.2.rest
            by_cases hle : A + 2 * z ≤ n
            · have hltz3 : ((A + 2 * z : Nat) : Int) ≤ (n : Int) := by omega
              have hltz4 : (A : Int) + 2 * (z : Int) ≤ (n : Int) := by omega
              have hf2 := hr.first (by omega)
              rw [Nat.min_eq_left (by omega)] at hf
              rw [show A + z + z = A + 2 * z by omega, Nat.min_eq_left hle] at hf2
              have HF := Lib.hid (And.intro hf hf2)
              have HRR := Lib.hid hr.rest
              clear hf hf2 hr
              go_wp2_with fail
              refine (CM.out d4 _ A (A + z) (A + 2 * z) _ _ _ (S3.out.2.2.1.size.trans HS.out) S3.out.2.1 rfl (by omega) (by omega) (by omega) (by omega) hle HF.out.1 HF.out.2).mono ?_
              rintro e9 w9 ⟨rfl, d5, h1, h2, h3⟩
              have H4 := Lib.hid (And.intro h2 h3)
              clear h2 h3
              go_wp2
              go_roundg (n - (A + 2 * z))
              case measure => omega
              case rel =>
                refine ⟨q + 1, A + 2 * z, d5, by congr 1 <;> omega, by congr 1 <;> omega, hle, Nat.le_refl _, Lib.hid ⟨?_, h1, S3.out.2.2.1.trans (H4.out.1.wide (Nat.zero_le _) hle), ?_, ?_⟩⟩
                · rw [Nat.succ_mul q, ← S3.out.1]
                · have e1 := S3.out.1
                  have hc := S3.out.2.2.2.1.keep H4.out.1 (.inr (Nat.le_refl _))
                  rw [e1] at hc
                  refine Chop.more (q := q) hc (by rw [← e1]; omega) (by rw [Nat.succ_mul q, ← e1]; exact Nat.le_refl _) ?_
                  rw [← e1]; exact H4.out.2
                · have := HRR.out
                  rw [show A + z + z = A + 2 * z by omega] at this
                  exact this.keep H4.out.1 (.inl (Nat.le_refl _))
            · have hltz3 : ¬ ((A + 2 * z : Nat) : Int) ≤ (n : Int) := by omega
              have hltz4 : ¬ (A : Int) + 2 * (z : Int) ≤ (n : Int) := by omega
              have DN : Hid (∀ d5 : Array Pt, Mix ky2 A n d4.toList d5.toList → Rise ky2 (seg d5.toList A n) → Chop ky2 (2 * z) d5.toList 0 n) := Lib.hid fun d5 h1 h2 => by
                have e1 := S3.out.1
                have hc := S3.out.2.2.2.1.keep h1 (.inr (Nat.le_refl _))
                rw [e1] at hc
                refine Chop.more (q := q) hc (by rw [← e1]; exact hA) (by rw [Nat.succ_mul q, ← e1]; omega) ?_
                rw [← e1]; exact h2
              by_cases hm : A + z < n
              · have hm1 : (A : Int) + (z : Int) < (n : Int) := by omega
                have hf2 := hr.first (by omega)
                rw [Nat.min_eq_left (by omega)] at hf
                rw [Nat.min_eq_right (by omega)] at hf2
                have HF := Lib.hid (And.intro hf hf2)
                clear hf hf2 hr
                go_wp2_with fail
                refine (CM.out d4 _ A (A + z) n _ _ _ (S3.out.2.2.1.size.trans HS.out) S3.out.2.1 rfl (by omega) rfl (by omega) hm (Nat.le_refl _) HF.out.1 HF.out.2).mono ?_
                rintro e9 w9 ⟨rfl, d5, h1, h2, h3⟩
                have H4 := Lib.hid (And.intro h2 h3)
                clear h2 h3
                go_wp2
                go_roundg (n - 2 * z)
                case measure => omega
                case rel => exact ⟨2 * z, d5, by congr 1 <;> omega, by omega, by omega, by omega, Lib.hid ⟨h1, S3.out.2.2.1.trans (H4.out.1.wide (Nat.zero_le _) (Nat.le_refl _)), DN.out d5 H4.out.1 H4.out.2⟩⟩
              · have hm1 : ¬ (A : Int) + (z : Int) < (n : Int) := by omega
                rw [Nat.min_eq_right (by omega)] at hf
                have HF := Lib.hid hf
                clear hf hr
                go_wp2
                go_roundg (n - 2 * z)
                case measure => omega
                case rel => exact ⟨2 * z, d4, by congr 1 <;> omega, by omega, by omega, by omega, Lib.hid ⟨S3.out.2.1, S3.out.2.2.1, DN.out d4 (Mix.refl _ _ _) HF.out⟩⟩
        · have hltz : ¬ (z : Int) < (n : Int) := by omega
          go_wp2
          go_end0
          exact ⟨rfl, d3, S2.out.1, S2.out.2.1, S2.out.2.2.whole (by omega)⟩

theorem nSort (blk off cap n : Nat) (d : Array Pt) (w : World) (R : RowK encPn 2 w blk off d) (hs : d.size = n) (hsz : n < 1152921504606846976) :
    Calls Tryz.prog 121 #[.slice (some ⟨blk, off, none⟩) n cap, clsFn] w fun e w' => e = .returned (.tuple #[]) ∧ SWK encPn 2 w blk off (srt ky2 d.toList).toArray w' := by
  have CS := Lib.hid (nStable blk off cap n d w R hs hsz)
  have HS := Lib.hid hs
  clear R hs
  go_enter Tryz.func121, Tryz.ntmps121
  go_wp2_with fail
  refine CS.out.mono ?_
  rintro e w' ⟨rfl, d', h1, h2, h3⟩
  go_wp2
  go_end0
  refine ⟨rfl, ?_⟩
  have hz := h2.size
  have e1 : seg d'.toList 0 n = d'.toList := by
    unfold seg
    rw [List.drop_zero, List.take_of_length_le (by have := HS.out; simp; omega)]
  rw [e1] at h3
  have := srt_eq (ky := ky2) h3 h2.flt
  rw [← this]
  exact h1
end Go.Proofs.YtcfhblbmpbfoaaaGreatDoor
namespace Go.Proofs.YtcfhblbmpbfoaaaGreatDoor
open Go Go.RowKit Go.Kt Go.Kt.Sg Go.Shelf Go.Lib Go.Sort

def RowM (w : World) (blk off : Nat) (l : List Pt) : Prop := HoldsK encPn 2 w blk off l.toArray
theorem rowM_iff {w : World} {blk off : Nat} {l : List Pt} : RowM w blk off l ↔ ∀ i x, l[i]? = some x →
    (w.cell? ⟨blk, off + i * 2, none⟩ = some (.int .i32 x.1) ∧ w.frozen? ⟨blk, off + i * 2, none⟩ = false) ∧ (w.cell? ⟨blk, off + i * 2 + 1, none⟩ = some (.int .i64 x.2) ∧ w.frozen? ⟨blk, off + i * 2 + 1, none⟩ = false) := by
  constructor
  · intro h i x hx
    obtain ⟨hi, rfl⟩ := List.getElem?_eq_some_iff.1 hx
    have hi' : i < l.toArray.size := by simpa using hi
    have c0 := HoldsK.cell h hi' (c := 0) (by omega)
    have c1 := HoldsK.cell h hi' (c := 1) (by omega)
    rw [getElem!_pos l.toArray i hi'] at c0 c1
    exact ⟨by simpa [encPn] using c0, by simpa [encPn, Nat.add_assoc] using c1⟩
  · intro h j hj
    rw [size_flatK] at hj
    have hj' : j < l.length * 2 := by simpa using hj
    rw [get_flatK _ _ _ _ hj]
    obtain ⟨x, hx⟩ : ∃ x, l[j / 2]? = some x := ⟨_, List.getElem?_eq_getElem (by omega)⟩
    have e0 : l.toArray[j / 2]! = x := by
      obtain ⟨h1, rfl⟩ := List.getElem?_eq_some_iff.1 hx
      rw [getElem!_pos _ _ (by simpa using h1)]
      simp
    rw [e0]
    have e := h (j / 2) x hx
    rcases (by omega : j % 2 = 0 ∨ j % 2 = 1) with k | k
    · rw [k, show off + j = off + j / 2 * 2 by omega]; exact e.1
    · rw [k, show off + j = off + j / 2 * 2 + 1 by omega]; exact e.2
theorem RowM.keep {w w' : World} {blk off : Nat} {l : List Pt} {X : Nat → Prop} (h : RowM w blk off l) (hb : blk < w.heap.size) (k : Keep X w w') (hX : ¬ X blk) : RowM w' blk off l :=
  rowM_iff.2 fun i x hx => by
    have e := rowM_iff.1 h i x hx
    exact ⟨⟨k.cell e.1.1 hX, (k.frozen (p := ⟨blk, _, none⟩) hb hX).trans e.1.2⟩, ⟨k.cell e.2.1 hX, (k.frozen (p := ⟨blk, _, none⟩) hb hX).trans e.2.2⟩⟩
theorem RowM.seg {w : World} {blk off : Nat} {l : List Pt} (h : RowM w blk off l) (a b : Nat) : RowM w blk (off + a * 2) (Sg.seg l a b) :=
  rowM_iff.2 fun i x hx => by
    have hi : l[a + i]? = some x := by
      unfold Sg.seg at hx
      rw [List.getElem?_drop, List.getElem?_take] at hx
      split at hx
      · exact hx
      · cases hx
    have e := rowM_iff.1 h (a + i) x hi
    rwa [show off + a * 2 + i * 2 = off + (a + i) * 2 by omega]
theorem keep_swk {w w' : World} {blk off : Nat} {d : Array Pt} (h : SWK encPn 2 w blk off d w') : Keep (fun b => b = blk) w w' := by
  obtain ⟨m, os, rfl⟩ := h
  refine ⟨rfl, rfl, rfl, size_sortWorldK_c _ _ _ _ _ _ _ _, fun b hb hne => ?_⟩
  unfold sortWorldK putRowK
  rw [heap_grow_old _ _ (by rw [size_putRow]; exact hb)]
  show (w.heap.modify blk _)[b]? = _
  rw [Array.getElem?_modify, if_neg (fun e => hne e.symm)]
theorem swk_other {w w' : World} {blk off : Nat} {d : Array Pt} (h : SWK encPn 2 w blk off d w') (hb : blk < w.heap.size) {o : Nat} (ho : o < off ∨ off + d.size * 2 ≤ o) : w'.cell? ⟨blk, o, none⟩ = w.cell? ⟨blk, o, none⟩ ∧ w'.frozen? ⟨blk, o, none⟩ = w.frozen? ⟨blk, o, none⟩ := by
  obtain ⟨m, os, rfl⟩ := h
  unfold sortWorldK putRowK
  refine ⟨?_, ?_⟩
  · rw [cell?_grow _ _ _ (by rw [size_putRow]; exact hb), cell?_putRow_other _ _ _ _ _ _ (.inr (by simpa using ho))]; rfl
  · rw [frozen?_grow _ _ _ (by rw [size_putRow]; exact hb), frozen?_putRow]; rfl
theorem RowM.sorted {w w' : World} {blk off a b : Nat} {l s : List Pt} (h : RowM w blk off l) (hb : blk < w.heap.size) (hab : a ≤ b) (hbl : b ≤ l.length) (hs : s.length = b - a) (k : SWK encPn 2 w blk (off + a * 2) s.toArray w') : RowM w' blk off (l.take a ++ s ++ l.drop b) :=
  rowM_iff.2 fun i x hx => by
    have l0 : (l.take a).length = a := by simp; omega
    by_cases h1 : i < a
    · rw [List.append_assoc, List.getElem?_append_left (by omega), List.getElem?_take, if_pos h1] at hx
      have e := rowM_iff.1 h i x hx
      have q0 := swk_other k hb (o := off + i * 2) (.inl (by omega))
      have q1 := swk_other k hb (o := off + i * 2 + 1) (.inl (by omega))
      rw [q0.1, q0.2, q1.1, q1.2]; exact e
    · rw [List.append_assoc, List.getElem?_append_right (by omega), l0] at hx
      by_cases h2 : i < b
      · rw [List.getElem?_append_left (by omega)] at hx
        have hh : RowM w' blk (off + a * 2) s := k.holds hb (d0 := (Sg.seg l a b).toArray) (h.seg a b) (by simp only [List.size_toArray]; rw [seg_len _ _ _ hbl, hs])
        have e := rowM_iff.1 hh (i - a) x hx
        rwa [show off + a * 2 + (i - a) * 2 = off + i * 2 by omega] at e
      · rw [List.getElem?_append_right (by omega), List.getElem?_drop, hs, show b + (i - a - (b - a)) = i by omega] at hx
        have e := rowM_iff.1 h i x hx
        have q0 := swk_other k hb (o := off + i * 2) (.inr (by simp only [List.size_toArray]; omega))
        have q1 := swk_other k hb (o := off + i * 2 + 1) (.inr (by simp only [List.size_toArray]; omega))
        rw [q0.1, q0.2, q1.1, q1.2]; exact e

theorem setc1 {W : World} {n : Nat} {v u : Value} {T : TypeId} (h : W.heap[n]? = some (.cells #[v] T (0, 0))) : (W.setCell ⟨n, 0, none⟩ u).heap[n]? = some (.cells #[u] T (0, 0)) := by
  have hlt := (Array.getElem?_eq_some_iff.1 h).1
  have h' : W.heap[n] = .cells #[v] T (0, 0) := by rw [Array.getElem?_eq_getElem hlt] at h; exact Option.some.inj h
  simp [World.setCell, hlt, Array.getElem_modify, h']
set_option maxHeartbeats 2000000 in
set_option maxRecDepth 100000 in
theorem nIns0 (p : Option Addr) (cap : Nat) (w : World) : Calls Tryz.prog 178 #[.slice p 0 cap, .int .i64 0, .int .i64 0, clsFn] w fun e w' => e = .returned (.tuple #[]) ∧ w' = w := by
  go_enter Tryz.func178, Tryz.ntmps178
  go_wp2
  refine wp_loop_rounds 1 ?_
  rw [rounds_succ]
  go_wp2
  go_end0
  exact ⟨rfl, rfl⟩
set_option maxHeartbeats 2000000 in
set_option maxRecDepth 100000 in
theorem nSort0 (p : Option Addr) (cap : Nat) (w : World) : Calls Tryz.prog 121 #[.slice p 0 cap, clsFn] w fun e w' => e = .returned (.tuple #[]) ∧ w' = w := by
  have CS : Calls Tryz.prog 157 #[.slice p 0 cap, .int .i64 0, clsFn] w fun e w' => e = .returned (.tuple #[]) ∧ w' = w := by
    have CI := Lib.hid (nIns0 p cap w)
    go_enter Tryz.func157, Tryz.ntmps157
    go_wp2
    refine wp_loop_rounds 1 ?_
    rw [rounds_succ]
    go_wp2_with fail
    refine CI.out.mono ?_
    rintro e w' ⟨rfl, rfl⟩
    go_wp2
    refine wp_loop_rounds 1 ?_
    rw [rounds_succ]
    go_wp2
    go_end0
    exact ⟨rfl, rfl⟩
  have HC := Lib.hid CS
  clear CS
  go_enter Tryz.func121, Tryz.ntmps121
  go_wp2_with fail
  refine HC.out.mono ?_
  rintro e w' ⟨rfl, rfl⟩
  go_wp2
  go_end0
  exact ⟨rfl, rfl⟩

set_option maxHeartbeats 4000000 in
set_option maxRecDepth 1000000 in
theorem nSettle (b1 b2 blk off cap n a t : Nat) (tz az : Int) (l : List Pt) (w : World) (et : tz = (t : Int)) (ea : az = (a : Int)) (h1 : w.heap[b1]? = some (.cells #[.slice (some ⟨blk, off, none⟩) n cap] 61 (0, 0))) (h2 : w.heap[b2]? = some (.cells #[.int .i64 az] 3 (0, 0)))
    (hr : RowM w blk off l) (hl : l.length = n) (hat : a ≤ t) (htn : t ≤ n) (hb : blk < w.heap.size) (hn1 : blk ≠ b1) (hn2 : blk ≠ b2) (hn3 : b1 ≠ b2) (hcap : n ≤ cap) (hsz : n < 1152921504606846976) :
    Calls Tryz.prog 120 #[.int .i64 tz, .pointer (some ⟨b1, 0, none⟩), .pointer (some ⟨b2, 0, none⟩)] w fun e w' => e = .returned (.tuple #[]) ∧ RowM w' blk off (l.take a ++ srt ky2 (seg l a t) ++ l.drop t) ∧
      w'.heap[b1]? = some (.cells #[.slice (some ⟨blk, off, none⟩) n cap] 61 (0, 0)) ∧ w'.heap[b2]? = some (.cells #[.int .i64 ((t + 1 : Nat) : Int)] 3 (0, 0)) ∧ Keep (fun b => b = blk ∨ b = b2) w w' := by
  subst et ea
  have c1 : w.cell? ⟨b1, 0, none⟩ = some (.slice (some ⟨blk, off, none⟩) n cap) := cell_one h1
  have c2 : w.cell? ⟨b2, 0, none⟩ = some (.int .i64 (a : Int)) := cell_one h2
  have HS : Hid (∀ p cp m, m = t - a → (p = some ⟨blk, off + a * 2, none⟩ ∨ t = a) → Calls Tryz.prog 121 #[.slice p m cp, clsFn] w fun e w' => e = .returned (.tuple #[]) ∧
      RowM w' blk off (l.take a ++ srt ky2 (seg l a t) ++ l.drop t) ∧ Keep (fun b => b = blk) w w') := Lib.hid fun p cp m hm hp => by
    by_cases h9 : t = a
    · subst h9
      rw [hm, Nat.sub_self]
      refine (nSort0 p cp w).mono ?_
      rintro e w' ⟨rfl, rfl⟩
      refine ⟨rfl, ?_, Keep.refl _ _⟩
      have : seg l t t = [] := seg_nil l t
      rw [this, srt_nil, List.append_nil, List.take_append_drop]
      exact hr
    · rcases hp with rfl | hp
      · subst hm
        refine Calls.mono (nSort blk (off + a * 2) cp (t - a) (seg l a t).toArray w (rowPn (hr.seg a t) hb) (by simp only [List.size_toArray]; rw [seg_len _ _ _ (by omega)]) (by omega)) ?_
        rintro e w' ⟨rfl, hw⟩
        exact ⟨rfl, hr.sorted hb hat (by omega) (by rw [srt_len, seg_len _ _ _ (by omega)]) hw, keep_swk hw⟩
      · exact absurd hp h9
  have HB := Lib.hid (And.intro h1 (And.intro h2 hb))
  have HN := Lib.hid (And.intro hn1 (And.intro hn2 hn3))
  clear h1 h2 hr hl hb hn1 hn2 hn3
  go_enter Tryz.func120, Tryz.ntmps120
  have hca : a < cap ∨ (a = cap ∧ t = a) := by omega
  rcases hca with hca | ⟨hca, hta⟩
  · have hca : ¬ cap = a := by omega
    go_wp2_with fail
    refine (HS.out _ _ _ rfl (.inl rfl)).mono ?_
    rintro e w1 ⟨rfl, hr1, hk⟩
    have d2 : w1.heap[b2]? = some (.cells #[.int .i64 (a : Int)] 3 (0, 0)) := hk.heap HB.out.2.1 (fun h => HN.out.2.1 h.symm)
    have c3 : w1.cell? ⟨b2, 0, none⟩ = some (.int .i64 (a : Int)) := cell_one d2
    have f3 : w1.frozen? ⟨b2, 0, none⟩ = false := Lib.frozen_of_heap d2 _
    have HW := Lib.hid (And.intro hr1 (And.intro hk d2))
    clear hr1 hk d2
    go_wp2
    go_end0
    have k2 : Keep (fun b => b = b2) w1 (w1.setCell ⟨b2, 0, none⟩ (.int .i64 ((t : Int) + 1))) := Keep.setCell (X := fun b => b = b2) (Keep.refl _ w1) (p := ⟨b2, 0, none⟩) rfl _
    have hb1 : blk < w1.heap.size := Nat.lt_of_lt_of_le HB.out.2.2 HW.out.2.1.size
    refine ⟨rfl, HW.out.1.keep hb1 k2 (fun h => HN.out.2.1 h), k2.heap (HW.out.2.1.heap HB.out.1 (fun h => HN.out.1 h.symm)) (fun h => HN.out.2.2 h), ?_, ?_⟩
    · rw [show (((t + 1 : Nat) : Int)) = (t : Int) + 1 by omega]
      exact setc1 HW.out.2.2
    · exact (HW.out.2.1.weaken fun _ _ h => .inl h).trans (k2.weaken fun _ _ h => .inr h)
  · subst hca
    have HT := Lib.hid hta
    clear hta
    go_wp2_with fail
    refine (HS.out _ _ _ rfl (.inr HT.out)).mono ?_
    rintro e w1 ⟨rfl, hr1, hk⟩
    have d2 : w1.heap[b2]? = some (.cells #[.int .i64 (a : Int)] 3 (0, 0)) := hk.heap HB.out.2.1 (fun h => HN.out.2.1 h.symm)
    have c3 : w1.cell? ⟨b2, 0, none⟩ = some (.int .i64 (a : Int)) := cell_one d2
    have f3 : w1.frozen? ⟨b2, 0, none⟩ = false := Lib.frozen_of_heap d2 _
    have HW := Lib.hid (And.intro hr1 (And.intro hk d2))
    clear hr1 hk d2
    go_wp2
    go_end0
    have k2 : Keep (fun b => b = b2) w1 (w1.setCell ⟨b2, 0, none⟩ (.int .i64 ((t : Int) + 1))) := Keep.setCell (X := fun b => b = b2) (Keep.refl _ w1) (p := ⟨b2, 0, none⟩) rfl _
    have hb1 : blk < w1.heap.size := Nat.lt_of_lt_of_le HB.out.2.2 HW.out.2.1.size
    refine ⟨rfl, HW.out.1.keep hb1 k2 (fun h => HN.out.2.1 h), k2.heap (HW.out.2.1.heap HB.out.1 (fun h => HN.out.1 h.symm)) (fun h => HN.out.2.2 h), ?_, ?_⟩
    · rw [show (((t + 1 : Nat) : Int)) = (t : Int) + 1 by omega]
      exact setc1 HW.out.2.2
    · exact (HW.out.2.1.weaken fun _ _ h => .inl h).trans (k2.weaken fun _ _ h => .inr h)
end Go.Proofs.YtcfhblbmpbfoaaaGreatDoor
namespace Go.Proofs.YtcfhblbmpbfoaaaGreatDoor
open Go Go.RowKit Go.Kt Go.Kt.Sg Go.Shelf Go.Lib Go.Sort

def OrdI (b1 b2 blk off cap n : Nat) (l : List Pt) (w2 : World) (i : Nat) (wr : World) : Prop :=
  RowM wr blk off (doneR [] (l.take i) ++ tailR [] (l.take i) ++ l.drop i) ∧ wr.heap[b1]? = some (.cells #[.slice (some ⟨blk, off, none⟩) n cap] 61 (0, 0)) ∧
    wr.heap[b2]? = some (.cells #[.int .i64 ((doneR [] (l.take i)).length : Nat)] 3 (0, 0)) ∧ Keep (fun b => b = blk ∨ b = b2) w2 wr
theorem OrdI.below {b1 b2 blk off cap n : Nat} {l : List Pt} {w2 wr w' : World} {i : Nat} (h : OrdI b1 b2 blk off cap n l w2 i wr) (hb : blk < w2.heap.size) (k : Below wr.heap.size wr w') : OrdI b1 b2 blk off cap n l w2 i w' :=
  have kk : Keep (fun _ => False) wr w' := Keep.of_all k
  ⟨h.1.keep (Nat.lt_of_lt_of_le hb h.2.2.2.size) kk (fun h => h), kk.heap h.2.1 (fun h => h), kk.heap h.2.2.1 (fun h => h), h.2.2.2.trans (kk.weaken fun _ _ h => h.elim)⟩
theorem ord_len (l : List Pt) (i : Nat) (hi : i ≤ l.length) : (doneR [] (l.take i)).length + (tailR [] (l.take i)).length = i := by
  rw [doneR_len]; simp; omega
theorem ord_at (l : List Pt) (i : Nat) {x : Pt} (hx : l[i]? = some x) : (doneR [] (l.take i) ++ tailR [] (l.take i) ++ l.drop i)[i]? = some x := by
  have hi := (List.getElem?_eq_some_iff.1 hx).1
  have := ord_len l i (by omega)
  rw [List.getElem?_append_right (by rw [List.length_append]; omega), List.length_append, this, Nat.sub_self, List.getElem?_drop]
  exact hx
theorem ord_cut (d t r : List Pt) (i : Nat) (h : d.length + t.length = i) : (d ++ t ++ r).take d.length ++ srt ky2 (seg (d ++ t ++ r) d.length i) ++ (d ++ t ++ r).drop i = d ++ srt ky2 t ++ r := by
  have e1 : (d ++ t ++ r).take d.length = d := by rw [List.append_assoc, List.take_append_of_le_length (Nat.le_refl _), List.take_of_length_le (Nat.le_refl _)]
  have e2 : (d ++ t ++ r).drop i = r := by rw [← h, ← List.length_append, List.drop_append_of_le_length (Nat.le_refl _), List.drop_of_length_le (Nat.le_refl _), List.nil_append]
  have e3 : seg (d ++ t ++ r) d.length i = t := by
    unfold seg
    rw [← h, ← List.length_append, List.take_append_of_le_length (Nat.le_refl _), List.take_of_length_le (Nat.le_refl _), List.drop_append_of_le_length (Nat.le_refl _), List.drop_of_length_le (Nat.le_refl _), List.nil_append]
  rw [e1, e2, e3]
theorem OrdI.settle {b1 b2 blk off cap n i : Nat} {l : List Pt} {w2 W : World} (h : OrdI b1 b2 blk off cap n l w2 i W) (hl : l.length = n) (hi : i ≤ n) (hb : blk < w2.heap.size) (hn1 : blk ≠ b1) (hn2 : blk ≠ b2) (hn3 : b1 ≠ b2) (hcap : n ≤ cap) (hsz : n < 1152921504606846976) (tz : Int) (et : tz = (i : Int)) :
    Calls Tryz.prog 120 #[.int .i64 tz, .pointer (some ⟨b1, 0, none⟩), .pointer (some ⟨b2, 0, none⟩)] W fun e w' => e = .returned (.tuple #[]) ∧ RowM w' blk off (doneR [] (l.take i) ++ srt ky2 (tailR [] (l.take i)) ++ l.drop i) ∧
      w'.heap[b1]? = some (.cells #[.slice (some ⟨blk, off, none⟩) n cap] 61 (0, 0)) ∧ w'.heap[b2]? = some (.cells #[.int .i64 ((i + 1 : Nat) : Int)] 3 (0, 0)) ∧ Keep (fun b => b = blk ∨ b = b2) w2 w' := by
  have hlen := ord_len l i (by omega)
  refine Calls.mono (nSettle b1 b2 blk off cap n (doneR [] (l.take i)).length i tz _ _ W et rfl h.2.1 h.2.2.1 h.1 (by rw [List.length_append, List.length_append, hlen, List.length_drop]; omega) (by omega) hi (Nat.lt_of_lt_of_le hb h.2.2.2.size) hn1 hn2 hn3 hcap hsz) ?_
  rintro e w' ⟨rfl, h1, h2, h3, h4⟩
  rw [ord_cut _ _ _ _ hlen] at h1
  exact ⟨rfl, h1, h2, h3, h.2.2.2.trans h4⟩

set_option maxHeartbeats 4000000 in
set_option maxRecDepth 1000000 in
theorem nOrder (blk off cap n : Nat) (l : List Pt) (w : World) (hr : RowM w blk off l) (hl : l.length = n) (hb : blk < w.heap.size) (hcap : n ≤ cap) (hsz : n < 1152921504606846976) :
    Calls Tryz.prog 70 #[.slice (some ⟨blk, off, none⟩) n cap] w fun e w' => e = .returned (.tuple #[]) ∧ RowM w' blk off (ordL [] l) ∧ Keep (fun b => b = blk) w w' := by
  have ef := fun args w => enters_of Tryz.func120 (by kernel_rfl) rfl (args := args) (w := w)
  obtain ⟨b1, hb1⟩ : ∃ b1, w.heap.size = b1 := ⟨_, rfl⟩
  have HR := Lib.hid (And.intro hr (And.intro hl (And.intro hb hb1)))
  have HC := Lib.hid hcap
  clear hr hl hb hcap
  go_enter Tryz.func70, Tryz.ntmps70
  go_wp2_with fail
  obtain ⟨w2, hw2⟩ : ∃ w2, ((w.alloc (.cells #[.slice (some ⟨blk, off, none⟩) n cap] 61)).alloc (.cells #[.int .i64 0] 3)) = w2 := ⟨_, rfl⟩
  rw [hw2]
  have hz : w.heap.size + 2 = w2.heap.size := by rw [← hw2, World.size_alloc, World.size_alloc]
  have hbl : Below w.heap.size w w2 := by rw [← hw2]; exact ((Below.refl _ w).alloc (Nat.le_refl _) _).alloc (by rw [World.size_alloc]; omega) _
  have h1 : w2.heap[b1]? = some (.cells #[.slice (some ⟨blk, off, none⟩) n cap] 61 (0, 0)) := by
    rw [← hw2, Below.heap_alloc _ _ _ (by rw [World.size_alloc]; omega), ← hb1]
    exact World.alloc_heap_new w _
  have h2 : w2.heap[b1 + 1]? = some (.cells #[.int .i64 0] 3 (0, 0)) := by
    rw [← hw2, ← hb1, ← World.size_alloc w (.cells #[.slice (some ⟨blk, off, none⟩) n cap] 61)]
    exact World.alloc_heap_new _ _
  have hO : OrdI b1 (b1 + 1) blk off cap n l w2 0 w2 := ⟨by rw [List.take_zero, List.drop_zero]; exact HR.out.1.keep (X := fun _ => False) HR.out.2.2.1 (Keep.of_all hbl) (fun h => h), h1, by rw [List.take_zero]; exact h2, Keep.refl _ _⟩
  have hb2 : blk < w2.heap.size := by have := HR.out.2.2.1; omega
  have hb1' : blk < b1 := by rw [← hb1]; exact HR.out.2.2.1
  have HO := Lib.hid hO
  have HW := Lib.hid (And.intro hbl (And.intro hb2 (And.intro hb1' hz)))
  clear hO h1 h2 hbl hb2 hb1' hw2 hz
  have CS : Hid (∀ i W tz, i ≤ n → tz = (i : Int) → OrdI b1 (b1 + 1) blk off cap n l w2 i W → Calls Tryz.prog 120 #[.int .i64 tz, .pointer (some ⟨b1, 0, none⟩), .pointer (some ⟨b1 + 1, 0, none⟩)] W fun e w' => e = .returned (.tuple #[]) ∧
      RowM w' blk off (doneR [] (l.take i) ++ srt ky2 (tailR [] (l.take i)) ++ l.drop i) ∧ w'.heap[b1]? = some (.cells #[.slice (some ⟨blk, off, none⟩) n cap] 61 (0, 0)) ∧
      w'.heap[b1 + 1]? = some (.cells #[.int .i64 ((i + 1 : Nat) : Int)] 3 (0, 0)) ∧ Keep (fun b => b = blk ∨ b = b1 + 1) w2 w') :=
    Lib.hid fun i W tz hi ht h => h.settle HR.out.2.1 hi HW.out.2.1 (by have := HW.out.2.2.1; omega) (by have := HW.out.2.2.1; omega) (by omega) HC.out hsz tz ht
  go_loopg [9] n (fun kx s wr => ∃ i : Nat, s = .int .i64 i ∧ i ≤ n ∧ n - i ≤ kx ∧ Hid (OrdI b1 (b1 + 1) blk off cap n l w2 i wr))
  case atStart => exact ⟨0, rfl, Nat.zero_le _, Nat.le_refl _, HO⟩
  case round =>
    clear HO
    obtain ⟨i, rfl, hin, hkx, hI⟩ := hrel
    by_cases hlt : i < n
    · have hltz : (i : Int) < (n : Int) := by omega
      obtain ⟨x, hx⟩ : ∃ x, l[i]? = some x := ⟨_, List.getElem?_eq_getElem (by rw [HR.out.2.1]; exact hlt)⟩
      have hc := rowM_iff.1 hI.out.1 i x (ord_at l i hx)
      obtain ⟨⟨c0, _⟩, ⟨c1, _⟩⟩ := hc
      obtain ⟨x1, x2⟩ := x
      have HX := Lib.hid hx
      clear hx
      have hsn : ∀ {A : Type} (g : List Pt → A), g (l.take (i + 1)) = g (l.take i ++ [(x1, x2)]) := fun g => by rw [List.take_add_one, HX.out]; rfl
      have hdr : l.drop i = (x1, x2) :: l.drop (i + 1) := by
        obtain ⟨h8, h9⟩ := List.getElem?_eq_some_iff.1 HX.out
        rw [List.drop_eq_getElem_cons h8, h9]
      by_cases h0 : x2 = 0
      · subst h0
        have HD := Lib.hid (And.intro (hsn (doneR [])) (And.intro (hsn (tailR [])) hdr))
        clear hsn hdr
        go_wp2_with fail
        refine (CS.out i _ _ hin rfl (hI.out.below HW.out.2.1 ((Below.refl _ wr).alloc (Nat.le_refl _) _))).mono ?_
        rintro e w' ⟨rfl, r1, r2, r3, r4⟩
        have hw := Lib.hid (And.intro r1 (And.intro r2 (And.intro r3 r4)))
        clear r1 r2 r3 r4
        go_wp2
        go_roundg (n - (i + 1))
        case measure => omega
        case rel =>
          have e1 := HD.out.1
          have e2 := HD.out.2.1
          rw [doneR_snoc, if_pos rfl] at e1
          rw [tailR_snoc, if_pos rfl] at e2
          have hlen := ord_len l i (by rw [HR.out.2.1]; exact hin)
          refine ⟨i + 1, by simp, by omega, Nat.le_refl _, Lib.hid ⟨?_, hw.out.2.1, ?_, hw.out.2.2.2⟩⟩
          · rw [e1, e2]
            have := hw.out.1
            rw [HD.out.2.2] at this
            simpa using this
          · rw [e1]
            have := hw.out.2.2.1
            rw [show (doneR [] (l.take i) ++ srt ky2 (tailR [] (l.take i)) ++ [((x1, 0) : Pt)]).length = i + 1 by rw [List.length_append, List.length_append, srt_len, hlen]; rfl]
            exact this
      · have h0' : ¬ ((x1, x2) : Pt).2 = 0 := h0
        have HD := Lib.hid (And.intro (hsn (doneR [])) (And.intro (hsn (tailR [])) (And.intro hdr h0')))
        clear hsn hdr h0'
        go_wp2
        go_roundg (n - (i + 1))
        case measure => omega
        case rel =>
          have e1 := HD.out.1
          have e2 := HD.out.2.1
          rw [doneR_snoc, if_neg HD.out.2.2.2] at e1
          rw [tailR_snoc, if_neg HD.out.2.2.2] at e2
          have h9 := hI.out.below HW.out.2.1 ((Below.refl _ wr).alloc (o := .cells #[.int .i32 x1, .int .i64 x2] 78) (Nat.le_refl _))
          refine ⟨i + 1, by simp, by omega, Nat.le_refl _, Lib.hid ⟨?_, h9.2.1, by rw [e1]; exact h9.2.2.1, h9.2.2.2⟩⟩
          rw [e1, e2]
          have := h9.1
          rw [HD.out.2.2.1] at this
          simpa using this
    · obtain rfl : i = n := by omega
      have c1 : wr.cell? ⟨b1, 0, none⟩ = some (.slice (some ⟨blk, off, none⟩) i cap) := cell_one hI.out.2.1
      go_wp2_with fail
      refine (CS.out i _ _ (Nat.le_refl _) rfl hI.out).mono ?_
      rintro e w' ⟨rfl, r1, r2, r3, r4⟩
      have hw := Lib.hid (And.intro r1 r4)
      clear r1 r2 r3 r4
      go_wp2
      go_end0
      refine ⟨rfl, ?_, ?_⟩
      · have := hw.out.1
        rw [List.drop_of_length_le (by rw [HR.out.2.1]; exact Nat.le_refl _), List.append_nil, ← ordL_parts, List.take_of_length_le (by rw [HR.out.2.1]; exact Nat.le_refl _)] at this
        exact this
      · exact ((Keep.of_all HW.out.1 (X := fun _ => False)).weaken fun _ _ h => h.elim).plus hw.out.2 (fun b hb h => by
          rcases h with h | h
          · exact h
          · have := HW.out.2.2.1; have := HR.out.2.2.2; omega)

set_option maxHeartbeats 2000000 in
set_option maxRecDepth 100000 in
theorem nOrder0 (p : Option Addr) (cap : Nat) (w : World) : Calls Tryz.prog 70 #[.slice p 0 cap] w fun e w' => e = .returned (.tuple #[]) ∧ Below w.heap.size w w' := by
  obtain ⟨b1, hb1⟩ : ∃ b1, w.heap.size = b1 := ⟨_, rfl⟩
  have CS : Hid (∀ W : World, W.heap[b1]? = some (.cells #[.slice p 0 cap] 61 (0, 0)) → W.heap[b1 + 1]? = some (.cells #[.int .i64 0] 3 (0, 0)) → Calls Tryz.prog 120 #[.int .i64 0, .pointer (some ⟨b1, 0, none⟩), .pointer (some ⟨b1 + 1, 0, none⟩)] W fun e w' => e = .returned (.tuple #[]) ∧ Keep (fun b => b = b1 + 1) W w') := Lib.hid fun W h1 h2 => by
    have c1 : W.cell? ⟨b1, 0, none⟩ = some (.slice p 0 cap) := cell_one h1
    have c2 : W.cell? ⟨b1 + 1, 0, none⟩ = some (.int .i64 0) := cell_one h2
    have f2 : W.frozen? ⟨b1 + 1, 0, none⟩ = false := Lib.frozen_of_heap h2 _
    have HS : Hid (∀ p cp, Calls Tryz.prog 121 #[.slice p 0 cp, clsFn] W fun e w' => e = .returned (.tuple #[]) ∧ w' = W) := Lib.hid fun p cp => nSort0 p cp W
    clear h1 h2
    go_enter Tryz.func120, Tryz.ntmps120
    cases p <;> go_wp2_with fail
    all_goals (try (refine (HS.out _ _).mono ?_; rintro e w1 ⟨rfl, rfl⟩; go_wp2; go_end0; exact ⟨rfl, Keep.setCell (X := fun b => b = b1 + 1) (Keep.refl _ _) (p := ⟨b1 + 1, 0, none⟩) rfl _⟩))
  have HB1 := Lib.hid hb1
  have ef := fun args w => enters_of Tryz.func120 (by kernel_rfl) rfl (args := args) (w := w)
  go_enter Tryz.func70, Tryz.ntmps70
  go_wp2_with fail
  obtain ⟨w2, hw2⟩ : ∃ w2, ((w.alloc (.cells #[.slice p 0 cap] 61)).alloc (.cells #[.int .i64 0] 3)) = w2 := ⟨_, rfl⟩
  rw [hw2]
  have hbl : Below w.heap.size w w2 := by rw [← hw2]; exact ((Below.refl _ w).alloc (Nat.le_refl _) _).alloc (by rw [World.size_alloc]; omega) _
  have h1 : w2.heap[b1]? = some (.cells #[.slice p 0 cap] 61 (0, 0)) := by
    rw [← hw2, Below.heap_alloc _ _ _ (by rw [World.size_alloc]; omega), ← hb1]
    exact World.alloc_heap_new w _
  have h2 : w2.heap[b1 + 1]? = some (.cells #[.int .i64 0] 3 (0, 0)) := by
    rw [← hw2, ← hb1, ← World.size_alloc w (.cells #[.slice p 0 cap] 61)]
    exact World.alloc_heap_new _ _
  have CC := Lib.hid (CS.out w2 h1 h2)
  have c1 : w2.cell? ⟨b1, 0, none⟩ = some (.slice p 0 cap) := cell_one h1
  have HB := Lib.hid (And.intro hbl hw2)
  clear hbl hw2 h1 h2 hb1
  refine wp_loop_rounds 1 ?_
  rw [rounds_succ]
  go_wp2_with fail
  refine CC.out.mono ?_
  rintro e w3 ⟨rfl, hk⟩
  have HK := Lib.hid hk
  clear hk
  go_wp2
  go_end0
  exact ⟨rfl, HB.out.1.trans (HK.out.below HB.out.1.size fun b h => by have := HB1.out; omega)⟩
end Go.Proofs.YtcfhblbmpbfoaaaGreatDoor
namespace Go.Proofs.YtcfhblbmpbfoaaaGreatDoor
open Go Go.RowKit Go.Kt Go.Kt.Sg Go.Shelf Go.Lib Go.Sort Go.Kt.Rg

def RowV (w : World) (v : Value) (l : List Pt) : Prop := ∃ p cap, v = .slice p l.length cap ∧ l.length ≤ cap ∧ (l = [] ∨ ∃ g o, p = some ⟨g, o, none⟩ ∧ g < w.heap.size ∧ RowM w g o l)
theorem RowV.keep {w w' : World} {v : Value} {l : List Pt} {X : Nat → Prop} (h : RowV w v l) (k : Keep X w w') (hX : ∀ g, v.ownBlock = some g → ¬ X g) : RowV w' v l := by
  obtain ⟨p, cap, rfl, hc, h⟩ := h
  refine ⟨p, cap, rfl, hc, ?_⟩
  rcases h with h | ⟨g, o, rfl, hg, h⟩
  · exact .inl h
  · exact .inr ⟨g, o, rfl, Nat.lt_of_lt_of_le hg k.size, h.keep hg k (hX g rfl)⟩
theorem RowV.below {w w' : World} {v : Value} {l : List Pt} (h : RowV w v l) (k : Below w.heap.size w w') : RowV w' v l := h.keep (X := fun _ => False) (Keep.of_all k) (fun _ _ h => h)
theorem RowV.at {w : World} {v : Value} {l : List Pt} (h : RowV w v l) {p : Option Addr} {n cap : Nat} (hv : v = .slice p n cap) {i : Nat} {x : Pt} (hx : l[i]? = some x) :
    ∃ g o, p = some ⟨g, o, none⟩ ∧ w.cell? ⟨g, o + i * 2, none⟩ = some (.int .i32 x.1) ∧ w.cell? ⟨g, o + i * 2 + 1, none⟩ = some (.int .i64 x.2) := by
  obtain ⟨p', cap', rfl, hc, h⟩ := h
  injection hv with e1 e2 e3
  subst e1
  rcases h with rfl | ⟨g, o, rfl, hg, h⟩
  · cases hx
  · have := rowM_iff.1 h i x hx
    exact ⟨g, o, rfl, this.1.1, this.2.1⟩
def barP (l : List Pt) : List Int := l.map Prod.fst

theorem make_i32 (W : World) (n : Nat) (hn : n ≤ 1099511627776) :
    (Instr.makeSlice 22 (.int .i64 (n : Int)) (.int .i64 (n : Int))).run Tryz.prog W = .ok (.slice (some ⟨W.heap.size, 0, none⟩) n n) (W.alloc (.cells (madeCells #[.int .i32 0] n) 21)) := by
  obtain ⟨i, hi, hz, hs1, hb1⟩ := info_parts tinfoI32
  have hb' : (i.bytes : Int) * (n : Int) ≤ 281474976710656 := by rw [hb1]; omega
  have hr := run_make (P := Tryz.prog) W 22 21 i (.int .i32 0) Tryz.underlying22 hi hz .i64 .i64 n n (by omega) (Int.le_refl _) hb' (by omega)
  simp only [Int.toNat_natCast] at hr
  rw [hs1] at hr
  simpa [Value.cells] using hr
def FillB (g n : Nat) (l : List Pt) (i : Nat) (W : World) : Prop := ∃ cs : Array Value, W.heap[g]? = some (.cells cs 21 (0, 0)) ∧ cs.size = n ∧ ∀ t x, t < i → l[t]? = some x → cs[t]? = some (.int .i32 x.1)
theorem FillB.set {g n i : Nat} {l : List Pt} {W : World} {x : Pt} (h : FillB g n l i W) (hi : i < n) (hx : l[i]? = some x) : FillB g n l (i + 1) (W.setCell ⟨g, i, none⟩ (.int .i32 x.1)) := by
  obtain ⟨cs, h1, h2, h3⟩ := h
  refine ⟨cs.setIfInBounds i (.int .i32 x.1), ?_, by simpa using h2, fun t y ht hy => ?_⟩
  · have hlt := (Array.getElem?_eq_some_iff.1 h1).1
    have h' : W.heap[g] = .cells cs 21 (0, 0) := by rw [Array.getElem?_eq_getElem hlt] at h1; exact Option.some.inj h1
    simp [World.setCell, hlt, Array.getElem_modify, h']
  · rw [Array.getElem?_setIfInBounds]
    by_cases e : i = t
    · subst e
      rw [if_pos rfl, if_pos (by rw [h2]; exact hi)]
      rw [hx] at hy; injection hy with hy; rw [hy]
    · rw [if_neg e]; exact h3 t y (by omega) hy
theorem FillB.keep {g n i : Nat} {l : List Pt} {W W' : World} {X : Nat → Prop} (h : FillB g n l i W) (k : Keep X W W') (hX : ¬ X g) : FillB g n l i W' := by
  obtain ⟨cs, h1, h2, h3⟩ := h
  exact ⟨cs, k.heap h1 hX, h2, h3⟩
theorem FillB.cell {g n i : Nat} {l : List Pt} {W : World} (h : FillB g n l i W) {t : Nat} (ht : t < n) : (∃ v, W.cell? ⟨g, t, none⟩ = some v) ∧ W.frozen? ⟨g, t, none⟩ = false := by
  obtain ⟨cs, h1, h2, _⟩ := h
  exact ⟨⟨_, by rw [Lib.cell_of_heap h1]; exact Array.getElem?_eq_getElem (by omega)⟩, Lib.frozen_of_heap h1 _⟩
theorem FillB.done {g n H : Nat} {l : List Pt} {W : World} (h : FillB g n l n W) (hl : l.length = n) (hH : H ≤ g) (hn : n ≤ 1099511627776) : NewZ H (barP l) (.returned (.slice (some ⟨g, 0, none⟩) n n)) W := by
  obtain ⟨cs, h1, h2, h3⟩ := h
  have hlen : (barP l).length = n := by unfold barP; rw [List.length_map, hl]
  refine ⟨some ⟨g, 0, none⟩, n, by rw [hlen], ?_⟩
  rw [hlen]
  refine ⟨⟨by unfold encZ; rw [List.length_map, hlen, Nat.mul_one], .inr ⟨g, n, cs, rfl, Nat.zero_le _, h1, Nat.le_refl _, by unfold maxLen; omega, by omega, ?_⟩⟩, fun b hb => by simp [Value.ownBlock] at hb; omega⟩
  refine List.ext_getElem? fun t => ?_
  rw [Nat.mul_one]
  by_cases ht : t < n
  · rw [List.getElem?_take, if_pos ht]
    have hx := List.getElem?_eq_getElem (l := l) (i := t) (by omega)
    have := h3 t _ ht hx
    rw [Array.getElem?_toList, this]
    unfold encZ barP
    rw [List.getElem?_map, List.getElem?_map, hx]; rfl
  · rw [List.getElem?_eq_none (by simp; omega), List.getElem?_eq_none (by unfold encZ; rw [List.length_map, hlen]; omega)]

set_option maxHeartbeats 4000000 in
set_option maxRecDepth 1000000 in
theorem nBare (v : Value) (l : List Pt) (w : World) (h : RowV w v l) (hl : l.length ≤ 1099511627776) :
    Calls Tryz.prog 36 #[v] w fun e w' => NewZ w.heap.size (barP l) e w' ∧ Below w.heap.size w w' := by
  have HV := Lib.hid h
  obtain ⟨p, cap, rfl, hcap, _⟩ := h
  obtain ⟨n, hn⟩ : ∃ n, l.length = n := ⟨_, rfl⟩
  rw [hn] at hl hcap HV ⊢
  have hmk := make_i32 w n hl
  obtain ⟨g, hg⟩ : ∃ g, w.heap.size = g := ⟨_, rfl⟩
  obtain ⟨w2, hw2⟩ : ∃ w2, w.alloc (.cells (madeCells #[.int .i32 0] n) 21) = w2 := ⟨_, rfl⟩
  rw [hg, hw2] at hmk
  have hB : Below g w w2 := by rw [← hw2, ← hg]; exact (Below.refl _ w).alloc (Nat.le_refl _) _
  have hF : FillB g n l 0 w2 := ⟨_, by rw [← hw2, ← hg]; exact World.alloc_heap_new w _, by simp [madeCells], fun t x ht _ => by omega⟩
  have hz : g < w2.heap.size := by rw [← hw2, World.size_alloc]; omega
  have HM := Lib.hid hmk
  have HN := Lib.hid (And.intro hn (And.intro hg (And.intro hB (And.intro hF hz))))
  rw [hg]
  clear hn hg hw2 hB hF hz hmk hcap
  go_enter Tryz.func36, Tryz.ntmps36
  have hmk := HM.out
  go_wp2_with fail
  clear hmk
  go_loopg [11] n (fun kx s wr => ∃ i : Nat, s = .int .i64 i ∧ i ≤ n ∧ n - i ≤ kx ∧ Hid (FillB g n l i wr ∧ Keep (fun b => b = g) w2 wr))
  case atStart => exact ⟨0, rfl, Nat.zero_le _, Nat.le_refl _, Lib.hid ⟨HN.out.2.2.2.1, Keep.refl _ _⟩⟩
  case round =>
    obtain ⟨i, rfl, hin, hkx, hI⟩ := hrel
    by_cases hlt : i < n
    · have hltz : (i : Int) < (n : Int) := by omega
      obtain ⟨x, hx⟩ : ∃ x, l[i]? = some x := ⟨_, List.getElem?_eq_getElem (by rw [HN.out.1]; exact hlt)⟩
      have hkw : Keep (fun b => b = g) w wr := ((Keep.of_below HN.out.2.2.1 (X := fun b => b = g) (fun b h1 h2 => by have := HN.out.2.1; omega)).trans hI.out.2)
      obtain ⟨gr, o, rfl, c0, c1⟩ := (HV.out.keep hkw (fun b hb h => by
        obtain ⟨p', cap', h1, _, h2⟩ := HV.out
        injection h1 with e1
        subst e1
        rcases h2 with rfl | ⟨g', o', rfl, hg', _⟩
        · cases hx
        · simp [Value.ownBlock] at hb; have := HN.out.2.1; omega)).at rfl hx
      obtain ⟨x1, x2⟩ := x
      obtain ⟨W3, hW3⟩ : ∃ W3, wr.alloc (.cells #[.int .i32 x1, .int .i64 x2] 78) = W3 := ⟨_, rfl⟩
      have hk3 : Keep (fun _ => False) wr W3 := by rw [← hW3]; exact (Keep.refl _ wr).alloc _
      have h3 := hI.out.1.keep hk3 (fun h => h)
      obtain ⟨⟨v0, d0⟩, f0⟩ := h3.cell hlt
      have d1 : W3.cell? ⟨wr.heap.size, 0, none⟩ = some (.int .i32 x1) := by rw [← hW3, Lib.cell_of_heap (World.alloc_heap_new wr _)]; rfl
      have HX := Lib.hid (And.intro hx (And.intro h3 (And.intro hk3 hW3)))
      clear hx hkw h3 hk3
      go_wp2_with fail
      go_roundg (n - (i + 1))
      case measure => omega
      case rel =>
        have h4 := HX.out.2.1.set hlt HX.out.1
        refine ⟨i + 1, by simp, by omega, Nat.le_refl _, Lib.hid ⟨h4, ?_⟩⟩
        refine (hI.out.2.trans (HX.out.2.2.1.weaken fun _ _ h => h.elim)).setCell (X := fun b => b = g) rfl _
    · obtain rfl : i = n := by omega
      go_wp2
      go_ret
      refine ⟨hI.out.1.done HN.out.1 (Nat.le_refl _) hl, ?_⟩
      exact HN.out.2.2.1.trans (hI.out.2.below (Nat.le_of_lt HN.out.2.2.2.2) (fun b h => by omega))
end Go.Proofs.YtcfhblbmpbfoaaaGreatDoor
namespace Go.Proofs.YtcfhblbmpbfoaaaGreatDoor
open Go Go.RowKit Go.Kt Go.Kt.Rg Go.Maps

def jamP (n : Int) : Bool := leadP n || vowP n || tailP n
theorem jam_iff (n : Int) : jamP n = decide ((4352 ≤ n ∧ n ≤ 4370) ∨ (4449 ≤ n ∧ n ≤ 4469) ∨ (4520 ≤ n ∧ n ≤ 4546)) := by
  rw [Bool.eq_iff_iff]
  simp [jamP, leadP, vowP, tailP]
  omega
theorem syl_iff (n : Int) : sylP n = decide (44032 ≤ n ∧ n ≤ 55203) := by
  rw [Bool.eq_iff_iff]
  simp [sylP]
  omega
theorem han_two (n : Int) : hanP n = (sylP n || jamP n) := by
  unfold hanP jamP
  simp [Bool.or_assoc]
end Go.Proofs.YtcfhblbmpbfoaaaGreatDoor
namespace Go.Proofs.YtcfhblbmpbfoaaaGreatDoor
open Go Go.RowKit Go.Kt Go.Kt.Rg Go.Maps

def RfW (w : World) (v : Value) (l : List (Nat × Nat × Int)) : Prop :=
  ∃ ao cp, v = .slice ao l.length cp ∧ (l = [] ∨ ∃ g, ao = some ⟨g, 0, none⟩ ∧ ∀ (i : Nat) (r : Nat × Nat × Int), l[i]? = some r → w.cell? ⟨g, i * 3, none⟩ = some (.int .i64 r.1) ∧ w.cell? ⟨g, i * 3 + 1, none⟩ = some (.int .i64 r.2.1) ∧ w.cell? ⟨g, i * 3 + 2, none⟩ = some (.int .i64 r.2.2))
def lastZ : List (Nat × Nat × Int) → Int → Option Int
  | [], _ => none
  | x :: t, e => match lastZ t e with
    | some v => some v
    | none => if (x.1 : Int) ≤ e ∧ e ≤ (x.2.1 : Int) then some x.2.2 else none
end Go.Proofs.YtcfhblbmpbfoaaaGreatDoor
namespace Go.Proofs.YtcfhblbmpbfoaaaGreatDoor
open Go Go.RowKit Go.Kt Go.Kt.Rg Go.Maps

def pntP (l : List UInt8) : Int × Nat := match numP l with
  | some n => if Lib.validRune (n : Int) = false then (0, 8) else (n, 0)
  | none => (0, 11)
end Go.Proofs.YtcfhblbmpbfoaaaGreatDoor
namespace Go.Proofs.YtcfhblbmpbfoaaaGreatDoor
open Go Go.RowKit Go.Kt Go.Kt.Rg Go.Maps

def RpW (g : Nat) (cs ks : List (Nat × Nat × Int)) (fv dv : Value) (w : World) : Prop :=
  ∃ cv kv, w.heap[g]? = some (.cells #[cv, kv, fv, dv] 108 (0, 0)) ∧ RfW w cv cs ∧ RfW w kv ks
def xclsV (cs : List (Nat × Nat × Int)) (r : Int) : Int := if Lib.validRune r = false ∨ sylP r = true ∨ jamP r = true then 0 else (lastZ cs r).getD 0
def xkndV (ks : List (Nat × Nat × Int)) (r : Int) : Int := if Lib.validRune r = false then 0 else if sylP r = true then (lastZ ks r).getD 1 else (lastZ ks r).getD 0
end Go.Proofs.YtcfhblbmpbfoaaaGreatDoor
namespace Go.Proofs.YtcfhblbmpbfoaaaGreatDoor
open Go Go.RowKit Go.Kt Go.Kt.Rg Go.Maps

abbrev Ln3 := Nat × List Nat × Nat
def LfW (w : World) (v : Value) (l : List Ln3) : Prop :=
  ∃ ao cp, v = .slice ao l.length cp ∧ (l = [] ∨ ∃ g, ao = some ⟨g, 0, none⟩ ∧ ∀ (i : Nat) (r : Ln3), l[i]? = some r → w.cell? ⟨g, i * 3, none⟩ = some (.int .i64 r.1) ∧ (∃ v, w.cell? ⟨g, i * 3 + 1, none⟩ = some v ∧ Sl .i32 w v (toZ r.2.1)) ∧ w.cell? ⟨g, i * 3 + 2, none⟩ = some (.int .i64 r.2.2))
def spkL (l : List Ln3) (n : Int) : Bool := l.any fun x => (x.1 : Int) == n

end Go.Proofs.YtcfhblbmpbfoaaaGreatDoor
namespace Go.Proofs.YtcfhblbmpbfoaaaGreatDoor
open Go Go.RowKit Go.Kt Go.Kt.Rg Go.Maps

def ZnO (H : Nat) (v : Value) (l : List Int) (W : World) : Prop := OwnS (fun b => H ≤ b) 21 1 v l.length (encZ l) W
end Go.Proofs.YtcfhblbmpbfoaaaGreatDoor
namespace Go.Proofs.YtcfhblbmpbfoaaaGreatDoor
open Go Go.RowKit Go.Kt Go.Kt.Rg Go.Maps

def ofL (l : List Ln3) (r : Int) : Option (List Nat) := (l.find? fun x => (x.1 : Int) == r).map (·.2.1)
def xfldV (l : List Ln3) (r : Int) : List Int := match ofL l r with
  | some t => toZ t
  | none => [r]
end Go.Proofs.YtcfhblbmpbfoaaaGreatDoor
