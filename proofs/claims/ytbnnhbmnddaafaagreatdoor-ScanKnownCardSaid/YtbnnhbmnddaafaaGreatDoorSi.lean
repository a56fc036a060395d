/- ScanNoted: its walk. -/
import Derived.Test.YtbnnhbmnddaafaaGreatDoorGz14
import Derived.Test.YtbnnhbmnddaafaaGreatDoorPk0
import Derived.Test.YtbnnhbmnddaafaaGreatDoorGz13
namespace Go.Proofs.YtbnnhbmnddaafaaGreatDoor
open Go Go.RowKit Go.Kt Go.Shelf Go.Lib
attribute [local go_sem] Oper.semAt_some

set_option maxHeartbeats 4000000 in
set_option maxRecDepth 100000 in
theorem scanNoted_c (s : ByteArray) (k : Int) (w : World) (hE : SEnv w) (_hB : BTab w) (_hl : 6 < w.heap.size) (hs : s.size ≤ 140737488351232) (hk : -9223372036854775808 ≤ k ∧ k ≤ 9223372036854775807) :
    Calls Tryz.prog 14 #[.string s, .int .i64 k] w fun e w' => e = .returned (.bool true) ∧ Below w.heap.size w w' := by
  have CS := Lib.hid (scan_any s w hE hs)
  have CF := Lib.hid (fun V F (h : Below w.heap.size w V) (hz : F.size ≤ 140737488351232) => scan_any F V (hE.below h) hz)
  have CW := Lib.hid (fun V (h : Below w.heap.size w V) => works_any5 V (hE.below h))
  have C1 := Lib.hid (fun V => ended_any s V hs)
  clear hE _hB _hl
  cases ho : scanS s with
  | bad no l c =>
    rw [ho] at CS
    clear ho
    go_enter Tryz.func14, Tryz.ntmps14
    go_wp2_with fail
    refine CS.out.mono ?_
    rintro e w1 ⟨rfl, hb1⟩
    have HB1 := Lib.hid hb1
    clear hb1
    go_wp2_with (go_at_call 28; refine (CW.out _ HB1.out).mono ?_; rintro e w4 ⟨rfl, hb4⟩)
    go_ret
    exact ⟨rfl, HB1.out.trans (hb4.mono HB1.out.size)⟩
  | ok L1 =>
    rw [ho] at CS
    by_cases hz : 500000 < s.size
    · have hz' : (500000 : Int) < (s.size : Int) := by omega
      clear ho
      go_enter Tryz.func14, Tryz.ntmps14
      go_wp2_with fail
      refine CS.out.mono ?_
      rintro e w1 ⟨⟨g1, cap1, rfl, ho1⟩, hb1⟩
      have HB1 := Lib.hid hb1
      clear hb1 ho1
      go_wp2_with (go_at_call 28; refine (CW.out _ HB1.out).mono ?_; rintro e w4 ⟨rfl, hb4⟩)
      go_ret
      exact ⟨rfl, HB1.out.trans (hb4.mono HB1.out.size)⟩
    have hz' : ¬ (500000 : Int) < (s.size : Int) := by omega
    by_cases hn : 60000 < nlc s s.size
    · have hn' : (60000 : Int) < (nlc s s.size : Nat) := by omega
      generalize nlc s s.size = K1 at *
      clear ho
      go_enter Tryz.func14, Tryz.ntmps14
      go_wp2_with fail
      refine CS.out.mono ?_
      rintro e w1 ⟨⟨g1, cap1, rfl, ho1⟩, hb1⟩
      have HB1 := Lib.hid hb1
      clear hb1 ho1
      go_wp2_with fail
      refine (C1.out _).mono ?_
      rintro e w3 ⟨rfl, rfl⟩
      go_wp2_with (go_at_call 28; refine (CW.out _ HB1.out).mono ?_; rintro e w4 ⟨rfl, hb4⟩)
      go_ret
      exact ⟨rfl, HB1.out.trans (hb4.mono HB1.out.size)⟩
    have hn' : ¬ (60000 : Int) < (nlc s s.size : Nat) := by omega
    have HNo : Hid (∀ m, m < L1.length → ∃ t L3, L1[m]? = some t ∧ t.pl.2.2 ≤ s.size ∧ scanS (s.extract 0 t.pl.2.2 ++ ⟨#[32, 9, 35, 60, 39, 92, 91, 195, 169, 255, 13, 10, 32]⟩ ++ s.extract t.pl.2.2 s.size) = .ok L3 ∧ TkRel AnyPl L1 L3) := Lib.hid fun m hm => by
      have h1 : L1[m]? = some (L1[m]) := List.getElem?_eq_getElem hm
      obtain ⟨a1, b, a2, a3⟩ := scan_noted s ho (List.mem_of_getElem? h1) (by omega) (by omega)
      exact ⟨_, b, h1, a1, a2, a3⟩
    obtain ⟨o1, L0, p0, q1, q2⟩ := scan_places s ho
    have f1 := toks_few o1
    have l1 : 1 ≤ L1.length := by rw [q1]; simp
    obtain ⟨N, hN⟩ : ∃ n, L1.length = n := ⟨_, rfl⟩
    rw [hN] at f1 l1 HNo
    obtain ⟨K1, hK1⟩ : ∃ n, nlc s s.size = n := ⟨_, rfl⟩
    rw [hK1] at hn' C1
    have j1 : (N : Int) ≤ 500001 := by omega
    have j2 : ¬ ((N : Int) = 0) := by omega
    have j3 : ((N : Int) == 0) = false := by simp; omega
    have CP := Lib.hid (fun V => pick_any k N V hk l1 (by omega))
    have z1 : (s.size : Int) ≤ 500000 := by omega
    have HN := Lib.hid hN
    clear q1 q2 o1 L0 p0 ho hK1 hn hz f1 l1 hN hk
    go_enter Tryz.func14, Tryz.ntmps14
    go_wp2_with fail
    refine CS.out.mono ?_
    rintro e w1 ⟨⟨g1, cap1, rfl, ho1⟩, hb1⟩
    have HB1 := Lib.hid hb1
    have HO1 := Lib.hid ho1
    clear hb1 ho1
    rw [HN.out]
    go_wp2_with fail
    refine (C1.out _).mono ?_
    rintro e w3 ⟨rfl, rfl⟩
    go_wp2_with fail
    refine (CP.out _).mono ?_
    rintro e w3 ⟨m, hm, rfl, rfl⟩
    obtain ⟨t, L3, t1, t2, t3, t4⟩ := HNo.out m hm
    obtain ⟨-, -, -, -, c4⟩ := toks_cells HO1.out (Below.refl _ _) t1
    obtain ⟨p, hp⟩ : ∃ p, t.pl.2.2 = p := ⟨_, rfl⟩
    rw [hp] at t2 t3 c4
    have m0 : (0 : Int) ≤ (m : Int) := by omega
    have m1 : (m : Int) < (N : Int) := by omega
    have p1 : ¬ (p : Int) < 0 := by omega
    have p2 : ¬ (s.size : Int) < (p : Int) := by omega
    have p3 : (p : Int) ≤ (s.size : Int) := by omega
    have e1 : (s.extract 0 p).size = p := by rw [ByteArray.size_extract]; omega
    have e2 : (s.extract p s.size).size = s.size - p := by rw [ByteArray.size_extract]; omega
    have HT := Lib.hid (And.intro t3 t4)
    have HE := Lib.hid (And.intro e1 e2)
    have a1 : ¬ (s.extract 0 p).size + (⟨#[32, 9, 35, 60, 39, 92, 91, 195, 169, 255, 13, 10, 32]⟩ : ByteArray).size > 9223372036854775807 := by rw [e1]; show ¬ p + 13 > _; omega
    have a2 : ¬ (s.extract 0 p ++ ⟨#[32, 9, 35, 60, 39, 92, 91, 195, 169, 255, 13, 10, 32]⟩).size + (s.extract p s.size).size > 9223372036854775807 := by rw [ByteArray.size_append, e1, e2]; show ¬ p + 13 + _ > _; omega
    clear hm t1 t2 t3 t4 hp e1 e2
    go_wp2
    go_region_with (first | (go_at_call 7; refine (CF.out _ _ (below_drewN HB1.out _) (by rw [ByteArray.size_append, ByteArray.size_append, HE.out.1, HE.out.2]; show p + 13 + (s.size - p) ≤ _; omega)).mono ?_; rintro e w3 ⟨ho3, hb3⟩; rw [HT.out.1] at ho3; obtain ⟨g3, cap3, rfl, ho3⟩ := ho3))
    all_goals
      have hb13 : Below w1.heap.size w1 w3 := (below_drewN (Below.refl _ w1) 1).trans hb3
      have hl3 : L3.length = N := HT.out.2.1.symm.trans HN.out
      have HC1 : Hid (∀ V i t, Below w3.heap.size w3 V → L1[i]? = some t → _) := Lib.hid fun V i t hV ht => toks_cells HO1.out (hb13.trans (hV.mono hb13.size)) ht
      have HC3 : Hid (∀ V i t, Below w3.heap.size w3 V → L3[i]? = some t → _) := Lib.hid fun V i t hV ht => toks_cells ho3 hV ht
      have HB3 := Lib.hid (HB1.out.trans (hb13.mono HB1.out.size))
      rw [hl3]
      have HL3 := Lib.hid hl3
      clear hb3 ho3 hb13 hl3 a1 a2 c4
      go_wp2
      go_loopw [9] (fun v wr => ∃ i : Nat, v = .int .i64 i ∧ i ≤ N ∧ Below w3.heap.size w3 wr) (fun v _ => N - (RowKit.intOf v).toNat)
      case atStart => exact ⟨0, rfl, Nat.zero_le _, Below.refl _ _⟩
      case round =>
        obtain ⟨i, rfl, hi, hb⟩ := hrel
        by_cases hlt : i < N
        · have hlt' : (i : Int) < N := by omega
          obtain ⟨x, hx⟩ : ∃ x, L1[i]? = some x := ⟨_, List.getElem?_eq_getElem (by have := HN.out; omega)⟩
          obtain ⟨y, hy⟩ : ∃ y, L3[i]? = some y := ⟨_, List.getElem?_eq_getElem (by have := HL3.out; omega)⟩
          obtain ⟨e1, e2, -⟩ := HT.out.2.2 i x y hx hy
          obtain ⟨c0, c1, -, -, -⟩ := HC1.out wr i x hb hx
          obtain ⟨d0, d1, -, -, -⟩ := HC3.out wr i y hb hy
          rw [e1] at d0
          rw [e2] at d1
          generalize x.kind = kd at *
          generalize x.text = tx at *
          have HL := Lib.hid (And.intro hb hlt)
          clear hx hy e1 e2 hb hlt
          go_wp2
          go_quiet (fail)
          go_wp2
          go_roundw
          case rel => exact ⟨i + 1, by simp, by have := HL.out.2; omega, below_drewN HL.out.1 _⟩
          case measure => have := HL.out.2; simp [RowKit.intOf]; omega
        · have hie : ¬ (i : Int) < N := by omega
          have HBl := Lib.hid hb
          clear hb
          go_wp2_with (go_at_call 28; refine (CW.out _ (HB3.out.trans (HBl.out.mono HB3.out.size))).mono ?_; rintro e w4 ⟨rfl, hb4⟩)
          go_ret
          have h5 := HB3.out.trans (HBl.out.mono HB3.out.size)
          exact ⟨rfl, h5.trans (hb4.mono h5.size)⟩
end Go.Proofs.YtbnnhbmnddaafaaGreatDoor
