/- CellsPlain: its walk. -/
import Derived.Test.YthhepebkfokddaaGreatDoorIm
import Derived.Test.YthhepebkfokddaaGreatDoorIn
namespace Go.Proofs.YthhepebkfokddaaGreatDoor
open Go Go.RowKit Go.Kt Go.Kt.Rg Go.Maps

theorem fileE_reads : readP 0 rd0 (linesP []) = (0, 0, rd0) := by kernel_rfl
/-- The number of the unit ahead of the k-th one. -/
def lstN (s : ByteArray) (k : Nat) : Int := if k = 0 then -1 else (Utf8.decode s (pos s (k - 1))).1
/-- The k-th unit is of Hangul, or 0A behind 0D, or has an edge ahead. -/
theorem plain_step (s : ByteArray) (k : Nat) (hk : k < (units s).length) (h0 : 0 < k) (hh : ¬ (4352 ≤ ((Utf8.decode s (pos s k)).1 : Int) ∧ ((Utf8.decode s (pos s k)).1 : Int) ≤ 4607 ∨ 44032 ≤ ((Utf8.decode s (pos s k)).1 : Int) ∧ ((Utf8.decode s (pos s k)).1 : Int) ≤ 55203))
    (hc : ¬ (lstN s k = 13 ∧ ((Utf8.decode s (pos s k)).1 : Int) = 10)) : edgP rd0 s (pos s k) = true := by
  obtain ⟨n, rfl⟩ : ∃ n, k = n + 1 := ⟨k - 1, by omega⟩
  unfold lstN at hc
  rw [if_neg (by omega), Nat.add_sub_cancel] at hc
  exact edge_plain s n hk hh hc

set_option maxRecDepth 100000 in
set_option maxHeartbeats 4000000 in
theorem cellsPlain_c (s : ByteArray) (w : World) (hEE : PEnv w ∧ Lib.Utf8Tabs 3 4 w) :
    Calls Tryz.prog 3 #[.string s] w fun e w' => e = .returned (.bool true) ∧ Below w.heap.size w w' := by
  obtain ⟨hE, hT⟩ := hEE
  have CP := Lib.hid (pParse ⟨#[]⟩ w hE)
  have HT := Lib.hid hT
  have HE := Lib.hid hE
  clear hT hE
  go_enter Tryz.func3, Tryz.ntmps3
  go_wp2_with fail
  refine CP.out.mono ?_
  rintro e w1 ⟨no, line, S, L, hP, hb1, hor⟩
  obtain ⟨h0, rfl, rfl⟩ := file_only (f := []) (by decide) (by decide) fileE_reads (fun _ => rfl) (by kernel_rfl) hP
  obtain ⟨g, rfl, hW1⟩ : ∃ g, e = .returned (.tuple #[.pointer (some ⟨g, 0, none⟩), .nilIface]) ∧ PrW g rd0 (mdOf rd0 []) w1 := by
    rcases hor with ⟨_, g, h1, h2⟩ | ⟨h1, _⟩
    · exact ⟨g, h1, h2⟩
    · exact absurd h0 h1
  have HB1 := Lib.hid hb1
  have HW := Lib.hid (fun W (h : Below w1.heap.size w1 W) => hW1.below h)
  have HT1 := Lib.hid (fun W (h : Below w1.heap.size w1 W) => tabs_below HT.out (tabs_size HT.out) (hb1.trans (h.mono hb1.size)))
  have CW := Lib.hid (fun W (h : Below w1.heap.size w1 W) => cworks W (HE.out.below (hb1.trans (h.mono hb1.size))) (HT1.out W h))
  clear hP hb1 hor hW1 h0 HT HE
  by_cases hs : s.size ≤ 4096
  · have hs1 : ¬ (4096 : Int) < s.size := by omega
    have CE := Lib.hid (fun W (h : Below w1.heap.size w1 W) a => cEdge (md := mdOf rd0 []) (gp := g) s a W (HW.out W h) (HT1.out W h) (by omega))
    have hul := units_len s
    obtain ⟨it, hit⟩ : ∃ it, w1.heap.size = it := ⟨_, rfl⟩
    clear HW HT1
    go_wp2_with fail
    try rw [hit]
    go_loopw [5] (fun v wr => ∃ k : Nat, k ≤ (units s).length ∧ v = .int .i32 (lstN s k) ∧ Below it w1 wr ∧ wr.heap[it]? = some (.stringIter s (pos s k))) (fun _ wr => s.size - iterPos wr it)
    case atStart => exact ⟨0, Nat.zero_le _, rfl, by rw [← hit]; exact (Below.refl _ w1).alloc (Nat.le_refl _) _, by rw [pos_zero]; exact alloc_at hit.symm⟩
    case round =>
      obtain ⟨k, hk, rfl, hb, hi⟩ := hrel
      have hlt : it < wr.heap.size := (Array.getElem?_eq_some_iff.1 hi).1
      by_cases hkl : k < (units s).length
      · have hp := pos_lt s k hkl
        have hsu := pos_succ s k hkl
        have hst := (pos_step s k hkl).1
        have hpl := pos_le s (k + 1)
        have hps := plain_step s k hkl
        obtain ⟨V, hV⟩ : ∃ V, wr.putObj it (.stringIter s (pos s (k + 1))) = V := ⟨_, rfl⟩
        have hbV : Below it w1 V := by rw [← hV]; exact hb.trans (below_putObj (Nat.le_refl _) _)
        have hiV : V.heap[it]? = some (.stringIter s (pos s (k + 1))) := by rw [← hV]; exact World.putObj_heap_same hlt
        have hnx : ∀ ty, (Instr.next (.pointer (some ⟨it, 0, none⟩)) true ty).run Tryz.prog wr = .ok (.tuple #[.bool true, .int .i64 (pos s k), .int .i32 (Utf8.decode s (pos s k)).1]) V := fun ty => by
          rw [← hV, hsu]; exact run_next_str wr it s (pos s k) ty hi hp
        have hln : lstN s (k + 1) = (Utf8.decode s (pos s k)).1 := by unfold lstN; rw [if_neg (by omega), Nat.add_sub_cancel]
        have hp0 : k = 0 → pos s k = 0 := fun h => by rw [h]; exact pos_zero s
        have hp1 : 0 < k → 0 < pos s k := fun h => by
          have h1 := pos_mono s (show 1 ≤ k by omega) (by omega)
          have h2 := (pos_step s 0 (by omega)).1
          rw [pos_zero] at h2
          simp only [Nat.zero_add] at h2
          omega
        have CE1 := CE.out V (by rw [hit]; exact hbV) (pos s k)
        obtain ⟨i, hpi⟩ : ∃ i, pos s k = i := ⟨_, rfl⟩
        obtain ⟨r, hr⟩ : ∃ r, ((Utf8.decode s (pos s k)).1 : Int) = r := ⟨_, rfl⟩
        obtain ⟨l, hl⟩ : ∃ l, lstN s k = l := ⟨_, rfl⟩
        have hrel2 : ∀ W, Below V.heap.size V W → ∃ j : Nat, j ≤ (units s).length ∧ (.int .i32 r : Value) = .int .i32 (lstN s j) ∧ Below it w1 W ∧ W.heap[it]? = some (.stringIter s (pos s j)) := fun W h =>
          ⟨k + 1, by omega, by rw [hln, hr], hbV.trans (h.mono (by have := (Array.getElem?_eq_some_iff.1 hiV).1; omega)), (h.block it (Array.getElem?_eq_some_iff.1 hiV).1).trans hiV⟩
        have hmea : ∀ W, Below V.heap.size V W → s.size - iterPos W it < s.size - iterPos wr it := fun W h => by
          rw [iterPos_eq hi, iterPos_eq ((h.block it (Array.getElem?_eq_some_iff.1 hiV).1).trans hiV)]; omega
        rw [hr] at hps hnx
        rw [hl] at hps
        rw [hpi] at hps hnx hp0 hp1 CE1
        have HR := Lib.hid hrel2
        have HM := Lib.hid hmea
        have HS := Lib.hid hps
        have HCE := Lib.hid CE1
        have HP1 := Lib.hid (And.intro hp0 hp1)
        rw [hl]
        clear hrel2 hmea hps CE1 hp0 hp1 hln hbV hiV hV hsu hst hpl hp hi hb hk hpi hr hl hlt hul hkl CE
        have skip : ∀ {x y : Int}, ¬ x = y → (x == y) = false := fun h => by rw [beq_eq_false_iff_ne]; exact h
        by_cases hA : (4352 ≤ r ∧ r ≤ 4607) ∨ (44032 ≤ r ∧ r ≤ 55203)
        · have a1 : 4352 ≤ r := by omega
          clear HS HCE skip
          by_cases a2 : r ≤ 4607
          · clear hA
            by_cases k0 : k = 0
            · obtain rfl := HP1.out.1 k0
              clear k0
              go_wp2_with fail
              go_roundw
              case rel => exact HR.out _ (Below.refl _ _)
              case measure => exact HM.out _ (Below.refl _ _)
            · have i0 : (0 : Int) < i := by have := HP1.out.2 (by omega); omega
              clear k0
              go_wp2_with fail
              go_roundw
              case rel => exact HR.out _ (Below.refl _ _)
              case measure => exact HM.out _ (Below.refl _ _)
          · have a3 : 44032 ≤ r := by omega
            have a4 : r ≤ 55203 := by omega
            clear hA
            by_cases k0 : k = 0
            · obtain rfl := HP1.out.1 k0
              clear k0
              go_wp2_with fail
              go_roundw
              case rel => exact HR.out _ (Below.refl _ _)
              case measure => exact HM.out _ (Below.refl _ _)
            · have i0 : (0 : Int) < i := by have := HP1.out.2 (by omega); omega
              clear k0
              go_wp2_with fail
              go_roundw
              case rel => exact HR.out _ (Below.refl _ _)
              case measure => exact HM.out _ (Below.refl _ _)
        · have hEd : 0 < k → ¬ (l = 13 ∧ r = 10) → edgP rd0 s i = true := fun h1 h2 => HS.out h1 (by omega) h2
          have HED := Lib.hid hEd
          clear HS hEd
          by_cases k0 : k = 0
          · obtain rfl := HP1.out.1 k0
            clear k0 HED HCE
            by_cases a1 : 4352 ≤ r
            · have a2 : ¬ r ≤ 4607 := by omega
              by_cases a3 : 44032 ≤ r
              · have a4 : ¬ r ≤ 55203 := by omega
                clear hA
                go_wp2_with fail
                go_roundw
                case rel => exact HR.out _ (Below.refl _ _)
                case measure => exact HM.out _ (Below.refl _ _)
              · clear hA
                go_wp2_with fail
                go_roundw
                case rel => exact HR.out _ (Below.refl _ _)
                case measure => exact HM.out _ (Below.refl _ _)
            · have a3 : ¬ 44032 ≤ r := by omega
              clear hA
              go_wp2_with fail
              go_roundw
              case rel => exact HR.out _ (Below.refl _ _)
              case measure => exact HM.out _ (Below.refl _ _)
          · have i0 : (0 : Int) < i := by have := HP1.out.2 (by omega); omega
            by_cases hc : l = 13 ∧ r = 10
            · obtain ⟨rfl, rfl⟩ := hc
              clear k0 HED HCE hA skip
              go_wp2_with fail
              go_roundw
              case rel => exact HR.out _ (Below.refl _ _)
              case measure => exact HM.out _ (Below.refl _ _)
            · have CEd : Hid (Calls Tryz.prog 7 #[.pointer (some ⟨g, 0, none⟩), .string s, .int .i64 i] V fun e w' => e = .returned (.bool true) ∧ Below V.heap.size V w') := Lib.hid (by rw [← HED.out (by omega) hc]; exact HCE.out)
              have hcc : (l == 13) = false ∨ ((l == 13) = true ∧ (r == 10) = false) := by
                by_cases h : l = 13
                · exact .inr ⟨by rw [beq_iff_eq]; exact h, skip fun h2 => hc ⟨h, h2⟩⟩
                · exact .inl (skip h)
              clear k0 HED HCE skip hc
              have hB : ¬ 4352 ≤ r ∨ (4352 ≤ r ∧ ¬ r ≤ 4607 ∧ ¬ 44032 ≤ r) ∨ (4352 ≤ r ∧ ¬ r ≤ 4607 ∧ 44032 ≤ r ∧ ¬ r ≤ 55203) := by omega
              clear hA
              rcases hcc with hc | ⟨hc, hc2⟩
              · rcases hB with a1 | ⟨a1, a2, a3⟩ | ⟨a1, a2, a3, a4⟩
                · have a3 : ¬ 44032 ≤ r := by omega
                  go_wp2_with fail
                  refine CEd.out.mono ?_
                  rintro e W ⟨rfl, hbw⟩
                  have HBW := Lib.hid hbw
                  clear hbw
                  go_wp2
                  go_roundw
                  case rel => exact HR.out _ HBW.out
                  case measure => exact HM.out _ HBW.out
                · go_wp2_with fail
                  refine CEd.out.mono ?_
                  rintro e W ⟨rfl, hbw⟩
                  have HBW := Lib.hid hbw
                  clear hbw
                  go_wp2
                  go_roundw
                  case rel => exact HR.out _ HBW.out
                  case measure => exact HM.out _ HBW.out
                · go_wp2_with fail
                  refine CEd.out.mono ?_
                  rintro e W ⟨rfl, hbw⟩
                  have HBW := Lib.hid hbw
                  clear hbw
                  go_wp2
                  go_roundw
                  case rel => exact HR.out _ HBW.out
                  case measure => exact HM.out _ HBW.out
              · rcases hB with a1 | ⟨a1, a2, a3⟩ | ⟨a1, a2, a3, a4⟩
                · have a3 : ¬ 44032 ≤ r := by omega
                  go_wp2_with fail
                  refine CEd.out.mono ?_
                  rintro e W ⟨rfl, hbw⟩
                  have HBW := Lib.hid hbw
                  clear hbw
                  go_wp2
                  go_roundw
                  case rel => exact HR.out _ HBW.out
                  case measure => exact HM.out _ HBW.out
                · go_wp2_with fail
                  refine CEd.out.mono ?_
                  rintro e W ⟨rfl, hbw⟩
                  have HBW := Lib.hid hbw
                  clear hbw
                  go_wp2
                  go_roundw
                  case rel => exact HR.out _ HBW.out
                  case measure => exact HM.out _ HBW.out
                · go_wp2_with fail
                  refine CEd.out.mono ?_
                  rintro e W ⟨rfl, hbw⟩
                  have HBW := Lib.hid hbw
                  clear hbw
                  go_wp2
                  go_roundw
                  case rel => exact HR.out _ HBW.out
                  case measure => exact HM.out _ HBW.out
      · have hke : pos s k = s.size := pos_end s k (by omega)
        have hnx : ∀ ty, (Instr.next (.pointer (some ⟨it, 0, none⟩)) true ty).run Tryz.prog wr = .ok (.tuple #[.bool false]) wr := fun ty => run_next_str_end wr it s (pos s k) ty hi (by omega)
        have HCW := Lib.hid (CW.out wr (by rw [hit]; exact hb))
        have HB2 := Lib.hid (HB1.out.trans (hb.mono (by have := HB1.out.size; omega)))
        clear hi hke hb hk CE hul hkl
        go_wp2_with fail
        refine HCW.out.mono ?_
        rintro e w9 ⟨rfl, hb9⟩
        have HB9 := Lib.hid (HB2.out.trans (hb9.mono HB2.out.size))
        clear hb9
        go_wp2
        go_ret
        exact ⟨rfl, HB9.out⟩
  · have hs1 : (4096 : Int) < s.size := by omega
    clear HW HT1 CW hs
    go_wp2
    go_ret
    exact ⟨rfl, HB1.out⟩
end Go.Proofs.YthhepebkfokddaaGreatDoor
