/- CellsBeside: its walk. -/
import Derived.Test.YthhepebkfokddaaGreatDoorGy21
import Derived.Test.YthhepebkfokddaaGreatDoorAd
namespace Go.Proofs.YthhepebkfokddaaGreatDoor
open Go Go.RowKit Go.Kt Go.Kt.Rg Go.Maps

def lstA (s : ByteArray) (k : Nat) : Int := if k = 0 then -1 else (pos s (k - 1) : Int)

set_option maxRecDepth 100000 in
set_option maxHeartbeats 4000000 in
theorem cellsBeside_c (f a s b : ByteArray) (w : World) (hEE : (PEnv w ∧ KTabX w) ∧ Lib.Utf8Tabs 3 4 w) :
    Calls Tryz.prog 4 #[.string f, .string a, .string s, .string b] w fun e w' => e = .returned (.bool true) ∧ Below w.heap.size w w' := by
  obtain ⟨hE, hT⟩ := hEE
  have CB := Lib.hid (cboth f w hE)
  have CW := Lib.hid (fun W (h : Below w.heap.size w W) => cworks W (hE.1.below h) (tabs_below hT (tabs_size hT) h))
  have HT := Lib.hid hT
  clear hT hE
  go_enter Tryz.func4, Tryz.ntmps4
  go_wp2_with fail
  refine CB.out.mono ?_
  rintro e w1 ⟨hb1, ⟨x, y, rfl⟩ | ⟨g, gx, line, S, L, X, cv, kv, fv, dv, B0, ρ, rfl, _, hW1, _, _⟩⟩
  · have HB1 := Lib.hid hb1
    clear hb1
    go_wp2_with fail
    refine (CW.out w1 HB1.out).mono ?_
    rintro e w9 ⟨rfl, hb9⟩
    have HB9 := Lib.hid (HB1.out.trans (hb9.mono HB1.out.size))
    clear hb9
    go_wp2
    go_ret
    exact ⟨rfl, HB9.out⟩
  have HB1 := Lib.hid hb1
  have CE := Lib.hid (fun W (h : Below w1.heap.size w1 W) z (hz : z.size ≤ 100000) i => cEdge z i W (hW1.below h) (tabs_below HT.out (tabs_size HT.out) (hb1.trans (h.mono hb1.size))) (by omega))
  have CW1 : Hid (∀ W, Below w1.heap.size w1 W → Calls Tryz.prog 8 #[] W fun e w' => e = .returned (.bool true) ∧ Below w.heap.size w w') := Lib.hid fun W h =>
    (CW.out W (hb1.trans (h.mono hb1.size))).mono fun e w' ⟨h1, h2⟩ => ⟨h1, (hb1.trans (h.mono hb1.size)).trans (h2.mono (hb1.trans (h.mono hb1.size)).size)⟩
  clear hb1 hW1 HT CW
  by_cases hs : 4096 < s.size
  · have hs1 : (4096 : Int) < s.size := by omega
    clear hs CE
    go_wp2_with fail
    refine (CW1.out w1 (Below.refl _ _)).mono ?_
    rintro e w9 ⟨rfl, hb9⟩
    have HB9 := Lib.hid hb9
    clear hb9
    go_wp2
    go_ret
    exact ⟨rfl, HB9.out⟩
  have hs1 : ¬ (4096 : Int) < s.size := by omega
  by_cases ha : 4096 < a.size
  · have ha1 : (4096 : Int) < a.size := by omega
    clear hs ha CE
    go_wp2_with fail
    refine (CW1.out w1 (Below.refl _ _)).mono ?_
    rintro e w9 ⟨rfl, hb9⟩
    have HB9 := Lib.hid hb9
    clear hb9
    go_wp2
    go_ret
    exact ⟨rfl, HB9.out⟩
  have ha1 : ¬ (4096 : Int) < a.size := by omega
  by_cases hb : 4096 < b.size
  · have hb1 : (4096 : Int) < b.size := by omega
    clear hs ha hb CE
    go_wp2_with fail
    refine (CW1.out w1 (Below.refl _ _)).mono ?_
    rintro e w9 ⟨rfl, hb9⟩
    have HB9 := Lib.hid hb9
    clear hb9
    go_wp2
    go_ret
    exact ⟨rfl, HB9.out⟩
  have hb1 : ¬ (4096 : Int) < b.size := by omega
  obtain ⟨t, ht⟩ : ∃ t, a ++ ⟨#[33]⟩ ++ s ++ ⟨#[33]⟩ ++ b = t := ⟨_, rfl⟩
  have hm := mid_of a s b
  rw [ht] at hm
  have hzt : t.size ≤ 100000 := by
    rw [← ht]
    simp only [ByteArray.size_append]
    have : (⟨#[33]⟩ : ByteArray).size = 1 := rfl
    omega
  have hpl := unit_ascii t a.size (by have := hm.1.size; omega) hm.2
  have HM := Lib.hid (fun k hk => hm.1.edge hpl S k hk)
  have hul := units_len s
  obtain ⟨it, hit⟩ : ∃ it, w1.heap.size = it := ⟨_, rfl⟩
  have HTT := Lib.hid ht
  clear hm hpl ht
  go_wp2_with fail
  try rw [hit]
  rw [HTT.out]
  go_loopw [14] (fun v wr => ∃ k : Nat, k ≤ (units s).length ∧ v = .int .i64 (lstA s k) ∧ Below it w1 wr ∧ wr.heap[it]? = some (.stringIter s (pos s k))) (fun _ wr => s.size - iterPos wr it)
  case atStart => exact ⟨0, Nat.zero_le _, rfl, by rw [← hit]; exact (Below.refl _ w1).alloc (Nat.le_refl _) _, by rw [pos_zero]; exact alloc_at hit.symm⟩
  case round =>
    obtain ⟨k, hk, rfl, hb9, hi⟩ := hrel
    have hlt : it < wr.heap.size := (Array.getElem?_eq_some_iff.1 hi).1
    by_cases hkl : k < (units s).length
    · have hp := pos_lt s k hkl
      have hsu := pos_succ s k hkl
      have hst := (pos_step s k hkl).1
      have hpl := pos_le s (k + 1)
      obtain ⟨V, hV⟩ : ∃ V, wr.putObj it (.stringIter s (pos s (k + 1))) = V := ⟨_, rfl⟩
      have hbV : Below it w1 V := by rw [← hV]; exact hb9.trans (below_putObj (Nat.le_refl _) _)
      have hiV : V.heap[it]? = some (.stringIter s (pos s (k + 1))) := by rw [← hV]; exact World.putObj_heap_same hlt
      have hnx : ∀ ty, (Instr.next (.pointer (some ⟨it, 0, none⟩)) true ty).run Tryz.prog wr = .ok (.tuple #[.bool true, .int .i64 (pos s k), .int .i32 (Utf8.decode s (pos s k)).1]) V := fun ty => by
        rw [← hV, hsu]; exact run_next_str wr it s (pos s k) ty hi hp
      have hln : lstA s (k + 1) = pos s k := by unfold lstA; rw [if_neg (by omega), Nat.add_sub_cancel]
      have hrel2 : ∀ W, Below V.heap.size V W → ∃ j : Nat, j ≤ (units s).length ∧ (.int .i64 (pos s k) : Value) = .int .i64 (lstA s j) ∧ Below it w1 W ∧ W.heap[it]? = some (.stringIter s (pos s j)) := fun W h =>
        ⟨k + 1, by omega, by rw [hln], hbV.trans (h.mono (by have := (Array.getElem?_eq_some_iff.1 hiV).1; omega)), (h.block it (Array.getElem?_eq_some_iff.1 hiV).1).trans hiV⟩
      have hmea : ∀ W, Below V.heap.size V W → s.size - iterPos W it < s.size - iterPos wr it := fun W h => by
        rw [iterPos_eq hi, iterPos_eq ((h.block it (Array.getElem?_eq_some_iff.1 hiV).1).trans hiV)]; omega
      have HR := Lib.hid hrel2
      have HS := Lib.hid hmea
      by_cases k0 : k = 0
      · subst k0
        have hl0 : lstA s 0 = -1 := rfl
        rw [hl0]
        clear hrel2 hmea hln hbV hiV hV hsu hst hpl hp hi hb9 hk hlt hul hkl CE HM hl0
        go_wp2_with fail
        go_roundw
        case rel => exact HR.out _ (Below.refl _ _)
        case measure => exact HS.out _ (Below.refl _ _)
      · obtain ⟨j, rfl⟩ : ∃ j, k = j + 1 := ⟨k - 1, by omega⟩
        have hl1 : lstA s (j + 1) = pos s j := by unfold lstA; rw [if_neg (by omega), Nat.add_sub_cancel]
        have hst1 := (pos_step s j (by omega)).1
        have hM := HM.out j hkl
        have CT := CE.out V (by rw [hit]; exact hbV) t hzt ((a.size + 1 + pos s (j + 1) : Nat) : Int)
        have CS := fun W (h : Below V.heap.size V W) => CE.out W (by rw [hit]; exact hbV.trans (h.mono (by have := (Array.getElem?_eq_some_iff.1 hiV).1; omega))) s (by omega) (pos s (j + 1))
        rw [hM] at CT
        obtain ⟨x, hx⟩ : ∃ x, edgP S s (pos s (j + 1)) = x := ⟨_, rfl⟩
        rw [hx] at CT CS
        rw [show ((a.size + 1 + pos s (j + 1) : Nat) : Int) = (a.size : Int) + 1 + (pos s (j + 1) : Int) by omega] at CT
        rw [hl1]
        obtain ⟨i, hpi⟩ : ∃ i, pos s (j + 1) = i := ⟨_, rfl⟩
        obtain ⟨i0, hpi0⟩ : ∃ i, pos s j = i := ⟨_, rfl⟩
        rw [hpi] at CT CS hnx hst1 hp HR
        rw [hpi0] at hst1 ⊢
        have i1 : (0 : Int) < i := by omega
        have i2 : (i : Int) ≤ 4096 := by omega
        have i3 : (0 : Int) ≤ i0 := by omega
        have a2 : (a.size : Int) ≤ 4096 := by omega
        have xx : (x != x) = false := by cases x <;> rfl
        have CTT := Lib.hid CT
        have CSS := Lib.hid CS
        clear hrel2 hmea hln hbV hiV hV hsu hst hpl hp hi hb9 hk hlt hul hkl CE HM hl1 hst1 hM hx CT CS hpi hpi0 k0
        go_wp2_with fail
        refine CTT.out.mono ?_
        rintro e W2 ⟨rfl, hw2⟩
        have HW2 := Lib.hid hw2
        clear hw2
        go_wp2_with fail
        refine (CSS.out W2 HW2.out).mono ?_
        rintro e W3 ⟨rfl, hw3⟩
        have HW3 := Lib.hid (HW2.out.trans (hw3.mono HW2.out.size))
        clear hw3
        go_wp2_with fail
        go_roundw
        case rel => exact HR.out _ HW3.out
        case measure => exact HS.out _ HW3.out
    · have hke : pos s k = s.size := pos_end s k (by omega)
      have hnx : ∀ ty, (Instr.next (.pointer (some ⟨it, 0, none⟩)) true ty).run Tryz.prog wr = .ok (.tuple #[.bool false]) wr := fun ty => run_next_str_end wr it s (pos s k) ty hi (by omega)
      have HCW := Lib.hid (CW1.out wr (by rw [hit]; exact hb9))
      clear hi hke hb9 hk CE hul hkl
      go_wp2_with fail
      refine HCW.out.mono ?_
      rintro e w9 ⟨rfl, hb9⟩
      have HB9 := Lib.hid hb9
      clear hb9
      go_wp2
      go_ret
      exact ⟨rfl, HB9.out⟩
end Go.Proofs.YthhepebkfokddaaGreatDoor
