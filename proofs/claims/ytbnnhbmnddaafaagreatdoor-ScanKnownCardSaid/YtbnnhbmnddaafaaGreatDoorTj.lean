/- The document's answer for scan: sign: the walk. -/
import Derived.Test.YtbnnhbmnddaafaaGreatDoorTi
namespace Go.Proofs.YtbnnhbmnddaafaaGreatDoor
open Go Go.RowKit Go.Kt Go.Kt.Rg Go.Shelf Go.Lib
attribute [local go_sem] Oper.semAt_some

theorem asz (w : World) (o : Obj) : (w.alloc o).heap.size = w.heap.size + 1 := by simp
theorem str_cells {V : World} {g : Nat} {cs : Array Value} {T : TypeId} {z : Nat × Nat} (h : V.heap[g]? = some (.cells cs T z)) {C : List ByteArray} (hc : cs.toList = C.map Value.string) : ∀ (k : Nat) (c : ByteArray), C[k]? = some c → V.cell? ⟨g, k, none⟩ = some (.string c) := by
  intro k c hk
  rw [Lib.cell_of_heap h]
  have : cs.toList[k]? = some (.string c) := by rw [hc, List.getElem?_map, hk]; rfl
  simpa using this
set_option maxRecDepth 100000 in
set_option maxHeartbeats 1000000 in
theorem xsign_any (s : ByteArray) (i : Nat) (w : World) (hs : s.size ≤ 140737488351232) (hi : i ≤ s.size) :
    Calls Tryz.prog 80 #[.string s, .int .i64 (i : Nat)] w fun e w' => e = .returned (.string ⟨(seg s i (i + sgnN s i)).toArray⟩) ∧ Below w.heap.size w w' := by
  rw [← sgnD_eq]
  have CB := Lib.hid (fun V t (ht : ByteArray.size t ≤ 100) => xbegins_any s t i V hs ht (by omega))
  have C3 : Hid (∀ V, Calls Tryz.prog 97 #[.string s, .int .i64 (i : Nat), .string ⟨#[60, 60, 60]⟩] V fun e w' => e = .returned (.bool (begL s i [60, 60, 60])) ∧ V = w') := Lib.hid fun V => CB.out V ⟨#[60, 60, 60]⟩ (by decide)
  have C2 : Hid (∀ V, Calls Tryz.prog 97 #[.string s, .int .i64 (i : Nat), .string ⟨#[60, 60]⟩] V fun e w' => e = .returned (.bool (begL s i [60, 60])) ∧ V = w') := Lib.hid fun V => CB.out V ⟨#[60, 60]⟩ (by decide)
  have hsz : ∀ C : List ByteArray, (C = sgA ∨ C = sgB ∨ C = sgC) → ∀ c ∈ C, ByteArray.size c ≤ 100 := by
    rintro C (rfl | rfl | rfl)
    · decide
    · decide
    · decide
  have HZ := Lib.hid hsz
  clear hsz
  cases h3 : begL s i [60, 60, 60] with
  | true =>
    have hD : sgnD s i = firstB s i sgB := by unfold sgnD; rw [if_pos h3]
    rw [hD]
    rw [h3] at C3
    clear hD
    obtain ⟨C, hC⟩ : ∃ C, sgB = C := ⟨_, rfl⟩
    have HV : Hid ([.string ⟨#[60, 60, 60, 42]⟩, .string ⟨#[60, 60, 60]⟩] = C.map Value.string) := Lib.hid (by rw [← hC]; rfl)
    have HCZ : Hid (∀ c ∈ C, ByteArray.size c ≤ 100) := Lib.hid (HZ.out C (.inr (.inl hC.symm)))
    have hN : C.length = 2 := by rw [← hC]; rfl
    rw [hC]
    clear hC
    obtain ⟨W, hW⟩ : ∃ W, (w.alloc (.cells #[.string ⟨#[60, 60, 60, 42]⟩, .string ⟨#[60, 60, 42]⟩, .string ⟨#[60, 42]⟩, .string ⟨#[61, 42]⟩, .string ⟨#[60, 60, 60]⟩, .string ⟨#[60, 60]⟩, .string ⟨#[60]⟩, .string ⟨#[38]⟩, .string ⟨#[61]⟩, .string ⟨#[47]⟩, .string ⟨#[45]⟩] 9)).alloc (.cells #[.string ⟨#[60, 60, 60, 42]⟩, .string ⟨#[60, 60, 60]⟩] 9) = W := ⟨_, rfl⟩
    have hh : W.heap[w.heap.size + 1]? = some (.cells #[.string ⟨#[60, 60, 60, 42]⟩, .string ⟨#[60, 60, 60]⟩] 9 (0, 0)) := by
        rw [← hW]
        have h := World.alloc_heap_new (w.alloc (.cells #[.string ⟨#[60, 60, 60, 42]⟩, .string ⟨#[60, 60, 42]⟩, .string ⟨#[60, 42]⟩, .string ⟨#[61, 42]⟩, .string ⟨#[60, 60, 60]⟩, .string ⟨#[60, 60]⟩, .string ⟨#[60]⟩, .string ⟨#[38]⟩, .string ⟨#[61]⟩, .string ⟨#[47]⟩, .string ⟨#[45]⟩] 9)) (.cells #[.string ⟨#[60, 60, 60, 42]⟩, .string ⟨#[60, 60, 60]⟩] 9)
        rw [asz] at h
        exact h
    have hb : Below w.heap.size w W := by
        rw [← hW]
        exact ((Below.refl _ w).alloc (Nat.le_refl _) _).alloc (by rw [asz]; omega) _
    have HC := Lib.hid (str_cells hh (C := C) HV.out)
    have HW := Lib.hid hW
    have HB := Lib.hid hb
    have HN := Lib.hid hN
    clear hh hb hW hN
    go_enter Tryz.func80, Tryz.ntmps80
    go_wp2_with (go_at_call 97; refine (C3.out _).mono ?_; clear C3; rintro e w1 ⟨rfl, rfl⟩)
    rw [HW.out]
    obtain ⟨g, hg⟩ : ∃ g, w.heap.size + 1 = g := ⟨_, rfl⟩
    rw [hg]
    rw [hg] at HC
    clear hg
    go_loop [6] (fun v => ∃ k, k ≤ 2 ∧ v = .int .i64 (k : Nat) ∧ ∀ j d, j < k → C[j]? = some d → begL s i d.data.toList = false) (fun v => 2 - (RowKit.intOf v).toNat)
    case atStart => exact ⟨0, by omega, rfl, fun j d h => by omega⟩
    case round =>
      obtain ⟨k, hk, rfl, hall⟩ := hrel
      by_cases hlt : k < 2
      · obtain ⟨c, hc⟩ : ∃ c, C[k]? = some c := ⟨_, List.getElem?_eq_getElem (by have := HN.out; omega)⟩
        have hcell := HC.out k c hc
        have CC := Lib.hid (fun V => CB.out V c (HCZ.out c (List.mem_of_getElem? hc)))
        have hlt' : (k : Int) < 2 := by omega
        cases hbc : begL s i c.data.toList with
        | true =>
          have hF := firstB_at C k c hall hc hbc
          rw [hbc] at CC
          have HF := Lib.hid hF
          clear hall hc hbc hF
          go_wp2_with (go_at_call 97; refine (CC.out _).mono ?_; rintro e w1 ⟨rfl, rfl⟩)
          go_ret
          rw [HF.out]
          exact ⟨rfl, HB.out⟩
        | false =>
          rw [hbc] at CC
          have HA : Hid (∀ j d, j < k + 1 → C[j]? = some d → begL s i d.data.toList = false) := Lib.hid fun j d hj hd => by
            rcases Nat.lt_or_ge j k with h | h
            · exact hall j d h hd
            · obtain rfl : j = k := by omega
              rw [hc] at hd
              cases hd
              exact hbc
          clear hall hc hbc
          go_wp2_with (go_at_call 97; refine (CC.out _).mono ?_; rintro e w1 ⟨rfl, rfl⟩)
          go_round
          case rel => exact ⟨k + 1, by omega, by go_num, HA.out⟩
          case measure => simp [RowKit.intOf]; omega
      · have hF := firstB_none (s := s) (i := i) C fun j d hj hd => hall j d (by have := HN.out; omega) hd
        have HF := Lib.hid hF
        have hge : ¬ (k : Int) < 2 := by omega
        clear hall hF
        go_wp2
        go_ret
        rw [HF.out]
        exact ⟨rfl, HB.out⟩
  | false =>
    rw [h3] at C3
    cases h2 : begL s i [60, 60] with
    | true =>
      have hD : sgnD s i = firstB s i sgC := by unfold sgnD; rw [if_neg (by rw [h3]; decide), if_pos h2]
      rw [hD]
      rw [h2] at C2
      clear hD
      obtain ⟨C, hC⟩ : ∃ C, sgC = C := ⟨_, rfl⟩
      have HV : Hid ([.string ⟨#[60, 60, 42]⟩, .string ⟨#[60, 60]⟩] = C.map Value.string) := Lib.hid (by rw [← hC]; rfl)
      have HCZ : Hid (∀ c ∈ C, ByteArray.size c ≤ 100) := Lib.hid (HZ.out C (.inr (.inr hC.symm)))
      have hN : C.length = 2 := by rw [← hC]; rfl
      rw [hC]
      clear hC
      obtain ⟨W, hW⟩ : ∃ W, (w.alloc (.cells #[.string ⟨#[60, 60, 60, 42]⟩, .string ⟨#[60, 60, 42]⟩, .string ⟨#[60, 42]⟩, .string ⟨#[61, 42]⟩, .string ⟨#[60, 60, 60]⟩, .string ⟨#[60, 60]⟩, .string ⟨#[60]⟩, .string ⟨#[38]⟩, .string ⟨#[61]⟩, .string ⟨#[47]⟩, .string ⟨#[45]⟩] 9)).alloc (.cells #[.string ⟨#[60, 60, 42]⟩, .string ⟨#[60, 60]⟩] 9) = W := ⟨_, rfl⟩
      have hh : W.heap[w.heap.size + 1]? = some (.cells #[.string ⟨#[60, 60, 42]⟩, .string ⟨#[60, 60]⟩] 9 (0, 0)) := by
          rw [← hW]
          have h := World.alloc_heap_new (w.alloc (.cells #[.string ⟨#[60, 60, 60, 42]⟩, .string ⟨#[60, 60, 42]⟩, .string ⟨#[60, 42]⟩, .string ⟨#[61, 42]⟩, .string ⟨#[60, 60, 60]⟩, .string ⟨#[60, 60]⟩, .string ⟨#[60]⟩, .string ⟨#[38]⟩, .string ⟨#[61]⟩, .string ⟨#[47]⟩, .string ⟨#[45]⟩] 9)) (.cells #[.string ⟨#[60, 60, 42]⟩, .string ⟨#[60, 60]⟩] 9)
          rw [asz] at h
          exact h
      have hb : Below w.heap.size w W := by
          rw [← hW]
          exact ((Below.refl _ w).alloc (Nat.le_refl _) _).alloc (by rw [asz]; omega) _
      have HC := Lib.hid (str_cells hh (C := C) HV.out)
      have HW := Lib.hid hW
      have HB := Lib.hid hb
      have HN := Lib.hid hN
      clear hh hb hW hN
      go_enter Tryz.func80, Tryz.ntmps80
      go_wp2_with (first | (go_at_call 97; refine (C3.out _).mono ?_; clear C3; rintro e w1 ⟨rfl, rfl⟩) | (go_at_call 97; refine (C2.out _).mono ?_; clear C2; rintro e w1 ⟨rfl, rfl⟩))
      rw [HW.out]
      obtain ⟨g, hg⟩ : ∃ g, w.heap.size + 1 = g := ⟨_, rfl⟩
      rw [hg]
      rw [hg] at HC
      clear hg
      go_loop [6] (fun v => ∃ k, k ≤ 2 ∧ v = .int .i64 (k : Nat) ∧ ∀ j d, j < k → C[j]? = some d → begL s i d.data.toList = false) (fun v => 2 - (RowKit.intOf v).toNat)
      case atStart => exact ⟨0, by omega, rfl, fun j d h => by omega⟩
      case round =>
        obtain ⟨k, hk, rfl, hall⟩ := hrel
        by_cases hlt : k < 2
        · obtain ⟨c, hc⟩ : ∃ c, C[k]? = some c := ⟨_, List.getElem?_eq_getElem (by have := HN.out; omega)⟩
          have hcell := HC.out k c hc
          have CC := Lib.hid (fun V => CB.out V c (HCZ.out c (List.mem_of_getElem? hc)))
          have hlt' : (k : Int) < 2 := by omega
          cases hbc : begL s i c.data.toList with
          | true =>
            have hF := firstB_at C k c hall hc hbc
            rw [hbc] at CC
            have HF := Lib.hid hF
            clear hall hc hbc hF
            go_wp2_with (go_at_call 97; refine (CC.out _).mono ?_; rintro e w1 ⟨rfl, rfl⟩)
            go_ret
            rw [HF.out]
            exact ⟨rfl, HB.out⟩
          | false =>
            rw [hbc] at CC
            have HA : Hid (∀ j d, j < k + 1 → C[j]? = some d → begL s i d.data.toList = false) := Lib.hid fun j d hj hd => by
              rcases Nat.lt_or_ge j k with h | h
              · exact hall j d h hd
              · obtain rfl : j = k := by omega
                rw [hc] at hd
                cases hd
                exact hbc
            clear hall hc hbc
            go_wp2_with (go_at_call 97; refine (CC.out _).mono ?_; rintro e w1 ⟨rfl, rfl⟩)
            go_round
            case rel => exact ⟨k + 1, by omega, by go_num, HA.out⟩
            case measure => simp [RowKit.intOf]; omega
        · have hF := firstB_none (s := s) (i := i) C fun j d hj hd => hall j d (by have := HN.out; omega) hd
          have HF := Lib.hid hF
          have hge : ¬ (k : Int) < 2 := by omega
          clear hall hF
          go_wp2
          go_ret
          rw [HF.out]
          exact ⟨rfl, HB.out⟩
    | false =>
      have hD : sgnD s i = firstB s i sgA := by unfold sgnD; rw [if_neg (by rw [h3]; decide), if_neg (by rw [h2]; decide)]
      rw [hD]
      rw [h2] at C2
      clear hD
      obtain ⟨C, hC⟩ : ∃ C, sgA = C := ⟨_, rfl⟩
      have HV : Hid ([.string ⟨#[60, 60, 60, 42]⟩, .string ⟨#[60, 60, 42]⟩, .string ⟨#[60, 42]⟩, .string ⟨#[61, 42]⟩, .string ⟨#[60, 60, 60]⟩, .string ⟨#[60, 60]⟩, .string ⟨#[60]⟩, .string ⟨#[38]⟩, .string ⟨#[61]⟩, .string ⟨#[47]⟩, .string ⟨#[45]⟩] = C.map Value.string) := Lib.hid (by rw [← hC]; rfl)
      have HCZ : Hid (∀ c ∈ C, ByteArray.size c ≤ 100) := Lib.hid (HZ.out C (.inl hC.symm))
      have hN : C.length = 11 := by rw [← hC]; rfl
      rw [hC]
      clear hC
      obtain ⟨W, hW⟩ : ∃ W, w.alloc (.cells #[.string ⟨#[60, 60, 60, 42]⟩, .string ⟨#[60, 60, 42]⟩, .string ⟨#[60, 42]⟩, .string ⟨#[61, 42]⟩, .string ⟨#[60, 60, 60]⟩, .string ⟨#[60, 60]⟩, .string ⟨#[60]⟩, .string ⟨#[38]⟩, .string ⟨#[61]⟩, .string ⟨#[47]⟩, .string ⟨#[45]⟩] 9) = W := ⟨_, rfl⟩
      have hh : W.heap[w.heap.size]? = some (.cells #[.string ⟨#[60, 60, 60, 42]⟩, .string ⟨#[60, 60, 42]⟩, .string ⟨#[60, 42]⟩, .string ⟨#[61, 42]⟩, .string ⟨#[60, 60, 60]⟩, .string ⟨#[60, 60]⟩, .string ⟨#[60]⟩, .string ⟨#[38]⟩, .string ⟨#[61]⟩, .string ⟨#[47]⟩, .string ⟨#[45]⟩] 9 (0, 0)) := by
          rw [← hW]
          exact World.alloc_heap_new w _
      have hb : Below w.heap.size w W := by
          rw [← hW]
          exact (Below.refl _ w).alloc (Nat.le_refl _) _
      have HC := Lib.hid (str_cells hh (C := C) HV.out)
      have HW := Lib.hid hW
      have HB := Lib.hid hb
      have HN := Lib.hid hN
      clear hh hb hW hN
      go_enter Tryz.func80, Tryz.ntmps80
      go_wp2_with (first | (go_at_call 97; refine (C3.out _).mono ?_; clear C3; rintro e w1 ⟨rfl, rfl⟩) | (go_at_call 97; refine (C2.out _).mono ?_; clear C2; rintro e w1 ⟨rfl, rfl⟩))
      rw [HW.out]
      obtain ⟨g, hg⟩ : ∃ g, w.heap.size = g := ⟨_, rfl⟩
      rw [hg]
      rw [hg] at HC
      clear hg
      go_loop [6] (fun v => ∃ k, k ≤ 11 ∧ v = .int .i64 (k : Nat) ∧ ∀ j d, j < k → C[j]? = some d → begL s i d.data.toList = false) (fun v => 11 - (RowKit.intOf v).toNat)
      case atStart => exact ⟨0, by omega, rfl, fun j d h => by omega⟩
      case round =>
        obtain ⟨k, hk, rfl, hall⟩ := hrel
        by_cases hlt : k < 11
        · obtain ⟨c, hc⟩ : ∃ c, C[k]? = some c := ⟨_, List.getElem?_eq_getElem (by have := HN.out; omega)⟩
          have hcell := HC.out k c hc
          have CC := Lib.hid (fun V => CB.out V c (HCZ.out c (List.mem_of_getElem? hc)))
          have hlt' : (k : Int) < 11 := by omega
          cases hbc : begL s i c.data.toList with
          | true =>
            have hF := firstB_at C k c hall hc hbc
            rw [hbc] at CC
            have HF := Lib.hid hF
            clear hall hc hbc hF
            go_wp2_with (go_at_call 97; refine (CC.out _).mono ?_; rintro e w1 ⟨rfl, rfl⟩)
            go_ret
            rw [HF.out]
            exact ⟨rfl, HB.out⟩
          | false =>
            rw [hbc] at CC
            have HA : Hid (∀ j d, j < k + 1 → C[j]? = some d → begL s i d.data.toList = false) := Lib.hid fun j d hj hd => by
              rcases Nat.lt_or_ge j k with h | h
              · exact hall j d h hd
              · obtain rfl : j = k := by omega
                rw [hc] at hd
                cases hd
                exact hbc
            clear hall hc hbc
            go_wp2_with (go_at_call 97; refine (CC.out _).mono ?_; rintro e w1 ⟨rfl, rfl⟩)
            go_round
            case rel => exact ⟨k + 1, by omega, by go_num, HA.out⟩
            case measure => simp [RowKit.intOf]; omega
        · have hF := firstB_none (s := s) (i := i) C fun j d hj hd => hall j d (by have := HN.out; omega) hd
          have HF := Lib.hid hF
          have hge : ¬ (k : Int) < 11 := by omega
          clear hall hF
          go_wp2
          go_ret
          rw [HF.out]
          exact ⟨rfl, HB.out⟩
end Go.Proofs.YtbnnhbmnddaafaaGreatDoor
