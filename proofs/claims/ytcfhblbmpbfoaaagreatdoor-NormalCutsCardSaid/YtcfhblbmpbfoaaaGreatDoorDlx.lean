/- normal: the stable sort's merges (symMergeCmpFunc). WRITTEN by wip/tools/gen_dl.py. -/
import Derived.Test.YtcfhblbmpbfoaaaGreatDoorGv11
namespace Go.Proofs.YtcfhblbmpbfoaaaGreatDoor
open Go Go.RowKit Go.Kt Go.Kt.Sg Go.Shelf Go.Lib Go.Sort

theorem nRot' (k : Nat) (hk : k = 2) (blk off cap a m b : Nat) (d0 d : Array Pt) (w0 w : World) (fv : Value) (R : RowK encPn k w0 blk off d0) (hs : d.size = d0.size) (S : SWK encPn k w0 blk off d w) (ham : a < m) (hmb : m < b) (hb : b ≤ d.size) (hsz : d.size < 4611686018427387904) :
    Calls Tryz.prog 205 #[.slice (some ⟨blk, off, none⟩) d.size cap, .int .i64 a, .int .i64 m, .int .i64 b, fv] w fun e w' => e = .returned (.tuple #[]) ∧ ∃ d', SWK encPn k w0 blk off d' w' ∧ RotI a m b d d' := by
  subst hk
  exact nRot blk off cap a m b d0 d w0 w fv R hs S ham hmb hb hsz
theorem cmpN_neg (x y : Pt) : cmpN x y < 0 ↔ ky2 x < ky2 y := by
  have := ltN x y
  unfold ltOf at this
  rw [decide_eq_decide] at this
  exact this
def SymO (k : Nat) (w0 : World) (blk off a b : Nat) (d : Array Pt) (e : Ending) (w' : World) : Prop :=
  e = .returned (.tuple #[]) ∧ ∃ d', SWK encPn k w0 blk off d' w' ∧ Mix ky2 a b d.toList d'.toList ∧ Rise ky2 (seg d'.toList a b)
def SymN (k : Nat) (w0 : World) (blk off cap z N : Nat) : Prop := ∀ (a m b : Nat) (az mz bz : Int) (d : Array Pt) (w : World), az = (a : Int) → mz = (m : Int) → bz = (b : Int) → b - a ≤ N → d.size = z → SWK encPn k w0 blk off d w → a < m → m < b → b ≤ z →
    Rise ky2 (seg d.toList a m) → Rise ky2 (seg d.toList m b) →
    Calls Tryz.prog 179 #[.slice (some ⟨blk, off, none⟩) z cap, .int .i64 az, .int .i64 mz, .int .i64 bz, clsFn] w (SymO k w0 blk off a b d)

set_option maxHeartbeats 4000000 in
set_option maxRecDepth 1000000 in
theorem nSymA (k : Nat) (hk : k = 2) (blk off cap z N : Nat) (d0 : Array Pt) (w0 : World) (R : RowK encPn k w0 blk off d0) (hz : d0.size = z) (hsz : z < 4611686018427387904) (IH : SymN k w0 blk off cap z N)
    (a m b : Nat) (d : Array Pt) (w : World) (_hN : b - a ≤ N + 1) (hs : d.size = z) (S : SWK encPn k w0 blk off d w) (ham : a < m) (hmb : m < b) (hb : b ≤ z) (hA : Rise ky2 (seg d.toList a m)) (hB : Rise ky2 (seg d.toList m b)) (h1 : m = a + 1) :
    Calls Tryz.prog 179 #[.slice (some ⟨blk, off, none⟩) z cap, .int .i64 a, .int .i64 m, .int .i64 b, clsFn] w (SymO k w0 blk off a b d) := by
  have S0 := Lib.hid S
  have HS := Lib.hid hs
  have HZ := Lib.hid hz
  have HI := Lib.hid IH
  have HA := Lib.hid hA
  have HB := Lib.hid hB
  have HR := Lib.hid R
  have HK := Lib.hid hk
  have zE : ∀ w, (Go.sizeOf 78).run Tryz.prog w = .ok k w := fun w => by rw [hk]; exact Tryz.sizeOf78 w
  have eg := enters_cls
  have mixed : Tryz.prog.follows Departure.mixedOrders = true := by kernel_rfl
  clear S hs hz IH hA hB R hk
  go_enter Tryz.func179, Tryz.ntmps179
  subst h1
  have hq : (((a + 1 : Nat) : Int) - (a : Int) = 1) := by omega
  have hc1 : ((a : Int) + 1 - (a : Int) = 1) := by omega
  go_wp2_with fail
  go_loopg [10, 11] (b - (a + 1)) (fun kx s t wr => ∃ (i j : Nat), s = .int .i64 i ∧ t = .int .i64 j ∧ a + 1 ≤ i ∧ i ≤ j ∧ j ≤ b ∧ j - i ≤ kx ∧ Hid (SWK encPn k w0 blk off d wr ∧ (∀ t, a < t → t < i → ky2 d[t]! < ky2 d[a]!) ∧ (∀ t, j ≤ t → t < b → ky2 d[a]! ≤ ky2 d[t]!)))
  case atStart => exact ⟨a + 1, b, by go_num, rfl, Nat.le_refl _, by omega, Nat.le_refl _, Nat.le_refl _, Lib.hid ⟨S0.out, fun t h1 h2 => by omega, fun t h1 h2 => by omega⟩⟩
  case round =>
    clear S0
    obtain ⟨i, j, rfl, rfl, hi, hij, hj, hkx, S1⟩ := hrel
    by_cases hlt : i < j
    · have hih : i ≤ (i + j) / 2 := by omega
      have hhj : (i + j) / 2 < j := by omega
      have eH : (((i : Int) + (j : Int)) / 2).toNat = (i + j) / 2 := by omega
      have pH : (0 : Int) ≤ ((i : Int) + (j : Int)) / 2 := by omega
      have bH : ((i : Int) + (j : Int)) / 2 < (z : Int) := by omega
      have rH : IntKind.i64.wrap (((i : Int) + (j : Int)) / 2) = ((i : Int) + (j : Int)) / 2 := by rw [IntKind.wrap_i64]; omega
      have eA : ((a : Int)).toNat = a := by omega
      have pA : (0 : Int) ≤ (a : Int) := by omega
      have bA : (a : Int) < (z : Int) := by omega
      have rA : IntKind.i64.wrap ((a : Int)) = (a : Int) := by rw [IntKind.wrap_i64]; omega
      have hltz : (i : Int) < (j : Int) := by omega
      have lX : ∀ n os, Sem.run Tryz.prog (loadCellsFrom ⟨blk, off + ((i + j) / 2) * k, none⟩ 0 k #[]) (grow (wr.drewN n) os) = .ok (encPn d[((i + j) / 2)]!).toArray (grow (wr.drewN n) os) := fun n os => S1.out.1.ld HR.out (HS.out.trans HZ.out.symm) Tryz.prog ((i + j) / 2) (by rw [HS.out]; omega) n os
      have lY : ∀ n os, Sem.run Tryz.prog (loadCellsFrom ⟨blk, off + a * k, none⟩ 0 k #[]) (grow (wr.drewN n) os) = .ok (encPn d[a]!).toArray (grow (wr.drewN n) os) := fun n os => S1.out.1.ld HR.out (HS.out.trans HZ.out.symm) Tryz.prog a (by rw [HS.out]; omega) n os
      have hc : ∀ n os, Calls Tryz.prog 122 #[.agg (encPn d[((i + j) / 2)]!).toArray, .agg (encPn d[a]!).toArray] (grow (wr.drewN n) os) fun e w' => e = .returned (.int .i64 (cmpN d[((i + j) / 2)]! d[a]!)) ∧ ∃ q os', w' = grow ((grow (wr.drewN n) os).drewN q) os' := fun n os => nCls _ _ _
      have hr := cmpN_neg d[((i + j) / 2)]! d[a]!
      have HG : Hid (∀ n os, SWK encPn k w0 blk off d (grow (wr.drewN n) os)) := Lib.hid fun n os => S1.out.1.grown n os
      generalize cmpN d[((i + j) / 2)]! d[a]! = r at hc hr
      generalize encPn d[((i + j) / 2)]! = cX at lX hc
      generalize encPn d[a]! = cY at lY hc
      have HRR := Lib.hid hr
      clear hr
      go_wp2_with fail
      go_quiet_grown (first | (go_at_fn 122; refine Calls.grown_of (hc _ _)))
      clear lX lY hc
      by_cases hr : r < 0
      · go_wp2
        go_roundg (j - ((i + j) / 2 + 1))
        case measure => omega
        case rel =>
          have hx := HRR.out.1 hr
          refine ⟨(i + j) / 2 + 1, j, by first | rfl | (congr 1; omega), rfl, by omega, by omega, hj, Nat.le_refl _, Lib.hid ⟨HG.out nq osq, fun t h1 h2 => ?_, S1.out.2.2⟩⟩
          have := of_rise (by rw [HS.out]; exact hb) HB.out (i := t) (j := (i + j) / 2) (by omega) (by omega) (by omega)
          omega
      · go_wp2
        go_roundg ((i + j) / 2 - i)
        case measure => omega
        case rel =>
          have hx : ¬ ky2 d[(i + j) / 2]! < ky2 d[a]! := fun h9 => by have := HRR.out.2 h9; omega
          refine ⟨i, (i + j) / 2, rfl, by first | rfl | (congr 1; omega), hi, hih, by omega, Nat.le_refl _, Lib.hid ⟨HG.out nq osq, S1.out.2.1, fun t h1 h2 => ?_⟩⟩
          have := of_rise (by rw [HS.out]; exact hb) HB.out (i := (i + j) / 2) (j := t) (by omega) (by omega) (by omega)
          omega
    · obtain rfl : i = j := by omega
      have HE := Lib.hid S1.out.2
      have HW := Lib.hid S1.out.1
      clear S1
      go_wp2_with fail
      go_loopg [13] (i - a) (fun kx s wr => ∃ (q : Nat) (dk : Array Pt), s = .int .i64 q ∧ a ≤ q ∧ q + 1 ≤ i ∧ i - q ≤ kx ∧ Hid (SWK encPn k w0 blk off dk wr ∧ RotI a (a + 1) (q + 1) d dk))
      case atStart => exact ⟨a, d, rfl, Nat.le_refl _, hi, Nat.le_refl _, Lib.hid ⟨HW.out, RotI.self d a (a + 1) (a + 1) (.inl rfl) (by omega) (Nat.le_refl _)⟩⟩
      case round =>
        clear HW
        obtain ⟨q, dk, rfl, haq, hqi, hkx, S1⟩ := hrel
        by_cases hlt : q + 1 < i
        · have hltz : (q : Int) < (i : Int) - 1 := by omega
          have eQ : ((q : Int)).toNat = q := by omega
          have pQ : (0 : Int) ≤ (q : Int) := by omega
          have bQ : (q : Int) < (z : Int) := by omega
          have rQ : IntKind.i64.wrap ((q : Int)) = (q : Int) := by rw [IntKind.wrap_i64]; omega
          have eP : ((q : Int) + 1).toNat = q + 1 := by omega
          have pP : (0 : Int) ≤ (q : Int) + 1 := by omega
          have bP : (q : Int) + 1 < (z : Int) := by omega
          have rP : IntKind.i64.wrap ((q : Int) + 1) = (q : Int) + 1 := by rw [IntKind.wrap_i64]; omega
          have hds : dk.size = d0.size := S1.out.2.size.trans (HS.out.trans HZ.out.symm)
          have hdz : dk.size = z := hds.trans HZ.out
          have S2 : Hid (SWK encPn k w0 blk off (swp dk (q) (q + 1)) ((wr.drew.setCells blk (off + (q) * k) (encPn dk[q + 1]!)).setCells blk (off + (q + 1) * k) (encPn dk[q]!))) := Lib.hid (S1.out.1.swapped HR.out (q) (q + 1) (by omega) (by omega))
          have HD := Lib.hid hdz
          have l1 := S1.out.1.ld1 HR.out hds Tryz.prog (q) (by omega)
          have l2 := S1.out.1.ld1 HR.out hds Tryz.prog (q + 1) (by omega)
          have s1 := S1.out.1.st1 HR.out hds Tryz.prog (q) (by omega) dk[q + 1]!
          have s2 := S1.out.1.st2 HR.out hds Tryz.prog (q) (q + 1) (by omega) (by omega) dk[q + 1]! dk[q]!
          have n1 : (encPn dk[q]!).length = k := HR.out.hk _
          have n2 : (encPn dk[q + 1]!).length = k := HR.out.hk _
          clear hds hdz
          generalize encPn dk[q]! = c1 at S2 l1 s2 n1
          generalize encPn dk[q + 1]! = c2 at S2 l2 s1 s2 n2
          go_wp2_with fail
          go_big_region_o
          clear l1 l2 s1 s2
          generalize (wr.drew.setCells blk (off + (q) * k) c2).setCells blk (off + (q + 1) * k) c1 = w2 at S2 ⊢
          go_wp2
          go_roundg (i - (q + 1))
          case measure => omega
          case rel => exact ⟨q + 1, _, by simp, by omega, by omega, Nat.le_refl _, Lib.hid ⟨S2.out, S1.out.2.step haq (by rw [HS.out]; omega)⟩⟩
        · obtain rfl : q + 1 = i := by omega
          have hltz : ¬ (q : Int) < ((q + 1 : Nat) : Int) - 1 := by omega
          have hltz2 : ¬ (q : Int) < (q : Int) + 1 - 1 := by omega
          go_wp2
          go_end0
          exact ⟨rfl, dk, S1.out.1, in_right (by omega) hj (by rw [HS.out]; exact hb) HB.out HE.out.1 HE.out.2 S1.out.2⟩
set_option maxHeartbeats 4000000 in
set_option maxRecDepth 1000000 in
theorem nSymB (k : Nat) (hk : k = 2) (blk off cap z N : Nat) (d0 : Array Pt) (w0 : World) (R : RowK encPn k w0 blk off d0) (hz : d0.size = z) (hsz : z < 4611686018427387904) (IH : SymN k w0 blk off cap z N)
    (a m b : Nat) (d : Array Pt) (w : World) (_hN : b - a ≤ N + 1) (hs : d.size = z) (S : SWK encPn k w0 blk off d w) (ham : a < m) (hmb : m < b) (hb : b ≤ z) (hA : Rise ky2 (seg d.toList a m)) (hB : Rise ky2 (seg d.toList m b)) (h1 : m ≠ a + 1) (h2 : b = m + 1) :
    Calls Tryz.prog 179 #[.slice (some ⟨blk, off, none⟩) z cap, .int .i64 a, .int .i64 m, .int .i64 b, clsFn] w (SymO k w0 blk off a b d) := by
  have S0 := Lib.hid S
  have HS := Lib.hid hs
  have HZ := Lib.hid hz
  have HI := Lib.hid IH
  have HA := Lib.hid hA
  have HB := Lib.hid hB
  have HR := Lib.hid R
  have HK := Lib.hid hk
  have zE : ∀ w, (Go.sizeOf 78).run Tryz.prog w = .ok k w := fun w => by rw [hk]; exact Tryz.sizeOf78 w
  have eg := enters_cls
  have mixed : Tryz.prog.follows Departure.mixedOrders = true := by kernel_rfl
  clear S hs hz IH hA hB R hk
  go_enter Tryz.func179, Tryz.ntmps179
  have hq : ((m : Int) - (a : Int) == 1) = false := by simp only [beq_eq_false_iff_ne, ne_eq]; omega
  have hc2 : ((b : Int) - (m : Int) == 1) = true := by simp only [beq_iff_eq]; omega
  have HBM := Lib.hid h2
  clear h1 h2
  go_wp2_with fail
  go_loopg [14, 15] (m - a) (fun kx s t wr => ∃ (i j : Nat), s = .int .i64 i ∧ t = .int .i64 j ∧ a ≤ i ∧ i ≤ j ∧ j ≤ m ∧ j - i ≤ kx ∧ Hid (SWK encPn k w0 blk off d wr ∧ (∀ t, j ≤ t → t < m → ky2 d[m]! < ky2 d[t]!) ∧ (∀ t, a ≤ t → t < i → ky2 d[t]! ≤ ky2 d[m]!)))
  case atStart => exact ⟨a, m, rfl, rfl, Nat.le_refl _, by omega, Nat.le_refl _, Nat.le_refl _, Lib.hid ⟨S0.out, fun t h1 h2 => by omega, fun t h1 h2 => by omega⟩⟩
  case round =>
    clear S0
    obtain ⟨i, j, rfl, rfl, hi, hij, hj, hkx, S1⟩ := hrel
    by_cases hlt : i < j
    · have hih : i ≤ (i + j) / 2 := by omega
      have hhj : (i + j) / 2 < j := by omega
      have eH : (((i : Int) + (j : Int)) / 2).toNat = (i + j) / 2 := by omega
      have pH : (0 : Int) ≤ ((i : Int) + (j : Int)) / 2 := by omega
      have bH : ((i : Int) + (j : Int)) / 2 < (z : Int) := by omega
      have rH : IntKind.i64.wrap (((i : Int) + (j : Int)) / 2) = ((i : Int) + (j : Int)) / 2 := by rw [IntKind.wrap_i64]; omega
      have eA : ((m : Int)).toNat = m := by omega
      have pA : (0 : Int) ≤ (m : Int) := by omega
      have bA : (m : Int) < (z : Int) := by omega
      have rA : IntKind.i64.wrap ((m : Int)) = (m : Int) := by rw [IntKind.wrap_i64]; omega
      have hltz : (i : Int) < (j : Int) := by omega
      have lX : ∀ n os, Sem.run Tryz.prog (loadCellsFrom ⟨blk, off + m * k, none⟩ 0 k #[]) (grow (wr.drewN n) os) = .ok (encPn d[m]!).toArray (grow (wr.drewN n) os) := fun n os => S1.out.1.ld HR.out (HS.out.trans HZ.out.symm) Tryz.prog m (by rw [HS.out]; omega) n os
      have lY : ∀ n os, Sem.run Tryz.prog (loadCellsFrom ⟨blk, off + ((i + j) / 2) * k, none⟩ 0 k #[]) (grow (wr.drewN n) os) = .ok (encPn d[((i + j) / 2)]!).toArray (grow (wr.drewN n) os) := fun n os => S1.out.1.ld HR.out (HS.out.trans HZ.out.symm) Tryz.prog ((i + j) / 2) (by rw [HS.out]; omega) n os
      have hc : ∀ n os, Calls Tryz.prog 122 #[.agg (encPn d[m]!).toArray, .agg (encPn d[((i + j) / 2)]!).toArray] (grow (wr.drewN n) os) fun e w' => e = .returned (.int .i64 (cmpN d[m]! d[((i + j) / 2)]!)) ∧ ∃ q os', w' = grow ((grow (wr.drewN n) os).drewN q) os' := fun n os => nCls _ _ _
      have hr := cmpN_neg d[m]! d[((i + j) / 2)]!
      have HG : Hid (∀ n os, SWK encPn k w0 blk off d (grow (wr.drewN n) os)) := Lib.hid fun n os => S1.out.1.grown n os
      generalize cmpN d[m]! d[((i + j) / 2)]! = r at hc hr
      generalize encPn d[m]! = cX at lX hc
      generalize encPn d[((i + j) / 2)]! = cY at lY hc
      have HRR := Lib.hid hr
      clear hr
      go_wp2_with fail
      go_quiet_grown (first | (go_at_fn 122; refine Calls.grown_of (hc _ _)))
      clear lX lY hc
      by_cases hr : r < 0
      · have hd := decide_eq_true hr
        go_wp2_with fail
        · rename_i h9; rw [hd] at h9; cases h9
        go_wp2
        go_roundg ((i + j) / 2 - i)
        case measure => omega
        case rel =>
          have hx := HRR.out.1 hr
          refine ⟨i, (i + j) / 2, rfl, by first | rfl | (congr 1; omega), hi, hih, by omega, Nat.le_refl _, Lib.hid ⟨HG.out nq osq, fun t h1 h2 => ?_, S1.out.2.2⟩⟩
          have := of_rise (by rw [HS.out]; have := HBM.out; omega) HA.out (i := (i + j) / 2) (j := t) (by omega) (by omega) (by omega)
          omega
      · have hd := decide_eq_false hr
        go_wp2_with fail
        rotate_left 1
        · rename_i h9; rw [hd] at h9; cases h9
        go_wp2
        go_roundg (j - ((i + j) / 2 + 1))
        case measure => omega
        case rel =>
          have hx : ¬ ky2 d[m]! < ky2 d[(i + j) / 2]! := fun h9 => by have := HRR.out.2 h9; omega
          refine ⟨(i + j) / 2 + 1, j, by first | rfl | (congr 1; omega), rfl, by omega, by omega, hj, Nat.le_refl _, Lib.hid ⟨HG.out nq osq, S1.out.2.1, fun t h1 h2 => ?_⟩⟩
          have := of_rise (by rw [HS.out]; have := HBM.out; omega) HA.out (i := t) (j := (i + j) / 2) (by omega) (by omega) (by omega)
          omega
    · obtain rfl : i = j := by omega
      have HE := Lib.hid S1.out.2
      have HW := Lib.hid S1.out.1
      clear S1
      go_wp2_with fail
      go_loopg [17] (m - i) (fun kx s wr => ∃ (q : Nat) (dk : Array Pt), s = .int .i64 q ∧ i ≤ q ∧ q ≤ m ∧ q - i ≤ kx ∧ Hid (SWK encPn k w0 blk off dk wr ∧ RotI q m (m + 1) d dk))
      case atStart => exact ⟨m, d, rfl, hj, Nat.le_refl _, Nat.le_refl _, Lib.hid ⟨HW.out, RotI.self d m m (m + 1) (.inr rfl) (Nat.le_refl _) (by omega)⟩⟩
      case round =>
        clear HW
        obtain ⟨q, dk, rfl, hiq, hqm, hkx, S1⟩ := hrel
        by_cases hlt : i < q
        · obtain ⟨p, rfl⟩ : ∃ p, q = p + 1 := ⟨q - 1, by omega⟩
          have hltz : (i : Int) < ((p + 1 : Nat) : Int) := by omega
          have hltz2 : (i : Int) < (p : Int) + 1 := by omega
          have eQ : ((p : Int) + 1).toNat = p + 1 := by omega
          have pQ : (0 : Int) ≤ (p : Int) + 1 := by omega
          have bQ : (p : Int) + 1 < (z : Int) := by omega
          have rQ : IntKind.i64.wrap ((p : Int) + 1) = (p : Int) + 1 := by rw [IntKind.wrap_i64]; omega
          have eP : ((p : Int)).toNat = p := by omega
          have pP : (0 : Int) ≤ (p : Int) := by omega
          have bP : (p : Int) < (z : Int) := by omega
          have rP : IntKind.i64.wrap ((p : Int)) = (p : Int) := by rw [IntKind.wrap_i64]; omega
          have hds : dk.size = d0.size := S1.out.2.size.trans (HS.out.trans HZ.out.symm)
          have hdz : dk.size = z := hds.trans HZ.out
          have S2 : Hid (SWK encPn k w0 blk off (swp dk (p + 1) (p)) ((wr.drew.setCells blk (off + (p + 1) * k) (encPn dk[p]!)).setCells blk (off + (p) * k) (encPn dk[p + 1]!))) := Lib.hid (S1.out.1.swapped HR.out (p + 1) (p) (by omega) (by omega))
          have HD := Lib.hid hdz
          have l1 := S1.out.1.ld1 HR.out hds Tryz.prog (p + 1) (by omega)
          have l2 := S1.out.1.ld1 HR.out hds Tryz.prog (p) (by omega)
          have s1 := S1.out.1.st1 HR.out hds Tryz.prog (p + 1) (by omega) dk[p]!
          have s2 := S1.out.1.st2 HR.out hds Tryz.prog (p + 1) (p) (by omega) (by omega) dk[p]! dk[p + 1]!
          have n1 : (encPn dk[p + 1]!).length = k := HR.out.hk _
          have n2 : (encPn dk[p]!).length = k := HR.out.hk _
          clear hds hdz
          generalize encPn dk[p + 1]! = c1 at S2 l1 s2 n1
          generalize encPn dk[p]! = c2 at S2 l2 s1 s2 n2
          go_wp2_with fail
          go_big_region_o
          clear l1 l2 s1 s2
          generalize (wr.drew.setCells blk (off + (p + 1) * k) c2).setCells blk (off + (p) * k) c1 = w2 at S2 ⊢
          go_wp2
          go_roundg (p - i)
          case measure => omega
          case rel => exact ⟨p, _, by first | rfl | go_num, by omega, by omega, Nat.le_refl _, Lib.hid ⟨S2.out, S1.out.2.back hqm (by rw [HS.out]; have := HBM.out; omega)⟩⟩
        · obtain rfl : q = i := by omega
          go_wp2
          go_end0
          rw [HBM.out]; exact ⟨rfl, dk, S1.out.1, in_left hi hj (by rw [HS.out]; have := HBM.out; omega) HA.out HE.out.1 HE.out.2 S1.out.2⟩
set_option maxHeartbeats 4000000 in
set_option maxRecDepth 1000000 in
theorem nSymC (k : Nat) (hk : k = 2) (blk off cap z N : Nat) (d0 : Array Pt) (w0 : World) (R : RowK encPn k w0 blk off d0) (hz : d0.size = z) (hsz : z < 4611686018427387904) (IH : SymN k w0 blk off cap z N)
    (a m b : Nat) (d : Array Pt) (w : World) (hN : b - a ≤ N + 1) (hs : d.size = z) (S : SWK encPn k w0 blk off d w) (ham : a < m) (hmb : m < b) (hb : b ≤ z) (hA : Rise ky2 (seg d.toList a m)) (hB : Rise ky2 (seg d.toList m b)) (_h1 : m ≠ a + 1) (h2 : b ≠ m + 1) (h3 : (a + b) / 2 < m) :
    Calls Tryz.prog 179 #[.slice (some ⟨blk, off, none⟩) z cap, .int .i64 a, .int .i64 m, .int .i64 b, clsFn] w (SymO k w0 blk off a b d) := by
  have S0 := Lib.hid S
  have HS := Lib.hid hs
  have HZ := Lib.hid hz
  have HI := Lib.hid IH
  have HA := Lib.hid hA
  have HB := Lib.hid hB
  have HR := Lib.hid R
  have HK := Lib.hid hk
  have zE : ∀ w, (Go.sizeOf 78).run Tryz.prog w = .ok k w := fun w => by rw [hk]; exact Tryz.sizeOf78 w
  have eg := enters_cls
  have mixed : Tryz.prog.follows Departure.mixedOrders = true := by kernel_rfl
  clear S hs hz IH hA hB R hk
  go_enter Tryz.func179, Tryz.ntmps179
  obtain ⟨c, hc⟩ : ∃ c, c = (a + b) / 2 := ⟨_, rfl⟩
  have EM : ((a : Int) + (b : Int)) / 2 = (c : Int) := by omega
  have hq : ((m : Int) - (a : Int) == 1) = false := by simp only [beq_eq_false_iff_ne, ne_eq]; omega
  have hc2 : ((b : Int) - (m : Int) == 1) = false := by simp only [beq_eq_false_iff_ne, ne_eq]; omega
  have hm3 : (c : Int) < (m : Int) := by omega
  have hac : a < c := by omega
  have hcb : c < b := by omega
  have hcm : c < m := by omega
  have hab2 : a + b ≤ 2 * c + 1 := by omega
  have hab3 : 2 * c ≤ a + b := by omega
  clear _h1 h2 h3 hc
  go_wp2_with fail
  clear EM hq hc2 hm3
  have CT : Hid (∀ (s q e : Nat) (sz mz ez : Int) (W : World), sz = (s : Int) → mz = (q : Int) → ez = (e : Int) → s < q → q < e → e ≤ z → SWK encPn k w0 blk off d W →
      Calls Tryz.prog 205 #[.slice (some ⟨blk, off, none⟩) z cap, .int .i64 sz, .int .i64 mz, .int .i64 ez, clsFn] W fun e9 w' => e9 = .returned (.tuple #[]) ∧ ∃ d', SWK encPn k w0 blk off d' w' ∧ RotI s q e d d') :=
    Lib.hid fun s q e sz mz ez W e1 e2 e3 h1 h2 h3 h4 => by
      subst e1 e2 e3
      have := nRot' k HK.out blk off cap s q e d0 d w0 W clsFn HR.out (HS.out.trans HZ.out.symm) h4 h1 h2 (by rw [HS.out]; exact h3) (by rw [HS.out]; exact hsz)
      rwa [HS.out] at this
  go_loopg [20, 21] (c - (c + m - b)) (fun kx s t wr => ∃ (x y : Nat), s = .int .i64 x ∧ t = .int .i64 y ∧ (c + m - b) ≤ x ∧ x ≤ y ∧ y ≤ c ∧ y - x ≤ kx ∧ Hid (SWK encPn k w0 blk off d wr ∧ ((c + m - b) < x → ky2 d[x - 1]! ≤ ky2 d[c + m - 1 - (x - 1)]!) ∧ (y < c → ky2 d[c + m - 1 - y]! < ky2 d[y]!)))
  case atStart => exact ⟨(c + m - b), c, by first | rfl | (congr 1; omega), by first | rfl | (congr 1; omega), Nat.le_refl _, by omega, Nat.le_refl _, Nat.le_refl _, Lib.hid ⟨S0.out, fun h => by omega, fun h => by omega⟩⟩
  case round =>
    clear S0
    obtain ⟨x, y, rfl, rfl, hx, hxy, hy, hkx, S1⟩ := hrel
    by_cases hlt : x < y
    · have hih : x ≤ (x + y) / 2 := by omega
      have hhj : (x + y) / 2 < y := by omega
      have hltz : (x : Int) < (y : Int) := by omega
      have eH : (((x : Int) + (y : Int)) / 2).toNat = (x + y) / 2 := by omega
      have pH : (0 : Int) ≤ ((x : Int) + (y : Int)) / 2 := by omega
      have bH : ((x : Int) + (y : Int)) / 2 < (z : Int) := by omega
      have rH : IntKind.i64.wrap (((x : Int) + (y : Int)) / 2) = ((x : Int) + (y : Int)) / 2 := by rw [IntKind.wrap_i64]; omega
      obtain ⟨pz, hpz⟩ : ∃ pz : Int, pz = (c : Int) + (m : Int) - 1 - ((x : Int) + (y : Int)) / 2 := ⟨_, rfl⟩
      have eP : (pz).toNat = c + m - 1 - (x + y) / 2 := by omega
      have pP : (0 : Int) ≤ pz := by omega
      have bP : pz < (z : Int) := by omega
      have rP : IntKind.i64.wrap (pz) = pz := by rw [IntKind.wrap_i64]; omega
      have qz := hpz.symm
      clear hpz
      have lX : ∀ n os, Sem.run Tryz.prog (loadCellsFrom ⟨blk, off + (c + m - 1 - (x + y) / 2) * k, none⟩ 0 k #[]) (grow (wr.drewN n) os) = .ok (encPn d[(c + m - 1 - (x + y) / 2)]!).toArray (grow (wr.drewN n) os) := fun n os => S1.out.1.ld HR.out (HS.out.trans HZ.out.symm) Tryz.prog (c + m - 1 - (x + y) / 2) (by rw [HS.out]; omega) n os
      have lY : ∀ n os, Sem.run Tryz.prog (loadCellsFrom ⟨blk, off + ((x + y) / 2) * k, none⟩ 0 k #[]) (grow (wr.drewN n) os) = .ok (encPn d[((x + y) / 2)]!).toArray (grow (wr.drewN n) os) := fun n os => S1.out.1.ld HR.out (HS.out.trans HZ.out.symm) Tryz.prog ((x + y) / 2) (by rw [HS.out]; omega) n os
      have hc : ∀ n os, Calls Tryz.prog 122 #[.agg (encPn d[(c + m - 1 - (x + y) / 2)]!).toArray, .agg (encPn d[((x + y) / 2)]!).toArray] (grow (wr.drewN n) os) fun e w' => e = .returned (.int .i64 (cmpN d[(c + m - 1 - (x + y) / 2)]! d[((x + y) / 2)]!)) ∧ ∃ q os', w' = grow ((grow (wr.drewN n) os).drewN q) os' := fun n os => nCls _ _ _
      have hr := cmpN_neg d[(c + m - 1 - (x + y) / 2)]! d[((x + y) / 2)]!
      have HG : Hid (∀ n os, SWK encPn k w0 blk off d (grow (wr.drewN n) os)) := Lib.hid fun n os => S1.out.1.grown n os
      generalize cmpN d[(c + m - 1 - (x + y) / 2)]! d[((x + y) / 2)]! = r at hc hr
      generalize encPn d[(c + m - 1 - (x + y) / 2)]! = cX at lX hc
      generalize encPn d[((x + y) / 2)]! = cY at lY hc
      have HRR := Lib.hid hr
      clear hr
      go_wp2_with fail
      go_quiet_grown (first | (go_at_fn 122; refine Calls.grown_of (hc _ _)))
      clear lX lY hc
      by_cases hr : r < 0
      · have hd := decide_eq_true hr
        go_wp2_with fail
        · rename_i h9; rw [hd] at h9; cases h9
        go_wp2
        go_roundg ((x + y) / 2 - x)
        case measure => omega
        case rel => exact ⟨x, (x + y) / 2, rfl, by first | rfl | (congr 1; omega), hx, hih, by omega, Nat.le_refl _, Lib.hid ⟨HG.out nq osq, S1.out.2.1, fun _ => HRR.out.1 hr⟩⟩
      · have hd := decide_eq_false hr
        go_wp2_with fail
        rotate_left 1
        · rename_i h9; rw [hd] at h9; cases h9
        go_wp2
        go_roundg (y - ((x + y) / 2 + 1))
        case measure => omega
        case rel =>
          have hx9 : ¬ ky2 d[c + m - 1 - (x + y) / 2]! < ky2 d[(x + y) / 2]! := fun h9 => by have := HRR.out.2 h9; omega
          exact ⟨(x + y) / 2 + 1, y, by first | rfl | (congr 1; omega), rfl, by omega, by omega, hy, Nat.le_refl _, Lib.hid ⟨HG.out nq osq, fun _ => by rw [Nat.add_sub_cancel]; omega, S1.out.2.2⟩⟩
    · obtain rfl : x = y := by omega
      have hbd : b ≤ d.size := by rw [HS.out]; exact hb
      have CU : Cut ky2 d a m b x (c + m - 1 + 1 - x) := Cut.of (lo := (c + m - b)) (hi := c) (Nat.le_of_lt hmb) hbd HA.out HB.out (by omega) hx hy (by omega) (by omega) (by omega) (by omega) (by omega) S1.out.2.1 S1.out.2.2
      rw [show c + m - 1 + 1 - x = c + m - x by omega] at CU
      have TT : Hid (∀ d1 : Array Pt, (d1 = d ∧ (x = m ∨ c + m - x = m)) ∨ RotI x m (c + m - x) d d1 → Turned ky2 d d1 a x m (c + m - x) b) := Lib.hid fun d1 h => Turned.of (by omega) (by omega) (by omega) (by omega) hbd HA.out HB.out h
      have EC : Hid (x + (c + m - x - m) = c) := Lib.hid (by omega)
      have DN : Hid (∀ d1 d2 d3 : Array Pt, Turned ky2 d d1 a x m (c + m - x) b → (Mix ky2 a c d1.toList d2.toList ∧ Rise ky2 (seg d2.toList a c)) → (Mix ky2 c b d2.toList d3.toList ∧ Rise ky2 (seg d3.toList c b)) → Mix ky2 a b d.toList d3.toList ∧ Rise ky2 (seg d3.toList a b)) :=
        Lib.hid fun d1 d2 d3 t h2 h3 => Turned.done (s := x) (m := m) (e := c + m - x) (by omega) (by omega) (by omega) (by omega) hbd HA.out HB.out CU t (by rw [EC.out]; exact h2) (by rw [EC.out]; exact h3)
      have RG : Hid (∀ d1 d2 : Array Pt, Turned ky2 d d1 a x m (c + m - x) b → Mix ky2 a c d1.toList d2.toList → Rise ky2 (seg d2.toList c (c + m - x)) ∧ Rise ky2 (seg d2.toList (c + m - x) b)) :=
        Lib.hid fun d1 d2 t h => by have := t.right (d2 := d2) (by rw [EC.out]; exact h) (by omega); rwa [EC.out] at this
      clear CU hbd hkx
      rcases Nat.lt_or_ge x c with k1 | k1
      · rcases Nat.lt_or_ge a x with k2 | k2
        · rcases Nat.lt_or_ge (c + m - b) x with k3 | k3
          · clear hlt
            have f1 : ((x : Int)) < (m : Int) := by omega
            have f2 : ((m : Int)) < (c : Int) + (m : Int) - (x : Int) := by omega
            have f3 : ((a : Int)) < (x : Int) := by omega
            have f4 : ((x : Int)) < (c : Int) := by omega
            have f5 : ((c : Int)) < (c : Int) + (m : Int) - (x : Int) := by omega
            have f6 : ((c : Int) + (m : Int) - (x : Int)) < (b : Int) := by omega
            go_wp2_with fail
            refine (CT.out x m (c + m - x) _ _ _ _ rfl rfl (by omega) (by omega) (by omega) (by omega) S1.out.1).mono ?_
            rintro e9 w1 ⟨rfl, d1, hd1, hd2⟩
            have T := Lib.hid (TT.out d1 (.inr hd2))
            replace hd1 := Lib.hid hd1
            clear hd2
            go_wp2_with fail
            refine (HI.out a x c _ _ _ d1 _ rfl rfl rfl (by omega) (T.out.size.trans HS.out) hd1.out (by omega) (by omega) (by omega) T.out.r1 (EC.out ▸ T.out.r2)).mono ?_
            rintro e8 w2 ⟨rfl, d2, hd3, hd4⟩
            replace hd3 := Lib.hid hd3
            have L4 := Lib.hid hd4
            clear hd4
            go_wp2_with fail
            refine (HI.out c (c + m - x) b _ _ _ d2 _ rfl (by omega) rfl (by omega) (L4.out.1.size.trans (T.out.size.trans HS.out)) hd3.out (by omega) (by omega) hb (RG.out d1 d2 T.out L4.out.1).1 (RG.out d1 d2 T.out L4.out.1).2).mono ?_
            rintro e7 w3 ⟨rfl, d3, hd5, hd6⟩
            replace hd5 := Lib.hid hd5
            have R4 := Lib.hid hd6
            clear hd6
            go_wp2_with fail
            go_end0
            exact ⟨rfl, d3, hd5.out, DN.out d1 d2 d3 T.out L4.out R4.out⟩
          · clear hlt
            have f1 : ((x : Int)) < (m : Int) := by omega
            have f2 : ((m : Int)) < (c : Int) + (m : Int) - (x : Int) := by omega
            have f3 : ((a : Int)) < (x : Int) := by omega
            have f4 : ((x : Int)) < (c : Int) := by omega
            have f5 : ((c : Int)) < (c : Int) + (m : Int) - (x : Int) := by omega
            have f6 : ¬ ((c : Int) + (m : Int) - (x : Int)) < (b : Int) := by omega
            go_wp2_with fail
            refine (CT.out x m (c + m - x) _ _ _ _ rfl rfl (by omega) (by omega) (by omega) (by omega) S1.out.1).mono ?_
            rintro e9 w1 ⟨rfl, d1, hd1, hd2⟩
            have T := Lib.hid (TT.out d1 (.inr hd2))
            replace hd1 := Lib.hid hd1
            clear hd2
            go_wp2_with fail
            refine (HI.out a x c _ _ _ d1 _ rfl rfl rfl (by omega) (T.out.size.trans HS.out) hd1.out (by omega) (by omega) (by omega) T.out.r1 (EC.out ▸ T.out.r2)).mono ?_
            rintro e8 w2 ⟨rfl, d2, hd3, hd4⟩
            replace hd3 := Lib.hid hd3
            have L4 := Lib.hid hd4
            clear hd4
            go_wp2_with fail
            go_end0
            have hR := RG.out d1 d2 T.out L4.out.1
            exact ⟨rfl, d2, hd3.out, DN.out d1 d2 d2 T.out L4.out ⟨Mix.refl _ _ _, by
              have e : c + m - x = b := by omega
              rw [e] at hR; exact hR.1⟩⟩
        · clear hlt
          have f1 : ((x : Int)) < (m : Int) := by omega
          have f2 : ((m : Int)) < (c : Int) + (m : Int) - (x : Int) := by omega
          have f3 : ¬ ((a : Int)) < (x : Int) := by omega
          have f5 : ((c : Int)) < (c : Int) + (m : Int) - (x : Int) := by omega
          have f6 : ¬ ((c : Int) + (m : Int) - (x : Int)) < (b : Int) := by omega
          go_wp2_with fail
          refine (CT.out x m (c + m - x) _ _ _ _ rfl rfl (by omega) (by omega) (by omega) (by omega) S1.out.1).mono ?_
          rintro e9 w1 ⟨rfl, d1, hd1, hd2⟩
          have T := Lib.hid (TT.out d1 (.inr hd2))
          replace hd1 := Lib.hid hd1
          clear hd2
          go_wp2_with fail
          go_end0
          have hR := RG.out d1 d1 T.out (EC.out ▸ T.out.left (by omega) : Mix ky2 a c d1.toList d1.toList ∧ Rise ky2 (seg d1.toList a c)).1
          exact ⟨rfl, d1, hd1.out, DN.out d1 d1 d1 T.out (EC.out ▸ T.out.left (by omega) : Mix ky2 a c d1.toList d1.toList ∧ Rise ky2 (seg d1.toList a c)) ⟨Mix.refl _ _ _, by
            have e : c + m - x = b := by omega
            rw [e] at hR; exact hR.1⟩⟩
      · rcases Nat.lt_or_ge (c + m - b) x with k3 | k3
        · clear hlt
          have f1 : ((x : Int)) < (m : Int) := by omega
          have f2 : ¬ ((m : Int)) < (c : Int) + (m : Int) - (x : Int) := by omega
          have f3 : ((a : Int)) < (x : Int) := by omega
          have f4 : ¬ ((x : Int)) < (c : Int) := by omega
          have f5 : ((c : Int)) < (c : Int) + (m : Int) - (x : Int) := by omega
          have f6 : ((c : Int) + (m : Int) - (x : Int)) < (b : Int) := by omega
          go_wp2_with fail
          refine (HI.out c (c + m - x) b _ _ _ d _ rfl (by omega) rfl (by omega) ((EC.out ▸ (TT.out d (.inl ⟨rfl, by omega⟩)).left (by omega) : Mix ky2 a c d.toList d.toList ∧ Rise ky2 (seg d.toList a c)).1.size.trans ((TT.out d (.inl ⟨rfl, by omega⟩)).size.trans HS.out)) S1.out.1 (by omega) (by omega) hb (RG.out d d (TT.out d (.inl ⟨rfl, by omega⟩)) (EC.out ▸ (TT.out d (.inl ⟨rfl, by omega⟩)).left (by omega) : Mix ky2 a c d.toList d.toList ∧ Rise ky2 (seg d.toList a c)).1).1 (RG.out d d (TT.out d (.inl ⟨rfl, by omega⟩)) (EC.out ▸ (TT.out d (.inl ⟨rfl, by omega⟩)).left (by omega) : Mix ky2 a c d.toList d.toList ∧ Rise ky2 (seg d.toList a c)).1).2).mono ?_
          rintro e7 w3 ⟨rfl, d3, hd5, hd6⟩
          replace hd5 := Lib.hid hd5
          have R4 := Lib.hid hd6
          clear hd6
          go_wp2_with fail
          go_end0
          exact ⟨rfl, d3, hd5.out, DN.out d d d3 (TT.out d (.inl ⟨rfl, by omega⟩)) (EC.out ▸ (TT.out d (.inl ⟨rfl, by omega⟩)).left (by omega) : Mix ky2 a c d.toList d.toList ∧ Rise ky2 (seg d.toList a c)) R4.out⟩
        · clear hlt
          have f1 : ((x : Int)) < (m : Int) := by omega
          have f2 : ¬ ((m : Int)) < (c : Int) + (m : Int) - (x : Int) := by omega
          have f3 : ((a : Int)) < (x : Int) := by omega
          have f4 : ¬ ((x : Int)) < (c : Int) := by omega
          have f5 : ((c : Int)) < (c : Int) + (m : Int) - (x : Int) := by omega
          have f6 : ¬ ((c : Int) + (m : Int) - (x : Int)) < (b : Int) := by omega
          go_wp2_with fail
          go_end0
          have hR := RG.out d d (TT.out d (.inl ⟨rfl, by omega⟩)) (EC.out ▸ (TT.out d (.inl ⟨rfl, by omega⟩)).left (by omega) : Mix ky2 a c d.toList d.toList ∧ Rise ky2 (seg d.toList a c)).1
          exact ⟨rfl, d, S1.out.1, DN.out d d d (TT.out d (.inl ⟨rfl, by omega⟩)) (EC.out ▸ (TT.out d (.inl ⟨rfl, by omega⟩)).left (by omega) : Mix ky2 a c d.toList d.toList ∧ Rise ky2 (seg d.toList a c)) ⟨Mix.refl _ _ _, by
            have e : c + m - x = b := by omega
            rw [e] at hR; exact hR.1⟩⟩
set_option maxHeartbeats 4000000 in
set_option maxRecDepth 1000000 in
theorem nSymD (k : Nat) (hk : k = 2) (blk off cap z N : Nat) (d0 : Array Pt) (w0 : World) (R : RowK encPn k w0 blk off d0) (hz : d0.size = z) (hsz : z < 4611686018427387904) (IH : SymN k w0 blk off cap z N)
    (a m b : Nat) (d : Array Pt) (w : World) (hN : b - a ≤ N + 1) (hs : d.size = z) (S : SWK encPn k w0 blk off d w) (ham : a < m) (hmb : m < b) (hb : b ≤ z) (hA : Rise ky2 (seg d.toList a m)) (hB : Rise ky2 (seg d.toList m b)) (h1 : m ≠ a + 1) (h2 : b ≠ m + 1) (h3 : ¬ (a + b) / 2 < m) :
    Calls Tryz.prog 179 #[.slice (some ⟨blk, off, none⟩) z cap, .int .i64 a, .int .i64 m, .int .i64 b, clsFn] w (SymO k w0 blk off a b d) := by
  have S0 := Lib.hid S
  have HS := Lib.hid hs
  have HZ := Lib.hid hz
  have HI := Lib.hid IH
  have HA := Lib.hid hA
  have HB := Lib.hid hB
  have HR := Lib.hid R
  have HK := Lib.hid hk
  have zE : ∀ w, (Go.sizeOf 78).run Tryz.prog w = .ok k w := fun w => by rw [hk]; exact Tryz.sizeOf78 w
  have eg := enters_cls
  have mixed : Tryz.prog.follows Departure.mixedOrders = true := by kernel_rfl
  clear S hs hz IH hA hB R hk
  go_enter Tryz.func179, Tryz.ntmps179
  obtain ⟨c, hc⟩ : ∃ c, c = (a + b) / 2 := ⟨_, rfl⟩
  have EM : ((a : Int) + (b : Int)) / 2 = (c : Int) := by omega
  have hq : ((m : Int) - (a : Int) == 1) = false := by simp only [beq_eq_false_iff_ne, ne_eq]; omega
  have hc2 : ((b : Int) - (m : Int) == 1) = false := by simp only [beq_eq_false_iff_ne, ne_eq]; omega
  have hm3 : ¬ (c : Int) < (m : Int) := by omega
  have hac : a < c := by omega
  have hcb : c < b := by omega
  have hcm : m ≤ c := by omega
  have hab2 : a + b ≤ 2 * c + 1 := by omega
  have hab3 : 2 * c ≤ a + b := by omega
  clear h1 h2 h3 hc
  go_wp2_with fail
  clear EM hq hc2 hm3
  have CT : Hid (∀ (s q e : Nat) (sz mz ez : Int) (W : World), sz = (s : Int) → mz = (q : Int) → ez = (e : Int) → s < q → q < e → e ≤ z → SWK encPn k w0 blk off d W →
      Calls Tryz.prog 205 #[.slice (some ⟨blk, off, none⟩) z cap, .int .i64 sz, .int .i64 mz, .int .i64 ez, clsFn] W fun e9 w' => e9 = .returned (.tuple #[]) ∧ ∃ d', SWK encPn k w0 blk off d' w' ∧ RotI s q e d d') :=
    Lib.hid fun s q e sz mz ez W e1 e2 e3 h1 h2 h3 h4 => by
      subst e1 e2 e3
      have := nRot' k HK.out blk off cap s q e d0 d w0 W clsFn HR.out (HS.out.trans HZ.out.symm) h4 h1 h2 (by rw [HS.out]; exact h3) (by rw [HS.out]; exact hsz)
      rwa [HS.out] at this
  go_loopg [20, 21] (m - a) (fun kx s t wr => ∃ (x y : Nat), s = .int .i64 x ∧ t = .int .i64 y ∧ a ≤ x ∧ x ≤ y ∧ y ≤ m ∧ y - x ≤ kx ∧ Hid (SWK encPn k w0 blk off d wr ∧ (a < x → ky2 d[x - 1]! ≤ ky2 d[c + m - 1 - (x - 1)]!) ∧ (y < m → ky2 d[c + m - 1 - y]! < ky2 d[y]!)))
  case atStart => exact ⟨a, m, by first | rfl | (congr 1; omega), by first | rfl | (congr 1; omega), Nat.le_refl _, by omega, Nat.le_refl _, Nat.le_refl _, Lib.hid ⟨S0.out, fun h => by omega, fun h => by omega⟩⟩
  case round =>
    clear S0
    obtain ⟨x, y, rfl, rfl, hx, hxy, hy, hkx, S1⟩ := hrel
    by_cases hlt : x < y
    · have hih : x ≤ (x + y) / 2 := by omega
      have hhj : (x + y) / 2 < y := by omega
      have hltz : (x : Int) < (y : Int) := by omega
      have eH : (((x : Int) + (y : Int)) / 2).toNat = (x + y) / 2 := by omega
      have pH : (0 : Int) ≤ ((x : Int) + (y : Int)) / 2 := by omega
      have bH : ((x : Int) + (y : Int)) / 2 < (z : Int) := by omega
      have rH : IntKind.i64.wrap (((x : Int) + (y : Int)) / 2) = ((x : Int) + (y : Int)) / 2 := by rw [IntKind.wrap_i64]; omega
      obtain ⟨pz, hpz⟩ : ∃ pz : Int, pz = (c : Int) + (m : Int) - 1 - ((x : Int) + (y : Int)) / 2 := ⟨_, rfl⟩
      have eP : (pz).toNat = c + m - 1 - (x + y) / 2 := by omega
      have pP : (0 : Int) ≤ pz := by omega
      have bP : pz < (z : Int) := by omega
      have rP : IntKind.i64.wrap (pz) = pz := by rw [IntKind.wrap_i64]; omega
      have qz := hpz.symm
      clear hpz
      have lX : ∀ n os, Sem.run Tryz.prog (loadCellsFrom ⟨blk, off + (c + m - 1 - (x + y) / 2) * k, none⟩ 0 k #[]) (grow (wr.drewN n) os) = .ok (encPn d[(c + m - 1 - (x + y) / 2)]!).toArray (grow (wr.drewN n) os) := fun n os => S1.out.1.ld HR.out (HS.out.trans HZ.out.symm) Tryz.prog (c + m - 1 - (x + y) / 2) (by rw [HS.out]; omega) n os
      have lY : ∀ n os, Sem.run Tryz.prog (loadCellsFrom ⟨blk, off + ((x + y) / 2) * k, none⟩ 0 k #[]) (grow (wr.drewN n) os) = .ok (encPn d[((x + y) / 2)]!).toArray (grow (wr.drewN n) os) := fun n os => S1.out.1.ld HR.out (HS.out.trans HZ.out.symm) Tryz.prog ((x + y) / 2) (by rw [HS.out]; omega) n os
      have hc : ∀ n os, Calls Tryz.prog 122 #[.agg (encPn d[(c + m - 1 - (x + y) / 2)]!).toArray, .agg (encPn d[((x + y) / 2)]!).toArray] (grow (wr.drewN n) os) fun e w' => e = .returned (.int .i64 (cmpN d[(c + m - 1 - (x + y) / 2)]! d[((x + y) / 2)]!)) ∧ ∃ q os', w' = grow ((grow (wr.drewN n) os).drewN q) os' := fun n os => nCls _ _ _
      have hr := cmpN_neg d[(c + m - 1 - (x + y) / 2)]! d[((x + y) / 2)]!
      have HG : Hid (∀ n os, SWK encPn k w0 blk off d (grow (wr.drewN n) os)) := Lib.hid fun n os => S1.out.1.grown n os
      generalize cmpN d[(c + m - 1 - (x + y) / 2)]! d[((x + y) / 2)]! = r at hc hr
      generalize encPn d[(c + m - 1 - (x + y) / 2)]! = cX at lX hc
      generalize encPn d[((x + y) / 2)]! = cY at lY hc
      have HRR := Lib.hid hr
      clear hr
      go_wp2_with fail
      go_quiet_grown (first | (go_at_fn 122; refine Calls.grown_of (hc _ _)))
      clear lX lY hc
      by_cases hr : r < 0
      · have hd := decide_eq_true hr
        go_wp2_with fail
        · rename_i h9; rw [hd] at h9; cases h9
        go_wp2
        go_roundg ((x + y) / 2 - x)
        case measure => omega
        case rel => exact ⟨x, (x + y) / 2, rfl, by first | rfl | (congr 1; omega), hx, hih, by omega, Nat.le_refl _, Lib.hid ⟨HG.out nq osq, S1.out.2.1, fun _ => HRR.out.1 hr⟩⟩
      · have hd := decide_eq_false hr
        go_wp2_with fail
        rotate_left 1
        · rename_i h9; rw [hd] at h9; cases h9
        go_wp2
        go_roundg (y - ((x + y) / 2 + 1))
        case measure => omega
        case rel =>
          have hx9 : ¬ ky2 d[c + m - 1 - (x + y) / 2]! < ky2 d[(x + y) / 2]! := fun h9 => by have := HRR.out.2 h9; omega
          exact ⟨(x + y) / 2 + 1, y, by first | rfl | (congr 1; omega), rfl, by omega, by omega, hy, Nat.le_refl _, Lib.hid ⟨HG.out nq osq, fun _ => by rw [Nat.add_sub_cancel]; omega, S1.out.2.2⟩⟩
    · obtain rfl : x = y := by omega
      have hbd : b ≤ d.size := by rw [HS.out]; exact hb
      have CU : Cut ky2 d a m b x (c + m - 1 + 1 - x) := Cut.of (lo := a) (hi := m) (Nat.le_of_lt hmb) hbd HA.out HB.out (by omega) hx hy (by omega) (by omega) (by omega) (by omega) (by omega) S1.out.2.1 S1.out.2.2
      rw [show c + m - 1 + 1 - x = c + m - x by omega] at CU
      have TT : Hid (∀ d1 : Array Pt, (d1 = d ∧ (x = m ∨ c + m - x = m)) ∨ RotI x m (c + m - x) d d1 → Turned ky2 d d1 a x m (c + m - x) b) := Lib.hid fun d1 h => Turned.of (by omega) (by omega) (by omega) (by omega) hbd HA.out HB.out h
      have EC : Hid (x + (c + m - x - m) = c) := Lib.hid (by omega)
      have DN : Hid (∀ d1 d2 d3 : Array Pt, Turned ky2 d d1 a x m (c + m - x) b → (Mix ky2 a c d1.toList d2.toList ∧ Rise ky2 (seg d2.toList a c)) → (Mix ky2 c b d2.toList d3.toList ∧ Rise ky2 (seg d3.toList c b)) → Mix ky2 a b d.toList d3.toList ∧ Rise ky2 (seg d3.toList a b)) :=
        Lib.hid fun d1 d2 d3 t h2 h3 => Turned.done (s := x) (m := m) (e := c + m - x) (by omega) (by omega) (by omega) (by omega) hbd HA.out HB.out CU t (by rw [EC.out]; exact h2) (by rw [EC.out]; exact h3)
      have RG : Hid (∀ d1 d2 : Array Pt, Turned ky2 d d1 a x m (c + m - x) b → Mix ky2 a c d1.toList d2.toList → Rise ky2 (seg d2.toList c (c + m - x)) ∧ Rise ky2 (seg d2.toList (c + m - x) b)) :=
        Lib.hid fun d1 d2 t h => by have := t.right (d2 := d2) (by rw [EC.out]; exact h) (by omega); rwa [EC.out] at this
      clear CU hbd hkx
      rcases Nat.lt_or_ge x m with k1 | k1
      · rcases Nat.lt_or_ge a x with k2 | k2
        · rcases Nat.lt_or_ge (c + m - x) b with k3 | k3
          · clear hlt
            have f1 : ((x : Int)) < (m : Int) := by omega
            have f2 : ((m : Int)) < (c : Int) + (m : Int) - (x : Int) := by omega
            have f3 : ((a : Int)) < (x : Int) := by omega
            have f4 : ((x : Int)) < (c : Int) := by omega
            have f5 : ((c : Int)) < (c : Int) + (m : Int) - (x : Int) := by omega
            have f6 : ((c : Int) + (m : Int) - (x : Int)) < (b : Int) := by omega
            go_wp2_with fail
            refine (CT.out x m (c + m - x) _ _ _ _ rfl rfl (by omega) (by omega) (by omega) (by omega) S1.out.1).mono ?_
            rintro e9 w1 ⟨rfl, d1, hd1, hd2⟩
            have T := Lib.hid (TT.out d1 (.inr hd2))
            replace hd1 := Lib.hid hd1
            clear hd2
            go_wp2_with fail
            refine (HI.out a x c _ _ _ d1 _ rfl rfl rfl (by omega) (T.out.size.trans HS.out) hd1.out (by omega) (by omega) (by omega) T.out.r1 (EC.out ▸ T.out.r2)).mono ?_
            rintro e8 w2 ⟨rfl, d2, hd3, hd4⟩
            replace hd3 := Lib.hid hd3
            have L4 := Lib.hid hd4
            clear hd4
            go_wp2_with fail
            refine (HI.out c (c + m - x) b _ _ _ d2 _ rfl (by omega) rfl (by omega) (L4.out.1.size.trans (T.out.size.trans HS.out)) hd3.out (by omega) (by omega) hb (RG.out d1 d2 T.out L4.out.1).1 (RG.out d1 d2 T.out L4.out.1).2).mono ?_
            rintro e7 w3 ⟨rfl, d3, hd5, hd6⟩
            replace hd5 := Lib.hid hd5
            have R4 := Lib.hid hd6
            clear hd6
            go_wp2_with fail
            go_end0
            exact ⟨rfl, d3, hd5.out, DN.out d1 d2 d3 T.out L4.out R4.out⟩
          · exfalso; omega
        · rcases Nat.lt_or_ge (c + m - x) b with k3 | k3
          · clear hlt
            have f1 : ((x : Int)) < (m : Int) := by omega
            have f2 : ((m : Int)) < (c : Int) + (m : Int) - (x : Int) := by omega
            have f3 : ¬ ((a : Int)) < (x : Int) := by omega
            have f5 : ((c : Int)) < (c : Int) + (m : Int) - (x : Int) := by omega
            have f6 : ((c : Int) + (m : Int) - (x : Int)) < (b : Int) := by omega
            go_wp2_with fail
            refine (CT.out x m (c + m - x) _ _ _ _ rfl rfl (by omega) (by omega) (by omega) (by omega) S1.out.1).mono ?_
            rintro e9 w1 ⟨rfl, d1, hd1, hd2⟩
            have T := Lib.hid (TT.out d1 (.inr hd2))
            replace hd1 := Lib.hid hd1
            clear hd2
            go_wp2_with fail
            refine (HI.out c (c + m - x) b _ _ _ d1 _ rfl (by omega) rfl (by omega) ((EC.out ▸ T.out.left (by omega) : Mix ky2 a c d1.toList d1.toList ∧ Rise ky2 (seg d1.toList a c)).1.size.trans (T.out.size.trans HS.out)) hd1.out (by omega) (by omega) hb (RG.out d1 d1 T.out (EC.out ▸ T.out.left (by omega) : Mix ky2 a c d1.toList d1.toList ∧ Rise ky2 (seg d1.toList a c)).1).1 (RG.out d1 d1 T.out (EC.out ▸ T.out.left (by omega) : Mix ky2 a c d1.toList d1.toList ∧ Rise ky2 (seg d1.toList a c)).1).2).mono ?_
            rintro e7 w3 ⟨rfl, d3, hd5, hd6⟩
            replace hd5 := Lib.hid hd5
            have R4 := Lib.hid hd6
            clear hd6
            go_wp2_with fail
            go_end0
            exact ⟨rfl, d3, hd5.out, DN.out d1 d1 d3 T.out (EC.out ▸ T.out.left (by omega) : Mix ky2 a c d1.toList d1.toList ∧ Rise ky2 (seg d1.toList a c)) R4.out⟩
          · clear hlt
            have f1 : ((x : Int)) < (m : Int) := by omega
            have f2 : ((m : Int)) < (c : Int) + (m : Int) - (x : Int) := by omega
            have f3 : ¬ ((a : Int)) < (x : Int) := by omega
            have f5 : ((c : Int)) < (c : Int) + (m : Int) - (x : Int) := by omega
            have f6 : ¬ ((c : Int) + (m : Int) - (x : Int)) < (b : Int) := by omega
            go_wp2_with fail
            refine (CT.out x m (c + m - x) _ _ _ _ rfl rfl (by omega) (by omega) (by omega) (by omega) S1.out.1).mono ?_
            rintro e9 w1 ⟨rfl, d1, hd1, hd2⟩
            have T := Lib.hid (TT.out d1 (.inr hd2))
            replace hd1 := Lib.hid hd1
            clear hd2
            go_wp2_with fail
            go_end0
            have hR := RG.out d1 d1 T.out (EC.out ▸ T.out.left (by omega) : Mix ky2 a c d1.toList d1.toList ∧ Rise ky2 (seg d1.toList a c)).1
            exact ⟨rfl, d1, hd1.out, DN.out d1 d1 d1 T.out (EC.out ▸ T.out.left (by omega) : Mix ky2 a c d1.toList d1.toList ∧ Rise ky2 (seg d1.toList a c)) ⟨Mix.refl _ _ _, by
              first
                | (have e : c + m - x = c := by omega
                   rw [e] at hR; exact hR.2)
                | (have e : c + m - x = b := by omega
                   rw [e] at hR; exact hR.1)⟩⟩
      · rcases Nat.lt_or_ge x c with k2 | k2
        · clear hlt
          have f1 : ¬ ((x : Int)) < (m : Int) := by omega
          have f3 : ((a : Int)) < (x : Int) := by omega
          have f4 : ((x : Int)) < (c : Int) := by omega
          have f5 : ¬ ((c : Int)) < (c : Int) + (m : Int) - (x : Int) := by omega
          go_wp2_with fail
          refine (HI.out a x c _ _ _ d _ rfl rfl rfl (by omega) ((TT.out d (.inl ⟨rfl, by omega⟩)).size.trans HS.out) S1.out.1 (by omega) (by omega) (by omega) (TT.out d (.inl ⟨rfl, by omega⟩)).r1 (EC.out ▸ (TT.out d (.inl ⟨rfl, by omega⟩)).r2)).mono ?_
          rintro e8 w2 ⟨rfl, d2, hd3, hd4⟩
          replace hd3 := Lib.hid hd3
          have L4 := Lib.hid hd4
          clear hd4
          go_wp2_with fail
          go_end0
          have hR := RG.out d d2 (TT.out d (.inl ⟨rfl, by omega⟩)) L4.out.1
          exact ⟨rfl, d2, hd3.out, DN.out d d2 d2 (TT.out d (.inl ⟨rfl, by omega⟩)) L4.out ⟨Mix.refl _ _ _, by
            first
              | (have e : c + m - x = c := by omega
                 rw [e] at hR; exact hR.2)
              | (have e : c + m - x = b := by omega
                 rw [e] at hR; exact hR.1)⟩⟩
        · clear hlt
          have f1 : ¬ ((x : Int)) < (m : Int) := by omega
          have f3 : ((a : Int)) < (x : Int) := by omega
          have f4 : ¬ ((x : Int)) < (c : Int) := by omega
          have f5 : ¬ ((c : Int)) < (c : Int) + (m : Int) - (x : Int) := by omega
          go_wp2_with fail
          go_end0
          have hR := RG.out d d (TT.out d (.inl ⟨rfl, by omega⟩)) (EC.out ▸ (TT.out d (.inl ⟨rfl, by omega⟩)).left (by omega) : Mix ky2 a c d.toList d.toList ∧ Rise ky2 (seg d.toList a c)).1
          exact ⟨rfl, d, S1.out.1, DN.out d d d (TT.out d (.inl ⟨rfl, by omega⟩)) (EC.out ▸ (TT.out d (.inl ⟨rfl, by omega⟩)).left (by omega) : Mix ky2 a c d.toList d.toList ∧ Rise ky2 (seg d.toList a c)) ⟨Mix.refl _ _ _, by
            first
              | (have e : c + m - x = c := by omega
                 rw [e] at hR; exact hR.2)
              | (have e : c + m - x = b := by omega
                 rw [e] at hR; exact hR.1)⟩⟩
theorem nSymN (k : Nat) (hk : k = 2) (blk off cap z : Nat) (d0 : Array Pt) (w0 : World) (R : RowK encPn k w0 blk off d0) (hz : d0.size = z) (hsz : z < 4611686018427387904) : ∀ N, SymN k w0 blk off cap z N
  | 0 => fun a m b az mz bz d w _ _ _ hN _ _ ham hmb => by omega
  | N + 1 => fun a m b az mz bz d w e1 e2 e3 hN hs S ham hmb hb hA hB => by
    subst e1 e2 e3
    have IH := nSymN k hk blk off cap z d0 w0 R hz hsz N
    by_cases h1 : m = a + 1
    · exact nSymA k hk blk off cap z N d0 w0 R hz hsz IH a m b d w hN hs S ham hmb hb hA hB h1
    · by_cases h2 : b = m + 1
      · exact nSymB k hk blk off cap z N d0 w0 R hz hsz IH a m b d w hN hs S ham hmb hb hA hB h1 h2
      · by_cases h3 : (a + b) / 2 < m
        · exact nSymC k hk blk off cap z N d0 w0 R hz hsz IH a m b d w hN hs S ham hmb hb hA hB h1 h2 h3
        · exact nSymD k hk blk off cap z N d0 w0 R hz hsz IH a m b d w hN hs S ham hmb hb hA hB h1 h2 h3
end Go.Proofs.YtcfhblbmpbfoaaaGreatDoor
