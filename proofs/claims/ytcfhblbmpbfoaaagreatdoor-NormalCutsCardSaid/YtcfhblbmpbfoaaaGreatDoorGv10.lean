/- Parts of the proof of what the last text says. -/
import Derived.Test.YtcfhblbmpbfoaaaGreatDoorGv4
namespace Go.Proofs.YtcfhblbmpbfoaaaGreatDoor
open Go Go.RowKit Go.Kt Go.Kt.Os Go.Sort
theorem peq_stop (a i j : Nat) (dk : Array Int) {i2 j2 : Nat} (hi : i2 = scanUp (fun x => !ltInt dk[a]! x) dk j i) (hj : j2 = scanDown (fun x => ltInt dk[a]! x) dk i2 j) (h : j2 < i2) : partEqLoop ltInt a i j dk = (i2, dk) := by
  rw [partEqLoop_eq, ← hi, ← hj, if_pos h]
theorem peq_go (a i j : Nat) (dk : Array Int) {i2 j2 : Nat} (hi : i2 = scanUp (fun x => !ltInt dk[a]! x) dk j i) (hj : j2 = scanDown (fun x => ltInt dk[a]! x) dk i2 j) (h : ¬ j2 < i2) :
    partEqLoop ltInt a i j dk = partEqLoop ltInt a (i2 + 1) (j2 - 1) (swp dk i2 j2) := by
  rw [partEqLoop_eq, ← hi, ← hj, if_neg h]
set_option maxRecDepth 100000 in
set_option maxHeartbeats 2000000 in
theorem oPeq (blk off cap a b pv n : Nat) (d : Array Int) (w : World) (hn : d.size = n) (hH : Holds E32 w blk off d) (hap : a ≤ pv) (hpb : pv < b) (hb : b ≤ n) (hsz : n < 4611686018427387904) :
    Calls Tryz.prog 200 #[.slice (some ⟨blk, off, none⟩) n cap, .int .i64 a, .int .i64 b, .int .i64 pv] w fun e w' =>
      e = .returned (.int .i64 (partitionEqual ltInt d a b pv).1) ∧ SW w blk off (partitionEqual ltInt d a b pv).2 w' := by
  obtain ⟨G0, hG⟩ : ∃ G : Nat → Int, ∀ t, G t = d[t]! := ⟨fun t => d[t]!, fun _ => rfl⟩
  have hcw := (SW.refl hH).cells hG hn
  have hfw := (SW.refl hH).thaw hn
  have HS1 := Lib.hid ((SW.refl hH).swapq hG (i := a) (j := pv) (by omega) (by omega) 0 1)
  obtain ⟨v0, hy0⟩ := cell?_setCell_some (w := w) (p := ⟨blk, off + a, none⟩) (x := .int .i32 (G0 pv)) (q := ⟨blk, off + pv, none⟩) (hcw pv (by omega))
  have HN := Lib.hid hn
  clear hG hH hn
  go_enter Tryz.func200, Tryz.ntmps200
  go_wp2
  go_region
  go_wp2_with fail
  replace HS1 : Hid (SW w blk off (swp d a pv) ((w.setCell ⟨blk, off + a, none⟩ (.int .i32 (G0 pv))).setCell ⟨blk, off + pv, none⟩ (.int .i32 (G0 a))).drew) := HS1
  generalize ((w.setCell ⟨blk, off + a, none⟩ (.int .i32 (G0 pv))).setCell ⟨blk, off + pv, none⟩ (.int .i32 (G0 a))).drew = w0 at HS1 ⊢
  clear hcw hfw v0 hy0
  have EP := Lib.hid (show partitionEqual ltInt d a b pv = partEqLoop ltInt a (a + 1) (b - 1) (swp d a pv) from rfl)
  go_wp2
  go_loopw [9, 10] (fun vi vj wr => ∃ (i j : Nat) (dk : Array Int), vi = .int .i64 i ∧ vj = .int .i64 j ∧ a < i ∧ i ≤ j + 1 ∧ j < b ∧ Hid (dk.size = n ∧ SW w blk off dk wr ∧ partEqLoop ltInt a i j dk = partEqLoop ltInt a (a + 1) (b - 1) (swp d a pv))) (fun vi vj _ => (RowKit.intOf vj).toNat + 1 - (RowKit.intOf vi).toNat)
  case atStart => exact ⟨a + 1, b - 1, swp d a pv, by go_num, by go_num, by omega, by omega, by omega, Lib.hid ⟨by rw [size_swp]; exact HN.out, HS1.out, rfl⟩⟩
  case round =>
    obtain ⟨i, j, dk, rfl, rfl, hai, hij, hjb, hh⟩ := hrel
    clear HS1
    obtain ⟨G, hG⟩ : ∃ G : Nat → Int, ∀ t, G t = dk[t]! := ⟨fun t => dk[t]!, fun _ => rfl⟩
    have HG := Lib.hid hG
    have HD := Lib.hid hh.out.1
    have HS0 := Lib.hid hh.out.2.1
    have HE := Lib.hid hh.out.2.2
    clear hG hh
    go_wp2
    go_loopw [9] (fun vi w1 => ∃ i' : Nat, vi = .int .i64 i' ∧ i ≤ i' ∧ i' ≤ j + 1 ∧ Hid (SW w blk off dk w1 ∧ scanUp (fun x => !ltInt dk[a]! x) dk j i' = scanUp (fun x => !ltInt dk[a]! x) dk j i)) (fun vi _ => j + 1 - (RowKit.intOf vi).toNat)
    case atStart => exact ⟨i, by go_num, Nat.le_refl _, hij, Lib.hid ⟨HS0.out, rfl⟩⟩
    case round =>
      obtain ⟨i', rfl, hii, hij', hs1⟩ := hrel
      have hcw := hs1.out.1.cells HG.out HD.out
      clear HS0
      by_cases hle : i' ≤ j
      · go_wp2_with fail
        go_big_quiet (first | (go_at_call 175; refine Calls.quiet_of_same (oLess _ _ _)))
        go_wp2_with fail
        · have ht : (!ltInt (G a) (G i')) = true := by assumption
          go_wp2
          go_roundw
          case rel => exact ⟨i' + 1, by go_num, by omega, by omega, Lib.hid ⟨hs1.out.1.drewN nq, (scanUp_go (fun x => !ltInt dk[a]! x) dk j i' hle (by show (!ltInt dk[a]! dk[i']!) = true; rw [← HG.out, ← HG.out]; exact ht)).symm.trans hs1.out.2⟩⟩
          case measure => simp [RowKit.intOf]; omega
        · have ht : (!ltInt (G a) (G i')) = false := by assumption
          have hi2 : Hid (i' = scanUp (fun x => !ltInt dk[a]! x) dk j i) := Lib.hid ((scanUp_end (fun x => !ltInt dk[a]! x) dk j i' (.inr (by show (!ltInt dk[a]! dk[i']!) = false; rw [← HG.out, ← HG.out]; exact ht))).symm.trans hs1.out.2)
          have HT := Lib.hid ht
          have HS := Lib.hid (hs1.out.1.drewN nq)
          clear ht hcw hs1
          generalize wr.drewN nq = w3 at HS ⊢
          clear nq
          go_loopw [10] (fun vj w2 => ∃ j' : Nat, vj = .int .i64 j' ∧ j' ≤ j ∧ i' ≤ j' + 1 ∧ Hid (SW w blk off dk w2 ∧ scanDown (fun x => ltInt dk[a]! x) dk i' j' = scanDown (fun x => ltInt dk[a]! x) dk i' j)) (fun vj _ => (RowKit.intOf vj).toNat)
          case atStart => exact ⟨j, by go_num, Nat.le_refl _, hij', Lib.hid ⟨HS.out, rfl⟩⟩
          case round =>
            obtain ⟨j', rfl, hjj, hij2, hs2⟩ := hrel
            have hcw := hs2.out.1.cells HG.out HD.out
            clear HS
            by_cases hle2 : i' ≤ j'
            · go_wp2_with fail
              go_big_quiet (first | (go_at_call 175; refine Calls.quiet_of_same (oLess _ _ _)))
              go_wp2_with fail
              · have ht : ltInt (G a) (G j') = true := by assumption
                go_wp2
                go_roundw
                case rel => exact ⟨j' - 1, by go_num, by omega, by omega, Lib.hid ⟨hs2.out.1.drewN nq, (scanDown_go (fun x => ltInt dk[a]! x) dk i' j' hle2 (by omega) (by show ltInt dk[a]! dk[j']! = true; rw [← HG.out, ← HG.out]; exact ht)).symm.trans hs2.out.2⟩⟩
                case measure => simp [RowKit.intOf]; omega
              · have ht : ltInt (G a) (G j') = false := by assumption
                have hj2 : Hid (j' = scanDown (fun x => ltInt dk[a]! x) dk i' j) := Lib.hid ((scanDown_end (fun x => ltInt dk[a]! x) dk i' j' (.inr (by show ltInt dk[a]! dk[j']! = false; rw [← HG.out, ← HG.out]; exact ht))).symm.trans hs2.out.2)
                have hlt3 : i' < j' := by
                  rcases Nat.lt_or_ge i' j' with h | h
                  · exact h
                  · have e : i' = j' := by omega
                    have := HT.out
                    rw [e] at this
                    cases hq : ltInt (G a) (G j') <;> cases hp : ltInt (G j') (G a) <;> simp [hq] at this ht
                have HS := Lib.hid (hs2.out.1.drewN nq)
                clear ht hcw hs2 HT
                generalize wr.drewN nq = w4 at HS ⊢
                clear nq
                have hcw := HS.out.cells HG.out HD.out
                have hfw := HS.out.thaw HD.out
                obtain ⟨v3, hy3⟩ := cell?_setCell_some (w := w4) (p := ⟨blk, off + i', none⟩) (x := .int .i32 (G j')) (q := ⟨blk, off + j', none⟩) (hcw j' (by omega))
                go_wp2
                go_region
                all_goals go_wp2
                all_goals go_roundw
                case rel => exact ⟨i' + 1, j' - 1, swp dk i' j', by go_num, by go_num, by omega, by omega, by omega, Lib.hid ⟨by rw [size_swp]; exact HD.out, HS.out.swapq HG.out (by have := HD.out; omega) (by have := HD.out; omega) 0 1, by rw [← HE.out]; exact (peq_go a i j dk hi2.out hj2.out (by omega)).symm⟩⟩
                case measure => simp [RowKit.intOf]; omega
            · go_wp2_with fail
              go_big_quiet (first | (go_at_call 175; refine Calls.quiet_of_same (oLess _ _ _)))
              go_wp2_with fail
              have hj2 : Hid (j' = scanDown (fun x => ltInt dk[a]! x) dk i' j) := Lib.hid ((scanDown_end (fun x => ltInt dk[a]! x) dk i' j' (.inl hle2)).symm.trans hs2.out.2)
              have HS := Lib.hid (hs2.out.1.drewN nq)
              clear hcw hs2
              generalize wr.drewN nq = w4 at HS ⊢
              clear nq
              go_wp2
              go_ret
              have e := (peq_stop a i j dk hi2.out hj2.out (by omega)).symm.trans HE.out
              rw [EP.out, ← e]
              exact ⟨rfl, HS.out⟩
      · go_wp2_with fail
        go_big_quiet (first | (go_at_call 175; refine Calls.quiet_of_same (oLess _ _ _)))
        go_wp2_with fail
        have hi2 : Hid (i' = scanUp (fun x => !ltInt dk[a]! x) dk j i) := Lib.hid ((scanUp_end (fun x => !ltInt dk[a]! x) dk j i' (.inl hle)).symm.trans hs1.out.2)
        have HS := Lib.hid (hs1.out.1.drewN nq)
        clear hcw hs1
        generalize wr.drewN nq = w3 at HS ⊢
        clear nq
        go_loopw [10] (fun vj w2 => ∃ j' : Nat, vj = .int .i64 j' ∧ j' ≤ j ∧ i' ≤ j' + 1 ∧ Hid (SW w blk off dk w2 ∧ scanDown (fun x => ltInt dk[a]! x) dk i' j' = scanDown (fun x => ltInt dk[a]! x) dk i' j)) (fun vj _ => (RowKit.intOf vj).toNat)
        case atStart => exact ⟨j, by go_num, Nat.le_refl _, hij', Lib.hid ⟨HS.out, rfl⟩⟩
        case round =>
          obtain ⟨j', rfl, hjj, hij2, hs2⟩ := hrel
          have hcw := hs2.out.1.cells HG.out HD.out
          clear HS
          by_cases hle2 : i' ≤ j'
          · exfalso; omega
          · go_wp2_with fail
            go_big_quiet (first | (go_at_call 175; refine Calls.quiet_of_same (oLess _ _ _)))
            go_wp2_with fail
            have hj2 : Hid (j' = scanDown (fun x => ltInt dk[a]! x) dk i' j) := Lib.hid ((scanDown_end (fun x => ltInt dk[a]! x) dk i' j' (.inl hle2)).symm.trans hs2.out.2)
            have HS := Lib.hid (hs2.out.1.drewN nq)
            clear hcw hs2
            generalize wr.drewN nq = w4 at HS ⊢
            clear nq
            go_wp2
            go_ret
            have e := (peq_stop a i j dk hi2.out hj2.out (by omega)).symm.trans HE.out
            rw [EP.out, ← e]
            exact ⟨rfl, HS.out⟩
end Go.Proofs.YtcfhblbmpbfoaaaGreatDoor
namespace Go.Proofs.YtcfhblbmpbfoaaaGreatDoor
open Go Go.RowKit Go.Kt Go.Kt.Os Go.Sort

set_option maxRecDepth 100000 in
set_option maxHeartbeats 1000000 in
theorem oNext (rb : Nat) (x : Int) (w : World) (hc : w.cell? ⟨rb, 0, none⟩ = some (.int .u64 x)) (hf : w.frozen? ⟨rb, 0, none⟩ = false) :
    Calls Tryz.prog 218 #[.pointer (some ⟨rb, 0, none⟩)] w fun e w' => ∃ y : Int, e = .returned (.int .u64 y) ∧ w'.cell? ⟨rb, 0, none⟩ = some (.int .u64 y) ∧ w'.frozen? ⟨rb, 0, none⟩ = false ∧ Keep (fun b => b = rb) w w' := by
  go_enter Tryz.func218, Tryz.ntmps218
  go_wp2
  have K0 := Lib.hid (Keep.refl (fun b => b = rb) w)
  go_region
  go_wp2_with fail
  generalize bits BinOp.xor IntKind.u64 x (IntKind.u64.wrap (x * 8192)) = y1
  have c1 : ((w.setCell ⟨rb, 0, none⟩ (.int .u64 y1)).drew).cell? ⟨rb, 0, none⟩ = some (.int .u64 y1) := World.cell?_setCell_same _ _ _ hc
  have f1 : ((w.setCell ⟨rb, 0, none⟩ (.int .u64 y1)).drew).frozen? ⟨rb, 0, none⟩ = false := (World.frozen?_setCell _ _ _ _).trans hf
  have K1 : Hid (Keep (fun b => b = rb) w (w.setCell ⟨rb, 0, none⟩ (.int .u64 y1)).drew) := Lib.hid ((K0.out.setCell (p := ⟨rb, 0, none⟩) rfl _).drew)
  generalize ((w.setCell ⟨rb, 0, none⟩ (.int .u64 y1)).drew) = w1 at c1 f1 K1 ⊢
  go_region
  go_wp2_with fail
  generalize bits BinOp.xor IntKind.u64 y1 (y1 / 128) = y2
  have c2 : ((w1.setCell ⟨rb, 0, none⟩ (.int .u64 y2)).drew).cell? ⟨rb, 0, none⟩ = some (.int .u64 y2) := World.cell?_setCell_same _ _ _ c1
  have f2 : ((w1.setCell ⟨rb, 0, none⟩ (.int .u64 y2)).drew).frozen? ⟨rb, 0, none⟩ = false := (World.frozen?_setCell _ _ _ _).trans f1
  have K2 : Hid (Keep (fun b => b = rb) w (w1.setCell ⟨rb, 0, none⟩ (.int .u64 y2)).drew) := Lib.hid ((K1.out.setCell (p := ⟨rb, 0, none⟩) rfl _).drew)
  generalize ((w1.setCell ⟨rb, 0, none⟩ (.int .u64 y2)).drew) = w2 at c2 f2 K2 ⊢
  go_region
  go_wp2_with fail
  generalize bits BinOp.xor IntKind.u64 y2 (IntKind.u64.wrap (y2 * 131072)) = y3
  have c3 : ((w2.setCell ⟨rb, 0, none⟩ (.int .u64 y3)).drew).cell? ⟨rb, 0, none⟩ = some (.int .u64 y3) := World.cell?_setCell_same _ _ _ c2
  have f3 : ((w2.setCell ⟨rb, 0, none⟩ (.int .u64 y3)).drew).frozen? ⟨rb, 0, none⟩ = false := (World.frozen?_setCell _ _ _ _).trans f2
  have K3 : Hid (Keep (fun b => b = rb) w (w2.setCell ⟨rb, 0, none⟩ (.int .u64 y3)).drew) := Lib.hid ((K2.out.setCell (p := ⟨rb, 0, none⟩) rfl _).drew)
  generalize ((w2.setCell ⟨rb, 0, none⟩ (.int .u64 y3)).drew) = w3 at c3 f3 K3 ⊢
  go_wp2
  go_ret
  exact ⟨y3, rfl, c3, f3, K3.out⟩

theorem bl_zero : ∀ f, Lib.bitLenAux f 0 = 0
  | 0 => rfl
  | _ + 1 => rfl
theorem bl_aux : ∀ (f x : Nat), x < 2 ^ f → x < 2 ^ Lib.bitLenAux f x ∧ (x ≠ 0 → 2 ^ Lib.bitLenAux f x ≤ 2 * x)
  | 0, x, h => by
    have : x = 0 := by simpa using h
    subst this
    exact ⟨by simp [Lib.bitLenAux], fun e => absurd rfl e⟩
  | f + 1, x, h => by
    by_cases h0 : x = 0
    · subst h0
      rw [bl_zero]
      exact ⟨by decide, fun e => absurd rfl e⟩
    · have hd : x / 2 < 2 ^ f := by rw [Nat.pow_succ] at h; omega
      obtain ⟨i1, i2⟩ := bl_aux f (x / 2) hd
      have e : Lib.bitLenAux (f + 1) x = 1 + Lib.bitLenAux f (x / 2) := by rw [Lib.bitLenAux, if_neg h0]
      rw [e, Nat.add_comm, Nat.pow_succ]
      refine ⟨by omega, fun _ => ?_⟩
      by_cases h1 : x / 2 = 0
      · rw [h1, bl_zero]; omega
      · have := i2 h1; omega
theorem bl_le : ∀ (f x : Nat), Lib.bitLenAux f x ≤ f
  | 0, _ => Nat.le_refl _
  | f + 1, x => by
    by_cases h0 : x = 0
    · subst h0; rw [bl_zero]; omega
    · have := bl_le f (x / 2)
      rw [Lib.bitLenAux, if_neg h0]; omega

theorem wrap_pow {k : Nat} (hk : k ≤ 63) : IntKind.u64.wrap ((2 : Int) ^ k) = ((2 ^ k : Nat) : Int) := by
  have h1 : 2 ^ k < 2 ^ 64 := Nat.pow_lt_pow_right (by decide) (by omega)
  rw [show (2 : Int) ^ k = ((2 ^ k : Nat) : Int) by simp]
  generalize 2 ^ k = z at h1
  show (if (false && decide ((z : Int) % 2 ^ 64 ≥ 2 ^ (64 - 1))) = true then (z : Int) % 2 ^ 64 - 2 ^ 64 else (z : Int) % 2 ^ 64) = _
  rw [Bool.false_and, if_neg (by decide)]
  omega

theorem bits_mask (y : Int) {k : Nat} (hk : k ≤ 63) : ∃ r : Nat, bits .and .u64 y ((2 : Int) ^ k - 1) = (r : Int) ∧ (r : Int) < (2 : Int) ^ k := by
  have h1 : 2 ^ k < 2 ^ 64 := Nat.pow_lt_pow_right (by decide) (by omega)
  have h0 : 0 < 2 ^ k := Nat.pos_of_ne_zero (by simp)
  have e0 : (2 : Int) ^ k = ((2 ^ k : Nat) : Int) := by simp
  rw [e0]
  generalize 2 ^ k = z at h0 h1
  have e1 : ((z : Int) - 1) = ((z - 1 : Nat) : Int) := by omega
  rw [e1]
  have h2 : ((BitVec.ofInt 64 y) &&& (BitVec.ofInt 64 ((z - 1 : Nat) : Int))).toNat ≤ z - 1 := by
    rw [BitVec.toNat_and]
    refine Nat.le_trans Nat.and_le_right ?_
    rw [BitVec.toNat_ofInt]
    omega
  refine ⟨((BitVec.ofInt 64 y) &&& (BitVec.ofInt 64 ((z - 1 : Nat) : Int))).toNat, ?_, by omega⟩
  show IntKind.u64.wrap (((BitVec.ofInt 64 y) &&& (BitVec.ofInt 64 ((z - 1 : Nat) : Int))).toNat : Int) = _
  generalize ((BitVec.ofInt 64 y) &&& (BitVec.ofInt 64 ((z - 1 : Nat) : Int))).toNat = r at h2
  show (if (false && decide ((r : Int) % 2 ^ 64 ≥ 2 ^ (64 - 1))) = true then (r : Int) % 2 ^ 64 - 2 ^ 64 else (r : Int) % 2 ^ 64) = _
  rw [Bool.false_and, if_neg (by decide)]
  omega

set_option maxRecDepth 100000 in
set_option maxHeartbeats 1000000 in
theorem oPow (n : Nat) (w : World) (h0 : 1 ≤ n) (hn : n < 4611686018427387904) :
    Calls Tryz.prog 217 #[.int .i64 n] w fun e w' => ∃ m : Int, e = .returned (.int .u64 m) ∧ (n : Int) < m ∧ m ≤ 2 * (n : Int) ∧ (∀ y : Int, ∃ r : Nat, bits .and .u64 y (m - 1) = (r : Int) ∧ (r : Int) < m) ∧ w' = w := by
  obtain ⟨b1, b2⟩ := bl_aux 64 n (by omega)
  have hb : 2 ^ Lib.bitLenAux 64 n ≤ 2 * n := b2 (by omega)
  have hk : Lib.bitLenAux 64 n ≤ 63 := by
    rcases Nat.lt_or_ge 63 (Lib.bitLenAux 64 n) with h | h
    · have : 2 ^ 64 ≤ 2 ^ Lib.bitLenAux 64 n := Nat.pow_le_pow_right (by decide) h
      omega
    · exact h
  have C0 := Tryz.bits_Len (n : Int) w (by omega) (by omega)
  rw [Int.toNat_natCast, show Lib.bitLen n = Lib.bitLenAux 64 n from rfl] at C0
  obtain ⟨k, hkk⟩ : ∃ k, Lib.bitLenAux 64 n = k := ⟨_, rfl⟩
  rw [hkk] at C0 b1 hb hk
  have e0 : (2 : Int) ^ k = ((2 ^ k : Nat) : Int) := by simp
  have HX := Lib.hid (show (n : Int) < 2 ^ k ∧ (2 : Int) ^ k ≤ 2 * (n : Int) ∧ k ≤ 63 from ⟨by rw [e0]; omega, by rw [e0]; omega, hk⟩)
  have C := Lib.hid C0
  clear C0 b1 b2 hb hkk e0
  go_enter Tryz.func217, Tryz.ntmps217
  go_wp2_with fail
  refine C.out.mono ?_
  rintro e w' ⟨rfl, rfl⟩
  go_wp2
  go_ret
  exact ⟨(2 : Int) ^ k, congrArg (fun z => Ending.returned (Value.int .u64 z)) ((wrap_pow HX.out.2.2).trans (by simp)), HX.out.1, HX.out.2.1, fun y => bits_mask y HX.out.2.2, rfl⟩

set_option maxRecDepth 100000 in
set_option maxHeartbeats 1000000 in
theorem oBreak (blk off cap a l n : Nat) (d : Array Int) (w : World) (hn : d.size = n) (hH : Holds E32 w blk off d) (hblk : blk < w.heap.size) (hl8 : 8 ≤ l) (hb : a + l ≤ n) (hsz : n < 4611686018427387904) :
    Calls Tryz.prog 196 #[.slice (some ⟨blk, off, none⟩) n cap, .int .i64 a, .int .i64 ((a : Int) + (l : Int))] w fun e w' =>
      e = .returned (.tuple #[]) ∧ ∃ d', PermIn a (a + l) d d' ∧ SW w blk off d' w' := by
  have HS1 := Lib.hid (SW.refl hH)
  have HN := Lib.hid hn
  clear hH hn
  have hl8z : (8 : Int) ≤ (a : Int) + (l : Int) - (a : Int) := by omega
  have EL := Lib.hid (show (a : Int) + (l : Int) - (a : Int) = (l : Int) by omega)
  have C := Lib.hid (fun W => oPow l W (by omega) (by omega))
  go_enter Tryz.func196, Tryz.ntmps196
  go_wp2_with fail
  rw [EL.out]
  refine (C.out _).mono ?_
  rintro e w1 ⟨m, rfl, m1, m2, m3, rfl⟩
  have HM := Lib.hid m3
  clear C m3 hl8z
  have m4 : m ≤ 9223372036854775807 := by omega
  go_wp2_with fail
  obtain ⟨q, hq⟩ : ∃ q, q = l / 4 * 2 := ⟨_, rfl⟩
  have hq1 : 4 ≤ q := by omega
  have hq2 : q + 1 < l := by omega
  have EQ := Lib.hid (show (l : Int) / 4 * 2 = (q : Int) by omega)
  clear hq
  rw [EQ.out]
  have K1 : Hid (Keep (fun b => b = blk) w (w.alloc (.cells #[.int .u64 (l : Int)] 259))) := Lib.hid ((Keep.refl _ _).alloc _)
  have hs1 : SW w blk off d (w.alloc (.cells #[.int .u64 (l : Int)] 259)) := ⟨K1.out, holds_keep HS1.out.holds ((Keep.refl (fun _ => False) w).alloc _) id⟩
  have hc1 : (w.alloc (.cells #[.int .u64 (l : Int)] 259)).cell? ⟨w.heap.size, 0, none⟩ = some (.int .u64 (l : Int)) := by
    rw [World.cell?_alloc_at _ _ _ _ (by simp)]; rfl
  have hf1 : (w.alloc (.cells #[.int .u64 (l : Int)] 259)).frozen? ⟨w.heap.size, 0, none⟩ = false := by
    exact World.frozen?_alloc_new _ _ _ _
  have HB := Lib.hid (show _ ∧ _ ∧ _ from ⟨hs1, hc1, hf1⟩)
  clear hs1 hc1 hf1 K1
  go_loopw [9] (fun vi wr => ∃ (i : Nat) (dk : Array Int) (x : Int), vi = .int .i64 i ∧ a + q ≤ i + 1 ∧ i ≤ a + q + 2 ∧ Hid (PermIn a (a + l) d dk ∧ SW w blk off dk wr ∧ wr.cell? ⟨w.heap.size, 0, none⟩ = some (.int .u64 x) ∧ wr.frozen? ⟨w.heap.size, 0, none⟩ = false)) (fun vi _ => a + q + 2 - (RowKit.intOf vi).toNat)
  case atStart => exact ⟨a + q - 1, d, (l : Int), by go_num, by omega, by omega, Lib.hid ⟨permIn_refl _ _ _, HB.out⟩⟩
  case round =>
    obtain ⟨i, dk, x, rfl, hi1, hi2, hh⟩ := hrel
    clear HB
    by_cases hi : i ≤ a + q + 1
    · have hiz : (i : Int) ≤ (a : Int) + (l : Int) / 4 * 2 + 1 := by have := EQ.out; omega
      have C := Lib.hid (oNext w.heap.size x wr hh.out.2.2.1 hh.out.2.2.2)
      go_wp2_with fail
      refine C.out.mono ?_
      rintro e w2 ⟨y, rfl, hc2, hf2, hk2⟩
      clear C
      have HB := Lib.hid (show SW w blk off dk w2 ∧ _ ∧ _ from ⟨hh.out.2.1.then (hk2.weaken fun b _ e => by subst e; exact ⟨by omega, Nat.le_refl _⟩), hc2, hf2⟩)
      clear hc2 hf2 hk2
      obtain ⟨r, hr, hrm⟩ := HM.out y
      obtain ⟨G, hG⟩ : ∃ G : Nat → Int, ∀ t, G t = dk[t]! := ⟨fun t => dk[t]!, fun _ => rfl⟩
      have hsk : dk.size = n := hh.out.1.1.trans HN.out
      have hcw := HB.out.1.cells hG hsk
      have hfw := HB.out.1.thaw hsk
      have HG := Lib.hid hG
      have HSK := Lib.hid hsk
      clear hG hsk
      have hrz : (r : Int) ≤ 9223372036854775807 := by omega
      by_cases hrl : l ≤ r
      · have hrlz : (l : Int) ≤ (r : Int) := by omega
        obtain ⟨o, ho⟩ : ∃ o, o = r - l := ⟨_, rfl⟩
        have EO := Lib.hid (show (r : Int) - (l : Int) = (o : Int) by omega)
        have hol : o < l := by omega
        clear ho
        obtain ⟨v3, hy3⟩ := cell?_setCell_some (w := w2) (p := ⟨blk, off + i, none⟩) (x := .int .i32 (G (a + o))) (q := ⟨blk, off + (a + o), none⟩) (hcw (a + o) (by omega))
        go_wp2_with fail
        rw [EO.out]
        go_region
        all_goals go_wp2
        all_goals go_roundw
        case rel => exact ⟨i + 1, swp dk i (a + o), y, by go_num, by omega, by omega, Lib.hid ⟨permIn_trans _ _ _ _ _ hh.out.1 (swp_permIn dk a (a + l) i (a + o) (by omega) (by omega) (by omega) (by omega) (by have := HSK.out; omega)), HB.out.1.swapq HG.out (by have := HSK.out; omega) (by have := HSK.out; omega) 0 1, by
          refine (World.cell?_setCell_other _ _ _ _ (fun e => ?_)).trans ((World.cell?_setCell_other _ _ _ _ (fun e => ?_)).trans HB.out.2.1)
          · injection e with e; omega
          · injection e with e; omega, by
          refine (World.frozen?_setCell _ _ _ _).trans ((World.frozen?_setCell _ _ _ _).trans HB.out.2.2)⟩⟩
        case measure => simp [RowKit.intOf]; omega
      · have hrlz : (r : Int) < (l : Int) := by omega
        obtain ⟨v3, hy3⟩ := cell?_setCell_some (w := w2) (p := ⟨blk, off + i, none⟩) (x := .int .i32 (G (a + r))) (q := ⟨blk, off + (a + r), none⟩) (hcw (a + r) (by omega))
        go_wp2_with fail
        go_region
        all_goals go_wp2
        all_goals go_roundw
        case rel => exact ⟨i + 1, swp dk i (a + r), y, by go_num, by omega, by omega, Lib.hid ⟨permIn_trans _ _ _ _ _ hh.out.1 (swp_permIn dk a (a + l) i (a + r) (by omega) (by omega) (by omega) (by omega) (by have := HSK.out; omega)), HB.out.1.swapq HG.out (by have := HSK.out; omega) (by have := HSK.out; omega) 0 1, by
          refine (World.cell?_setCell_other _ _ _ _ (fun e => ?_)).trans ((World.cell?_setCell_other _ _ _ _ (fun e => ?_)).trans HB.out.2.1)
          · injection e with e; omega
          · injection e with e; omega, by
          refine (World.frozen?_setCell _ _ _ _).trans ((World.frozen?_setCell _ _ _ _).trans HB.out.2.2)⟩⟩
        case measure => simp [RowKit.intOf]; omega
    · have hiz : (a : Int) + (l : Int) / 4 * 2 + 1 < (i : Int) := by have := EQ.out; omega
      go_wp2
      go_end0
      exact ⟨rfl, dk, hh.out.1, hh.out.2.1⟩
end Go.Proofs.YtcfhblbmpbfoaaaGreatDoor
