/- The document's answer for scan: sign, quoted, escaped: the walks. -/
import Derived.Test.YtbnnhbmnddaafaaGreatDoorTg
namespace Go.Proofs.YtbnnhbmnddaafaaGreatDoor
open Go Go.RowKit Go.Kt Go.Kt.Rg Go.Shelf Go.Lib
attribute [local go_sem] Oper.semAt_some

theorem ownB_add {D : Nat} {w wr : World} {ao : Option Addr} {cp m : Nat} {acc : List UInt8} (hown : OwnB (fun b => D ≤ b) (.slice ao m cp) acc wr) (hm : m = acc.length) (hb : Below D w wr) (hD : D ≤ w.heap.size) (y : UInt8) (hl : acc.length + 1 ≤ 140737488355328) :
    ∃ g3 cap3 w3, (∀ ty, (Builtin.append_ #[35, 35] ty #[.slice ao m cp, .slice (some ⟨wr.heap.size, 0, none⟩) 1 1]).run Tryz.prog (wr.alloc (.cells #[.int .u8 (y.toNat : Nat)] 5)) = .ok (.slice (some ⟨g3, 0, none⟩) (m + 1) cap3) w3) ∧
      OwnB (fun b => D ≤ b) (.slice (some ⟨g3, 0, none⟩) (m + 1) cap3) (acc ++ [y]) w3 ∧ Below D w w3 ∧ m + 1 = (acc ++ [y]).length := by
  obtain ⟨g3, cap3, w3, hrun, hown3, hk3, hg3, hz3⟩ := append_b (P := Tryz.prog) wr 35 5 Tryz.underlying35 tinfo5 hown.1 (.int .u8 (y.toNat : Nat)) rfl hl
  subst hm
  have e1 : acc.length + 1 = (acc ++ [y]).length := by simp
  refine ⟨g3, cap3, w3, hrun, ⟨?_, ?_⟩, hb.trans (hk3.below (Nat.le_trans hD hb.size) fun b h => hown.2 b h), e1⟩
  · rw [← e1]
    have e2 : Lib.byteCells (acc ++ [y]) = Lib.byteCells acc ++ [.int .u8 (y.toNat : Nat)] := by simp [Lib.byteCells]
    rw [e2]
    exact hown3
  · intro b hb2
    have : g3 = b := by simpa [Value.ownBlock] using hb2
    subst this
    rcases hg3 with h | h
    · exact hown.2 _ h
    · have := hb.size; omega

def quoO (D i : Nat) (o : Option (List UInt8 × Nat)) (e : Ending) (w' : World) : Prop := match o with
  | some (x, k) => ∃ ao cp, e = .returned (.tuple #[.slice ao x.length cp, .int .i64 (k : Nat), .int .i64 0]) ∧ OwnB (fun b => D ≤ b) (.slice ao x.length cp) x w'
  | none => e = .returned (.tuple #[.slice none 0 0, .int .i64 (i : Nat), .int .i64 10])
set_option maxRecDepth 100000 in
set_option maxHeartbeats 1000000 in
theorem xquoted_any (s : ByteArray) (i : Nat) (w : World) (hs : s.size ≤ 140737488351232) (hi : i ≤ s.size) :
    Calls Tryz.prog 98 #[.string s, .int .i64 (i : Nat)] w fun e w' => quoO w.heap.size i (xquoV s i) e w' ∧ Below w.heap.size w w' := by
  obtain ⟨R, hR⟩ : ∃ R, xquoF s s.size (i + 1) [] = R := ⟨_, rfl⟩
  have hR2 : xquoV s i = R := hR
  rw [hR2]
  have HR := Lib.hid hR
  clear hR hR2
  go_enter Tryz.func98, Tryz.ntmps98
  go_wp2
  go_loopw [7, 8] (fun o v wr => ∃ (k f : Nat) (ao : Option Addr) (cp m : Nat) (acc : List UInt8), k ≤ s.size + 1 ∧ s.size ≤ k + f ∧ v = .int .i64 k ∧ o = .slice ao m cp ∧ m = acc.length ∧ m ≤ k ∧ OwnB (fun b => w.heap.size ≤ b) (.slice ao m cp) acc wr ∧ Below w.heap.size w wr ∧ xquoF s f k acc = R)
    (fun _ v _ => s.size + 1 - (RowKit.intOf v).toNat)
  case atStart => exact ⟨i + 1, s.size, none, 0, 0, [], by omega, by omega, by go_num, rfl, rfl, by omega, OwnB.nil _ _, Below.refl _ _, HR.out⟩
  case round =>
    obtain ⟨k, f, ao, cp, m, acc, hk, hf, rfl, rfl, hm, hmk, hown, hb, hc⟩ := hrel
    by_cases hlt : k < s.size
    · have HI : ∀ w, (Instr.index 9 (.string s) (.int .i64 (k : Nat))).run Tryz.prog w = .ok (.int .u8 (bAt s k)) w := fun w => run_bAt s k hlt w
      have hlt' : (k : Int) < s.size := by omega
      obtain ⟨f, rfl⟩ : ∃ f', f = f' + 1 := ⟨f - 1, by omega⟩
      rw [xquoF, if_pos hlt] at hc
      have CB := Lib.hid (fun V => xbegins_any s ⟨#[39, 39]⟩ k V hs (by decide) (by omega))
      have hbg : begL s k (⟨#[39, 39]⟩ : ByteArray).data.toList = true ↔ B s k = 39 ∧ B s (k + 1) = 39 := beg_2 (by decide) (by decide)
      by_cases h39 : B s k = 39
      · rw [if_pos h39] at hc
        have hb39 : bAt s k = 39 := by rw [bAt_B, h39]; rfl
        rw [hb39] at HI
        by_cases h2 : B s (k + 1) = 39
        · rw [if_pos h2] at hc
          have hk1 : k + 1 < s.size := B_in (by omega)
          have hb40 : bAt s (k + 1) = 39 := by rw [bAt_B, h2]; rfl
          have HJ : ∀ w, (Instr.index 9 (.string s) (.int .i64 ((k : Int) + 1))).run Tryz.prog w = .ok (.int .u8 39) w := fun w => by
            have := run_bAt s (k + 1) hk1 w
            rw [hb40] at this
            exact this
          rw [hbg.2 ⟨h39, h2⟩] at CB
          obtain ⟨g3, cap3, w3, hrun, hown3, hb3, hl3⟩ := ownB_add hown hm hb (Nat.le_refl _) 39 (by omega)
          have h39' : ((39 : UInt8).toNat : Int) = 39 := rfl
          rw [h39'] at hrun
          have HN := Lib.hid hrun
          have HG := Lib.hid (And.intro hown3 (And.intro hb3 (And.intro hl3 hc)))
          clear hrun hown3 hb3 hl3 hc hown hb hbg h39 h2 hb39 hb40 h39' hm
          go_wp2_with (first | (at_builtin; refine wpList_append_eq rfl rfl rfl rfl HN.out ?_) | (go_at_call 97; refine (CB.out _).mono ?_; rintro e w1 ⟨rfl, rfl⟩))
          go_roundw
          case rel => exact ⟨k + 2, f, some ⟨g3, 0, none⟩, cap3, m + 1, _, by omega, by omega, by go_num, rfl, HG.out.2.2.1, by omega, HG.out.1, HG.out.2.1, HG.out.2.2.2⟩
          case measure => simp [RowKit.intOf]; omega
        · rw [if_neg h2] at hc
          have hb2 : begL s k (⟨#[39, 39]⟩ : ByteArray).data.toList = false := by
            rw [← Bool.not_eq_true]
            exact fun h => h2 (hbg.1 h).2
          rw [hb2] at CB
          subst hm
          have HO : Hid (quoO w.heap.size i R (.returned (.tuple #[.slice ao acc.length cp, .int .i64 ((k : Int) + 1), .int .i64 0])) wr ∧ Below w.heap.size w wr) := Lib.hid ⟨by rw [← hc]; exact ⟨ao, cp, rfl, hown⟩, hb⟩
          clear hc hown hb hbg h39 h2 hb39 hb2
          go_wp2_with (go_at_call 97; refine (CB.out _).mono ?_; rintro e w1 ⟨rfl, rfl⟩)
          go_ret3
          exact HO.out
      · rw [if_neg h39] at hc
        have hb39 : (bAt s k == 39) = false := by rw [bAt_B]; simp; omega
        obtain ⟨g3, cap3, w3, hrun, hown3, hb3, hl3⟩ := ownB_add hown hm hb (Nat.le_refl _) (UInt8.ofNat (B s k)) (by omega)
        have hy : (((UInt8.ofNat (B s k)).toNat : Nat) : Int) = bAt s k := by
          rw [bAt_B, UInt8.toNat_ofNat']
          have := B_lt s k
          omega
        rw [hy] at hrun
        have HN := Lib.hid hrun
        have HG := Lib.hid (And.intro hown3 (And.intro hb3 (And.intro hl3 hc)))
        generalize bAt s k = b at *
        clear hrun hown3 hb3 hl3 hc hown hb hbg h39 hy hm CB
        go_wp2_with (at_builtin; refine wpList_append_eq rfl rfl rfl rfl HN.out ?_)
        go_roundw
        case rel => exact ⟨k + 1, f, some ⟨g3, 0, none⟩, cap3, m + 1, _, by omega, by omega, by go_num, rfl, HG.out.2.2.1, by omega, HG.out.1, HG.out.2.1, HG.out.2.2.2⟩
        case measure => simp [RowKit.intOf]; omega
    · have hR0 : R = none := by rw [← hc]; exact xquo_end s f k acc hlt
      have HO : Hid (quoO w.heap.size i R (.returned (.tuple #[.slice none 0 0, .int .i64 (i : Nat), .int .i64 10])) wr ∧ Below w.heap.size w wr) := Lib.hid ⟨by rw [hR0]; rfl, hb⟩
      have hge : ¬ (k : Int) < s.size := by omega
      clear hc hR0 hown hb hm
      go_wp2
      go_ret3
      exact HO.out
end Go.Proofs.YtbnnhbmnddaafaaGreatDoor
