/- The document's answer for scan: what stands in brackets, evened: the walk, and that it is the program's. -/
import Derived.Test.YtbnnhbmnddaafaaGreatDoorTk
namespace Go.Proofs.YtbnnhbmnddaafaaGreatDoor
open Go Go.RowKit Go.Kt Go.Kt.Rg Go.Shelf Go.Lib
attribute [local go_sem] Oper.semAt_some

def sepS (s : ByteArray) (i : Nat) (out : List UInt8) : List UInt8 := if 0 < i ∧ isBlk (B s (i - 1) : Nat) = true ∧ out ≠ [] then out ++ [32] else out
def spcF (s : ByteArray) : Nat → Nat → List UInt8 → List UInt8
  | 0, _, out => out
  | f + 1, i, out => if i < s.size then (if isBlk (B s i : Nat) = true then spcF s f (i + 1) out else spcF s f (i + 1) (sepS s i out ++ [UInt8.ofNat (B s i)])) else out
def spcV (s : ByteArray) : List UInt8 := spcF s s.size 0 []

theorem join_snoc (sep : List UInt8) : ∀ (l : List (List UInt8)) (x : List UInt8), Lib.join (l ++ [x]) sep = if l = [] then x else Lib.join l sep ++ sep ++ x
  | [], x => by rw [if_pos rfl]; exact Lib.join_one x sep
  | a :: l, x => by
    rw [if_neg (by simp), List.cons_append, Lib.join_cons, Lib.join_cons]
    unfold Lib.joinTail
    simp
def jnS (s : ByteArray) (acc : List (Nat × Nat)) : List UInt8 := Lib.join (acc.map fun x => (s.extract x.1 x.2).data.toList) [32]
theorem jnS_snoc (s : ByteArray) (acc : List (Nat × Nat)) (a b : Nat) : jnS s (acc ++ [(a, b)]) = if acc = [] then seg s a b else jnS s acc ++ [32] ++ seg s a b := by
  unfold jnS
  rw [List.map_append, List.map_cons, List.map_nil, join_snoc]
  simp only [List.map_eq_nil_iff]
  rfl
theorem jnS_ne {s : ByteArray} {acc : List (Nat × Nat)} (h : ∀ x ∈ acc, x.1 < x.2 ∧ x.2 ≤ s.size) (hne : acc ≠ []) : jnS s acc ≠ [] := by
  obtain ⟨a, l, rfl⟩ := List.exists_cons_of_ne_nil hne
  have h1 := h a (.head _)
  unfold jnS
  rw [List.map_cons, Lib.join_cons]
  intro he
  have h2 := congrArg List.length he
  rw [List.length_append] at h2
  have h3 : (s.extract a.1 a.2).data.toList.length = a.2 - a.1 := seg_len s a.1 a.2 (by omega) h1.2
  simp only [List.length_nil] at h2
  omega
theorem spc_unit (s : ByteArray) : ∀ (w f i : Nat) (out : List UInt8), 1 ≤ w → i + w ≤ s.size → (∀ j, j < w → isBlk (B s (i + j) : Nat) = false) → spcF s (f + w) i out = spcF s f (i + w) (sepS s i out ++ seg s i (i + w)) := by
  intro w
  induction w with
  | zero => intro f i out h; omega
  | succ w ih =>
    intro f i out _ hz hb
    have h0 := hb 0 (by omega)
    rw [Nat.add_zero] at h0
    rw [show f + (w + 1) = (f + w) + 1 by omega, spcF, if_pos (by omega), if_neg (by rw [h0]; decide)]
    rcases Nat.eq_zero_or_pos w with rfl | hw
    · rw [Nat.add_zero, Nat.zero_add, one_byte (by omega)]
    · rw [ih f (i + 1) _ hw (by omega) (fun j hj => by have := hb (j + 1) (by omega); rw [show i + 1 + j = i + (j + 1) by omega]; exact this)]
      have hs : sepS s (i + 1) (sepS s i out ++ [UInt8.ofNat (B s i)]) = sepS s i out ++ [UInt8.ofNat (B s i)] := by
        generalize sepS s i out ++ [UInt8.ofNat (B s i)] = X
        unfold sepS
        rw [if_neg (fun h => by
          have := h.2.1
          rw [Nat.add_sub_cancel, h0] at this
          cases this)]
      rw [hs, show i + 1 + w = i + (w + 1) by omega]
      congr 1
      rw [List.append_assoc, ← seg_app s i (i + 1) (i + (w + 1)) (by omega) (by omega), one_byte (by omega)]
theorem unit_noblk {s : ByteArray} {k : Nat} (hk : k < s.size) (h : isBlk (B s k : Nat) = false) : ∀ j, j < (Utf8.decode s k).2 → isBlk (B s (k + j) : Nat) = false := by
  intro j hj
  rcases Nat.eq_zero_or_pos j with rfl | h0
  · exact h
  · by_cases hlo : B s (k + j) < 128
    · have h3 := (dec_width s k hk).2.2
      have := asc_fit (s := s) (i := k) (j := k + j) (by omega) hlo (by omega)
      omega
    · exact isBlk_hi (by omega)
theorem spans_spc (s : ByteArray) : ∀ (f i g : Nat) (st : Option Nat) (acc : List (Nat × Nat)) (out : List UInt8), i ≤ s.size → s.size ≤ i + f → s.size ≤ i + g → (∀ x ∈ acc, x.1 < x.2 ∧ x.2 ≤ s.size) →
    (match st with
      | none => out = jnS s acc ∧ (0 < i → isBlk (B s (i - 1) : Nat) = true)
      | some a => a < i ∧ out = (if acc = [] then seg s a i else jnS s acc ++ [32] ++ seg s a i) ∧ isBlk (B s (i - 1) : Nat) = false) →
    (i = 0 → acc = []) →
    jnS s (closeSpans s (spansFromP blkN s f i st acc)) = spcF s g i out := by
  intro f
  induction f with
  | zero =>
    intro i g st acc out h1 h2 h3 h4 h5 _
    obtain rfl : i = s.size := by omega
    have hsp : spcF s g s.size out = out := by
      cases g with
      | zero => rfl
      | succ g => rw [spcF, if_neg (Nat.lt_irrefl _)]
    rw [hsp, spansFromP_end _ _ _ _ _ _ (Nat.lt_irrefl _)]
    cases st with
    | none => exact h5.1.symm
    | some a =>
      show jnS s (acc ++ [(a, s.size)]) = out
      rw [jnS_snoc, h5.2.1]
  | succ f ih =>
    intro i g st acc out h1 h2 h3 h4 h5 h0
    by_cases hi : i < s.size
    · have hw := dec_width s i hi
      have hbl : blkN (Utf8.decode s i).1 = isBlk (B s i : Nat) := by
        show isBlk ((Utf8.decode s i).1 : Nat) = _
        have := rU_blk hi
        rw [rU_in hi] at this
        exact this
      unfold spansFromP
      rw [if_pos hi, hbl]
      by_cases hb : isBlk (B s i : Nat) = true
      · rw [if_pos hb]
        have hw1 : (Utf8.decode s i).2 = 1 := by rw [dec_lo s i (blk_asc hb)]
        obtain ⟨g, rfl⟩ : ∃ g', g = g' + 1 := ⟨g - 1, by omega⟩
        rw [hw1, spcF, if_pos hi, if_pos hb]
        cases st with
        | none => exact ih (i + 1) g none acc out (by omega) (by omega) (by omega) h4 ⟨h5.1, fun _ => by rw [Nat.add_sub_cancel]; exact hb⟩ (by omega)
        | some a =>
          obtain ⟨q1, q2, q3⟩ := h5
          refine ih (i + 1) g none (acc ++ [(a, i)]) out (by omega) (by omega) (by omega) (fun x hx => ?_) ⟨by rw [jnS_snoc, q2], fun _ => by rw [Nat.add_sub_cancel]; exact hb⟩ (by omega)
          rcases List.mem_append.1 hx with hx | hx
          · exact h4 x hx
          · rw [List.mem_singleton] at hx
            subst hx
            exact ⟨q1, by simp only; omega⟩
      · rw [if_neg hb]
        have hbf : isBlk (B s i : Nat) = false := by simpa using hb
        have hnb := unit_noblk hi hbf
        have hlast : isBlk (B s (i + (Utf8.decode s i).2 - 1) : Nat) = false := by
          have := hnb ((Utf8.decode s i).2 - 1) (by omega)
          rwa [show i + ((Utf8.decode s i).2 - 1) = i + (Utf8.decode s i).2 - 1 by omega] at this
        have hsu := spc_unit s (Utf8.decode s i).2 (g - (Utf8.decode s i).2) i out hw.1 hw.2.2 hnb
        rw [show g - (Utf8.decode s i).2 + (Utf8.decode s i).2 = g by omega] at hsu
        rw [hsu]
        cases st with
        | none =>
          obtain ⟨q1, q2⟩ := h5
          refine ih (i + (Utf8.decode s i).2) (g - (Utf8.decode s i).2) (some i) acc _ (by omega) (by omega) (by omega) h4 ⟨by omega, ?_, hlast⟩ (by omega)
          unfold sepS
          by_cases ha : acc = []
          · rw [if_pos ha]
            have ho : out = [] := by rw [q1, ha]; rfl
            rw [if_neg (fun h => h.2.2 ho), ho, List.nil_append]
          · rw [if_neg ha]
            have hi0 : 0 < i := Nat.pos_of_ne_zero fun h => ha (h0 h)
            rw [if_pos ⟨hi0, q2 hi0, by rw [q1]; exact jnS_ne h4 ha⟩, q1]
        | some a =>
          obtain ⟨q1, q2, q3⟩ := h5
          refine ih (i + (Utf8.decode s i).2) (g - (Utf8.decode s i).2) (some a) acc _ (by omega) (by omega) (by omega) h4 ⟨by omega, ?_, hlast⟩ (by omega)
          unfold sepS
          rw [if_neg (fun h => by rw [q3] at h; cases h.2.1), q2]
          by_cases ha : acc = []
          · rw [if_pos ha, if_pos ha, seg_app s a i _ (by omega) (by omega)]
          · rw [if_neg ha, if_neg ha, List.append_assoc, seg_app s a i _ (by omega) (by omega)]
    · obtain rfl : i = s.size := by omega
      have hsp : spcF s g s.size out = out := by
        cases g with
        | zero => rfl
        | succ g => rw [spcF, if_neg (Nat.lt_irrefl _)]
      rw [hsp, spansFromP_end _ _ _ _ _ _ (Nat.lt_irrefl _)]
      cases st with
      | none => exact h5.1.symm
      | some a =>
        show jnS s (acc ++ [(a, s.size)]) = out
        rw [jnS_snoc, h5.2.1]
theorem spc_evn (s : ByteArray) : spcV s = evnV s := by
  have h := spans_spc s s.size 0 s.size none [] [] (Nat.zero_le _) (by omega) (by omega) (fun x hx => by cases hx) ⟨rfl, fun h => absurd h (Nat.lt_irrefl _)⟩ (fun _ => rfl)
  unfold spcV
  rw [← h]
  unfold evnV jnS goFieldsP spansOfP
  rw [List.map_map]
  rfl

set_option maxRecDepth 100000 in
set_option maxHeartbeats 8000000 in
theorem xspaced_any (s : ByteArray) (w : World) (hs : s.size ≤ 1048576) :
    Calls Tryz.prog 79 #[.string s] w fun e w' => e = .returned (.string ⟨(evnV s).toArray⟩) ∧ Below w.heap.size w w' := by
  obtain ⟨R, hR⟩ : ∃ R, spcF s s.size 0 [] = R := ⟨_, rfl⟩
  have hR2 : evnV s = R := (spc_evn s).symm.trans hR
  rw [hR2]
  have HR := Lib.hid hR
  clear hR hR2
  go_enter Tryz.func79, Tryz.ntmps79
  go_wp2
  go_loopw [3, 4] (fun o v wr => ∃ (k f : Nat) (ao : Option Addr) (cp m : Nat) (acc : List UInt8), k ≤ s.size ∧ s.size ≤ k + f ∧ v = .int .i64 k ∧ o = .slice ao m cp ∧ m = acc.length ∧ m ≤ 2 * k ∧ OwnB (fun b => w.heap.size ≤ b) (.slice ao m cp) acc wr ∧ Below w.heap.size w wr ∧ spcF s f k acc = R)
    (fun _ v _ => s.size - (RowKit.intOf v).toNat)
  case atStart => exact ⟨0, s.size, none, 0, 0, [], Nat.zero_le _, by omega, rfl, rfl, rfl, by omega, OwnB.nil _ _, Below.refl _ _, HR.out⟩
  case round =>
    obtain ⟨k, f, ao, cp, m, acc, hk, hf, rfl, rfl, hm, hmk, hown, hb, hc⟩ := hrel
    by_cases hlt : k < s.size
    · have HI : ∀ w, (Instr.index 9 (.string s) (.int .i64 (k : Nat))).run Tryz.prog w = .ok (.int .u8 (bAt s k)) w := fun w => run_bAt s k hlt w
      have hlt' : (k : Int) < s.size := by omega
      obtain ⟨f, rfl⟩ : ∃ f', f = f' + 1 := ⟨f - 1, by omega⟩
      rw [spcF, if_pos hlt] at hc
      have CB := Lib.hid (fun V => xBlank_any (bAt s k) V)
      cases hbk : isBlk (B s k : Nat) with
      | true =>
        rw [if_pos hbk] at hc
        rw [bAt_B, hbk] at CB
        have HG := Lib.hid (And.intro hown (And.intro hb (And.intro hm hc)))
        rw [← bAt_B] at CB
        generalize bAt s k = b at *
        clear hc hown hb hm hbk
        go_wp2_with (go_at_call 82; refine (CB.out _).mono ?_; rintro e w1 ⟨rfl, rfl⟩)
        go_roundw
        case rel => exact ⟨k + 1, f, ao, cp, m, acc, by omega, by omega, by go_num, rfl, HG.out.2.2.1, by omega, HG.out.1, HG.out.2.1, HG.out.2.2.2⟩
        case measure => simp [RowKit.intOf]; omega
      | false =>
        rw [if_neg (by rw [hbk]; decide)] at hc
        rw [bAt_B, hbk, ← bAt_B] at CB
        have hy : (((UInt8.ofNat (B s k)).toNat : Nat) : Int) = bAt s k := by
          rw [bAt_B, UInt8.toNat_ofNat']
          have := B_lt s k
          omega
        rcases Nat.eq_zero_or_pos k with hk0 | hk0
        · have hsep : sepS s k acc = acc := by unfold sepS; rw [if_neg (fun h => by omega)]
          rw [hsep] at hc
          have hkn : ¬ (0 : Int) < (k : Nat) := by omega
          obtain ⟨g3, cap3, w3, hrun, hown3, hb3, hl3⟩ := ownB_add hown hm hb (Nat.le_refl _) (UInt8.ofNat (B s k)) (by omega)
          rw [hy] at hrun
          have HN := Lib.hid hrun
          have HG := Lib.hid (And.intro hown3 (And.intro hb3 (And.intro hl3 hc)))
          generalize bAt s k = b at *
          clear hrun hown3 hb3 hl3 hc hown hb hy hm hbk hsep hk0
          go_wp2_with (first | (at_builtin; refine wpList_append_eq rfl rfl rfl rfl HN.out ?_) | (go_at_call 82; refine (CB.out _).mono ?_; rintro e w1 ⟨rfl, rfl⟩))
          go_roundw
          case rel => exact ⟨k + 1, f, some ⟨g3, 0, none⟩, cap3, m + 1, _, by omega, by omega, by go_num, rfl, HG.out.2.2.1, by omega, HG.out.1, HG.out.2.1, HG.out.2.2.2⟩
          case measure => simp [RowKit.intOf]; omega
        · have hk1 : ((k : Int) - 1).toNat = k - 1 := by omega
          have hkp : (0 : Int) < k := by omega
          have HJ : ∀ w, (Instr.index 9 (.string s) (.int .i64 ((k : Int) - 1))).run Tryz.prog w = .ok (.int .u8 (bAt s (k - 1))) w := fun w => by
            have := run_bAt s (k - 1) (by omega) w
            rwa [show ((k - 1 : Nat) : Int) = (k : Int) - 1 by omega] at this
          have CP := Lib.hid (fun V => xBlank_any (bAt s (k - 1)) V)
          by_cases hs2 : isBlk (B s (k - 1) : Nat) = true ∧ acc ≠ []
          · have hsep : sepS s k acc = acc ++ [32] := by unfold sepS; rw [if_pos ⟨hk0, hs2.1, hs2.2⟩]
            rw [hsep] at hc
            rw [bAt_B, hs2.1, ← bAt_B] at CP
            have hmp : (0 : Int) < m := by
              have := List.length_pos_iff.2 hs2.2
              omega
            obtain ⟨g3, cap3, w3, hrun, hown3, hb3, hl3⟩ := ownB_add hown hm hb (Nat.le_refl _) 32 (by omega)
            obtain ⟨g4, cap4, w4, hrun4, hown4, hb4, hl4⟩ := ownB_add hown3 hl3 hb3 (Nat.le_refl _) (UInt8.ofNat (B s k)) (by rw [← hl3]; omega)
            rw [hy] at hrun4
            rw [show ((32 : UInt8).toNat : Int) = 32 from rfl] at hrun
            have HN := Lib.hid hrun
            have HN4 := Lib.hid hrun4
            have HG := Lib.hid (And.intro hown4 (And.intro hb4 (And.intro hl4 hc)))
            generalize bAt s k = b at *
            generalize bAt s (k - 1) = b2 at *
            clear hrun hown3 hb3 hl3 hrun4 hown4 hb4 hl4 hc hown hb hy hm hbk hsep hs2 hk1
            go_wp2_with (first | (go_at_call 82; refine (CB.out _).mono ?_; clear CB; rintro e w1 ⟨rfl, rfl⟩) | (go_at_call 82; refine (CP.out _).mono ?_; clear CP; rintro e w1 ⟨rfl, rfl⟩) | (at_builtin; refine wpList_append_eq rfl rfl rfl rfl HN.out ?_; clear HN) | (at_builtin; refine wpList_append_eq rfl rfl rfl rfl HN4.out ?_; clear HN4))
            go_roundw
            case rel => exact ⟨k + 1, f, some ⟨g4, 0, none⟩, cap4, m + 1 + 1, _, by omega, by omega, by go_num, rfl, HG.out.2.2.1, by omega, HG.out.1, HG.out.2.1, HG.out.2.2.2⟩
            case measure => simp [RowKit.intOf]; omega
          · have hsep : sepS s k acc = acc := by unfold sepS; rw [if_neg (fun h => hs2 h.2)]
            rw [hsep] at hc
            cases hb1 : isBlk (B s (k - 1) : Nat) with
            | false =>
              obtain ⟨g3, cap3, w3, hrun, hown3, hb3, hl3⟩ := ownB_add hown hm hb (Nat.le_refl _) (UInt8.ofNat (B s k)) (by omega)
              rw [hy] at hrun
              have HN := Lib.hid hrun
              have HG := Lib.hid (And.intro hown3 (And.intro hb3 (And.intro hl3 hc)))
              generalize bAt s k = b at *
              rw [bAt_B, hb1, ← bAt_B] at CP
              generalize bAt s (k - 1) = b2 at *
              clear hrun hown3 hb3 hl3 hc hown hb hy hm hbk hsep hs2 hk1 hb1
              go_wp2_with (first | (go_at_call 82; refine (CB.out _).mono ?_; clear CB; rintro e w1 ⟨rfl, rfl⟩) | (go_at_call 82; refine (CP.out _).mono ?_; clear CP; rintro e w1 ⟨rfl, rfl⟩) | (at_builtin; refine wpList_append_eq rfl rfl rfl rfl HN.out ?_; clear HN))
              go_roundw
              case rel => exact ⟨k + 1, f, some ⟨g3, 0, none⟩, cap3, m + 1, _, by omega, by omega, by go_num, rfl, HG.out.2.2.1, by omega, HG.out.1, HG.out.2.1, HG.out.2.2.2⟩
              case measure => simp [RowKit.intOf]; omega
            | true =>
              have ha : acc = [] := by
                by_cases h : acc = []
                · exact h
                · exact absurd ⟨hb1, h⟩ hs2
              have hm0 : m = 0 := by rw [hm, ha]; rfl
              subst hm0
              obtain ⟨g3, cap3, w3, hrun, hown3, hb3, hl3⟩ := ownB_add hown hm hb (Nat.le_refl _) (UInt8.ofNat (B s k)) (by omega)
              rw [hy] at hrun
              rw [Nat.zero_add] at hrun hown3 hl3
              have HN := Lib.hid hrun
              have HG := Lib.hid (And.intro hown3 (And.intro hb3 (And.intro hl3 hc)))
              generalize bAt s k = b at *
              rw [bAt_B, hb1, ← bAt_B] at CP
              generalize bAt s (k - 1) = b2 at *
              clear hrun hown3 hb3 hl3 hc hown hb hy hm hbk hsep hs2 hk1 hb1 ha
              go_wp2_with (first | (go_at_call 82; refine (CB.out _).mono ?_; clear CB; rintro e w1 ⟨rfl, rfl⟩) | (go_at_call 82; refine (CP.out _).mono ?_; clear CP; rintro e w1 ⟨rfl, rfl⟩) | (at_builtin; refine wpList_append_eq rfl rfl rfl rfl HN.out ?_; clear HN))
              go_roundw
              case rel => exact ⟨k + 1, f, some ⟨g3, 0, none⟩, cap3, 1, _, by omega, by omega, by go_num, rfl, HG.out.2.2.1, by omega, HG.out.1, HG.out.2.1, HG.out.2.2.2⟩
              case measure => simp [RowKit.intOf]; omega
    · have hke : k = s.size := by omega
      have hRe : R = acc := by
        rw [← hc]
        cases f with
        | zero => rfl
        | succ f => rw [spcF, if_neg hlt]
      subst hm
      have ht := hown.text
      have HO : Hid ((⟨acc.toArray⟩ : ByteArray) = ⟨R.toArray⟩ ∧ Below w.heap.size w wr) := Lib.hid ⟨by rw [hRe], hb⟩
      have hge : ¬ (k : Int) < s.size := by omega
      clear hc hRe hown hb hke
      go_wp2_with (simp only [ht])
      all_goals
        go_ret
        exact ⟨by rw [← HO.out.1]; rfl, HO.out.2⟩
end Go.Proofs.YtbnnhbmnddaafaaGreatDoor
