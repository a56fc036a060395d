/- The document's answer for props: full: how many points a full decomposition has. -/
import Derived.Test.YthhepebkfokddaaGreatDoorLt
namespace Go.Proofs.YthhepebkfokddaaGreatDoor
open Go Go.RowKit Go.Kt Go.Kt.Rg Go.Maps

theorem xdcp_le {dl : List Ln3} (hv : ∀ x ∈ dl, ∀ z ∈ x.2.1, z ≤ 1114111) (r : Int) : ∀ z ∈ xdcpV dl r, z ≤ 1114111 := by
  intro z hz
  unfold xdcpV at hz
  cases hs : sylP r with
  | true =>
    rw [if_pos hs] at hz
    have h2 := hs
    rw [syl_iff] at h2
    have h2 := of_decide_eq_true h2
    obtain ⟨h3, _⟩ := parts_jam (n := (r - 44032).toNat) (by omega) z hz
    have h4 := (parts_jam (n := (r - 44032).toNat) (by omega) z hz).2
    rw [han_two, h4, Bool.false_or, jam_iff] at h3
    simp at h3
    omega
  | false =>
    rw [if_neg (by rw [hs]; decide)] at hz
    unfold ofL at hz
    cases hf : dl.find? fun x => (x.1 : Int) == r with
    | none => rw [hf] at hz; cases hz
    | some y =>
      rw [hf] at hz
      exact hv y (List.mem_of_find?_eq_some hf) z hz
def SumI (n s : Nat) (b : Nat) : Prop := (s ≤ 8 ∧ s + b = n ∨ 9 ≤ s ∧ 9 ≤ n) ∧ s ≤ 17
theorem SumI.step {n s b a c : Nat} (h : SumI n s b) (h8 : s ≤ 8) (hb : b = a + c) : SumI n (s + min a 9) c := by
  obtain ⟨h1, _⟩ := h
  unfold SumI
  omega
theorem SumI.end_ {n s : Nat} (h : SumI n s 0) : min s 9 = min n 9 := by
  obtain ⟨h1, _⟩ := h
  omega
theorem SumI.big {n s b : Nat} (h : SumI n s b) (h9 : 8 < s) : min s 9 = min n 9 := by
  obtain ⟨h1, _⟩ := h
  omega
set_option maxRecDepth 100000 in
set_option maxHeartbeats 4000000 in
theorem yfull {g : Nat} {cs ks : List (Nat × Nat × Int)} {fv dv : Value} (dl : List Ln3) (hn : dl.length ≤ 1000000) (hz : ∀ x ∈ dl, x.2.1.length ≤ 1048576) (hv : ∀ x ∈ dl, ∀ z ∈ x.2.1, z ≤ 1114111) : ∀ (f r n : Nat) (w : World), RpW g cs ks fv dv w → LfW w dv dl → r ≤ 1114111 → fullD dl f r = some n →
    Calls Tryz.prog 65 #[.pointer (some ⟨g, 0, none⟩), .int .i32 (r : Nat)] w fun e w' => e = .returned (.int .i64 ((min n 9 : Nat) : Int)) ∧ Below w.heap.size w w' := by
  intro f
  induction f with
  | zero => intro r n w _ _ _ h; cases h
  | succ f ih =>
    intro r n w hR hF hr hfull
    rw [fullD] at hfull
    have CD := Lib.hid (ydecomp dl (r : Int) w hR hF ⟨by omega, by omega⟩ hn hz)
    have hle := xdcp_le hv (r : Int)
    have hlen : (xdcpV dl (r : Int)).length ≤ 1048576 := by
      unfold xdcpV
      split
      · unfold partsP; split <;> simp
      · unfold ofL
        cases hf : dl.find? fun x => (x.1 : Int) == (r : Int) with
        | none => simp
        | some y => exact hz y (List.mem_of_find?_eq_some hf)
    obtain ⟨l, hl⟩ : ∃ l, xdcpV dl (r : Int) = l := ⟨_, rfl⟩
    rw [hl] at CD hfull hle hlen
    have HI := Lib.hid (And.intro hR (And.intro hF ih))
    obtain ⟨R, hRR⟩ : ∃ R : Int, (r : Int) = R := ⟨_, rfl⟩
    rw [hRR] at CD ⊢
    clear hR hF ih hl hn hz hv hr hRR
    by_cases h0 : l = []
    · subst h0
      have HN : Hid (n = 1) := Lib.hid (by rw [if_pos rfl] at hfull; exact (Option.some.inj hfull).symm)
      clear hfull hle hlen
      go_enter Tryz.func65, Tryz.ntmps65
      go_wp2_with fail
      refine CD.out.mono ?_
      rintro e w1 ⟨v, rfl, hs, hb⟩
      obtain ⟨ao, cp, rfl, _⟩ := hs
      have HB := Lib.hid hb
      clear hb
      go_wp2
      go_ret
      exact ⟨by rw [HN.out]; rfl, HB.out⟩
    · rw [if_neg h0] at hfull
      obtain ⟨m, hm⟩ : ∃ m, l.length = m := ⟨_, rfl⟩
      have hm1 : 1 ≤ m := by rw [← hm]; exact List.length_pos_iff.2 h0
      have hq0 : ((m : Int) == 0) = false := by rw [beq_eq_false_iff_ne]; omega
      have HL := Lib.hid (And.intro hm (And.intro hle (And.intro hfull hlen)))
      rw [hm] at hlen
      clear hle h0 hfull
      go_enter Tryz.func65, Tryz.ntmps65
      go_wp2_with fail
      refine CD.out.mono ?_
      rintro e w1 ⟨v, rfl, hs, hb⟩
      obtain ⟨ao, cp, rfl, hor⟩ := hs
      rw [toZ_len, hm]
      have HB := Lib.hid (And.intro hb hor)
      clear hb hor hm
      go_wp2_with fail
      clear hq0
      go_loopw [6, 7] (fun u x wr => ∃ i s b : Nat, u = .int .i64 (s : Nat) ∧ x = .int .i64 (i : Nat) ∧ i ≤ m ∧ Hid (SumI n s b ∧ sumO (fullD dl f) (l.drop i) = some b ∧ Below w.heap.size w wr ∧ Below w1.heap.size w1 wr)) (fun _ x _ => m - (RowKit.intOf x).toNat)
      case atStart => exact ⟨0, 0, n, rfl, rfl, Nat.zero_le _, Lib.hid ⟨⟨.inl ⟨by omega, by omega⟩, by omega⟩, by rw [List.drop_zero]; exact HL.out.2.2.1, HB.out.1, Below.refl _ _⟩⟩
      case round =>
        obtain ⟨i, s, b, rfl, rfl, hi, H⟩ := hrel
        have hs17 : s ≤ 17 := H.out.1.2
        by_cases hlt : i < m
        · have e1 : (i : Int) < m := by omega
          by_cases h8 : s ≤ 8
          · have e2 : (s : Int) ≤ 8 := by omega
            have e0 : (0 : Int) ≤ (i : Int) := by omega
            have k1 : IntKind.i64.wrap ((i : Int) + 1) = ((i + 1 : Nat) : Int) := by rw [IntWalk.i64_in _ (by omega)]; omega
            obtain ⟨y, hy⟩ : ∃ y, l[i]? = some y := ⟨_, List.getElem?_eq_getElem (by rw [HL.out.1]; exact hlt)⟩
            have hyz : (toZ l)[i]? = some (y : Int) := by unfold toZ; rw [List.getElem?_map, hy]; rfl
            obtain ⟨gb, off, rfl, c0⟩ : ∃ g off, ao = some ⟨g, off, none⟩ ∧ w1.cell? ⟨g, off + i, none⟩ = some (.int .i32 (y : Int)) := by
              rcases HB.out.2 with h | ⟨g, off, e, h⟩
              · rw [h] at hyz; cases hyz
              · exact ⟨g, off, e, h i _ hyz⟩
            have d0 := (H.out.2.2.2.cell (lt_of_cell c0)).trans c0
            have hst := H.out.2.1
            have hdr : l.drop i = y :: l.drop (i + 1) := by
              obtain ⟨h1, h2⟩ := List.getElem?_eq_some_iff.1 hy
              rw [List.drop_eq_getElem_cons h1, h2]
            rw [hdr, sumO] at hst
            cases hfy : fullD dl f y with
            | none => rw [hfy] at hst; cases hst
            | some a =>
              cases hft : sumO (fullD dl f) (l.drop (i + 1)) with
              | none => rw [hfy, hft] at hst; cases hst
              | some c =>
                rw [hfy, hft] at hst
                have hbc : b = a + c := (Option.some.inj hst).symm
                have CY := Lib.hid (HI.out.2.2 y a wr (HI.out.1.below H.out.2.2.1) (HI.out.2.1.below H.out.2.2.1) (HL.out.2.1 y (List.mem_of_getElem? hy)) hfy)
                have HS := Lib.hid (And.intro (H.out.1.step h8 hbc) (And.intro hft (And.intro H.out.2.2.1 H.out.2.2.2)))
                have ha9 : min a 9 ≤ 9 := Nat.min_le_right _ _
                obtain ⟨A, hA⟩ : ∃ A, min a 9 = A := ⟨_, rfl⟩
                rw [hA] at CY HS ha9
                have k2 : IntKind.i64.wrap ((s : Int) + (A : Int)) = ((s + A : Nat) : Int) := by rw [IntWalk.i64_in _ (by omega)]; omega
                obtain ⟨Y, hY⟩ : ∃ Y : Int, (y : Int) = Y := ⟨_, rfl⟩
                rw [hY] at CY d0
                clear hst hdr hy hyz c0 hfy hft hbc H hA hlt hY
                go_wp2_with fail
                refine CY.out.mono ?_
                rintro e w2 ⟨rfl, hb2⟩
                have HB2 := Lib.hid hb2
                clear hb2
                go_wp2
                go_roundw
                case rel => exact ⟨i + 1, s + A, c, by go_num, by go_num, by omega, Lib.hid ⟨HS.out.1, HS.out.2.1, HS.out.2.2.1.trans (HB2.out.mono HS.out.2.2.1.size), HS.out.2.2.2.trans (HB2.out.mono HS.out.2.2.2.size)⟩⟩
                case measure => simp [RowKit.intOf]; omega
          · have e2 : ¬ (s : Int) ≤ 8 := by omega
            have HE := Lib.hid (H.out.1.big (by omega))
            have hmn : min (s : Int) 9 = 9 := by omega
            have HE2 : Hid (((min n 9 : Nat) : Int) = 9) := Lib.hid (by have := HE.out; omega)
            have HBB := Lib.hid H.out.2.2.1
            clear hlt h8 H HE
            go_wp2
            go_ret
            exact ⟨by rw [HE2.out]; rfl, HBB.out⟩
        · have e1 : ¬ (i : Int) < m := by omega
          obtain ⟨M, hM⟩ : ∃ M : Int, min (s : Int) 9 = M := ⟨_, rfl⟩
          have HE : Hid (((min n 9 : Nat) : Int) = M) := Lib.hid (by
            have h1 := H.out.2.1
            rw [List.drop_eq_nil_of_le (by rw [HL.out.1]; omega)] at h1
            have h2 : b = 0 := (Option.some.inj h1).symm
            have h3 := H.out.1
            rw [h2] at h3
            have := h3.end_
            omega)
          have HBB := Lib.hid H.out.2.2.1
          clear hlt H
          go_wp2
          go_ret
          exact ⟨by rw [HE.out]; rfl, HBB.out⟩
end Go.Proofs.YthhepebkfokddaaGreatDoor
