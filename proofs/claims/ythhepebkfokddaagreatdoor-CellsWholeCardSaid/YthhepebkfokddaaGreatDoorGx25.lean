/- Parts of the proof of what the last text says. -/
import Derived.Test.YthhepebkfokddaaGreatDoorGx21
import Derived.Test.YthhepebkfokddaaGreatDoorGx22
import Derived.Test.YthhepebkfokddaaGreatDoorZfx
import Derived.Test.YthhepebkfokddaaGreatDoorZlx
import Derived.Test.YthhepebkfokddaaGreatDoorGx23
import Derived.Test.YthhepebkfokddaaGreatDoorGx24
namespace Go.Proofs.YthhepebkfokddaaGreatDoor
open Go Go.RowKit Go.Kt

def celD (S : RdS) (s : ByteArray) (f k : Nat) : List (Nat × Nat) := segs S s f (untP S s (pos s k)) ((units s).drop (k + 1))
def edgK (S : RdS) (s : ByteArray) (k : Nat) : Bool := edgU (untP S s (pos s k)) (untP S s (pos s (k + 1)))
theorem units_fst (s : ByteArray) (k : Nat) (h : k < (units s).length) : (units s)[k].1 = pos s k := by
  obtain ⟨hn, e⟩ := pos_in s k h
  rw [e]
  simp [PL_units]
theorem celD_end (S : RdS) (s : ByteArray) (f k : Nat) (h : (units s).length ≤ k + 1) : celD S s f k = [(f, s.size)] := by
  unfold celD
  rw [List.drop_eq_nil_of_le h]
  rfl
theorem celD_step (S : RdS) (s : ByteArray) (f k : Nat) (h : k + 1 < (units s).length) : celD S s f k = if edgK S s k = true then (f, pos s (k + 1)) :: celD S s (pos s (k + 1)) (k + 1) else celD S s f (k + 1) := by
  unfold celD edgK
  rw [List.drop_eq_getElem_cons h, segs, units_fst s (k + 1) h]
theorem celL_D (S : RdS) (s : ByteArray) (hz : s.size ≠ 0) : celL S s = celD S s 0 0 := by
  obtain ⟨x, r, hu, h0, hc⟩ := celL_segs S s hz
  rw [hc]
  unfold celD
  rw [pos_zero, hu]
  rfl
def Chn (s : ByteArray) : Nat → List (Nat × Nat) → Prop
  | a, [] => a = s.size
  | a, c :: r => c.1 = a ∧ a < c.2 ∧ c.2 ≤ s.size ∧ a ∈ PL s ∧ Chn s c.2 r
theorem celD_chn (S : RdS) (s : ByteArray) : ∀ (n f k : Nat), (units s).length ≤ k + n → k < (units s).length → f ∈ PL s → f ≤ pos s k → Chn s f (celD S s f k)
  | 0, _, _, h, hk, _, _ => by omega
  | n + 1, f, k, h, hk, hf, hfk => by
    have hlt := pos_lt s k hk
    rcases Nat.lt_or_ge (k + 1) (units s).length with h1 | h1
    · rw [celD_step S s f k h1]
      have hst := (pos_step s k hk).1
      have hlt1 := pos_lt s (k + 1) h1
      split
      · exact ⟨rfl, by show f < pos s (k + 1); omega, by show pos s (k + 1) ≤ s.size; omega, hf, celD_chn S s n _ (k + 1) (by omega) h1 (pos_mem s (k + 1) h1) (Nat.le_refl _)⟩
      · exact celD_chn S s n f (k + 1) (by omega) h1 hf (by omega)
    · rw [celD_end S s f k h1]
      exact ⟨rfl, by show f < s.size; omega, Nat.le_refl _, hf, rfl⟩
theorem units_pos (s : ByteArray) (hz : s.size ≠ 0) : 0 < (units s).length := by
  obtain ⟨x, r, hu, _⟩ := units_cons s hz
  rw [hu]; simp
theorem celL_chn (S : RdS) (s : ByteArray) : Chn s 0 (celL S s) := by
  by_cases hz : s.size = 0
  · unfold celL
    rw [if_pos hz]
    exact hz.symm
  · rw [celL_D S s hz]
    have h0 := units_pos s hz
    have h1 := pos_mem s 0 h0
    rw [pos_zero] at h1
    exact celD_chn S s (units s).length 0 0 (by omega) h0 h1 (by rw [pos_zero]; exact Nat.le_refl _)
theorem celD_mem (S : RdS) (s : ByteArray) : ∀ (n f k : Nat), (units s).length ≤ k + n → k < (units s).length → ∀ j, ((∃ c ∈ celD S s f k, c.1 = j ∨ c.2 = j) ↔ (j = f ∨ j = s.size ∨ ∃ i, k ≤ i ∧ i + 1 < (units s).length ∧ pos s (i + 1) = j ∧ edgK S s i = true))
  | 0, _, _, h, hk, _ => by omega
  | n + 1, f, k, h, hk, j => by
    rcases Nat.lt_or_ge (k + 1) (units s).length with h1 | h1
    · rw [celD_step S s f k h1]
      by_cases he : edgK S s k = true
      · rw [if_pos he]
        have ih := celD_mem S s n (pos s (k + 1)) (k + 1) (by omega) h1 j
        constructor
        · rintro ⟨c, hc, h9⟩
          rcases List.mem_cons.1 hc with rfl | hc
          · rcases h9 with h9 | h9
            · exact .inl h9.symm
            · exact .inr (.inr ⟨k, Nat.le_refl _, h1, h9, he⟩)
          · rcases ih.1 ⟨c, hc, h9⟩ with h2 | h2 | ⟨i, i1, i2, i3, i4⟩
            · exact .inr (.inr ⟨k, Nat.le_refl _, h1, h2.symm, he⟩)
            · exact .inr (.inl h2)
            · exact .inr (.inr ⟨i, by omega, i2, i3, i4⟩)
        · rintro (h2 | h2 | ⟨i, i1, i2, i3, i4⟩)
          · exact ⟨_, List.mem_cons_self .., .inl h2.symm⟩
          · obtain ⟨c, hc, h9⟩ := ih.2 (.inr (.inl h2))
            exact ⟨c, List.mem_cons_of_mem _ hc, h9⟩
          · rcases Nat.eq_or_lt_of_le i1 with e | e
            · subst e
              exact ⟨_, List.mem_cons_self .., .inr i3⟩
            · obtain ⟨c, hc, h9⟩ := ih.2 (.inr (.inr ⟨i, e, i2, i3, i4⟩))
              exact ⟨c, List.mem_cons_of_mem _ hc, h9⟩
      · rw [if_neg he, celD_mem S s n f (k + 1) (by omega) h1 j]
        constructor
        · rintro (h2 | h2 | ⟨i, i1, i2, i3, i4⟩)
          · exact .inl h2
          · exact .inr (.inl h2)
          · exact .inr (.inr ⟨i, by omega, i2, i3, i4⟩)
        · rintro (h2 | h2 | ⟨i, i1, i2, i3, i4⟩)
          · exact .inl h2
          · exact .inr (.inl h2)
          · rcases Nat.eq_or_lt_of_le i1 with e | e
            · subst e; exact absurd i4 he
            · exact .inr (.inr ⟨i, e, i2, i3, i4⟩)
    · rw [celD_end S s f k h1]
      constructor
      · rintro ⟨c, hc, h9⟩
        obtain rfl := List.mem_singleton.1 hc
        rcases h9 with h9 | h9
        · exact .inl h9.symm
        · exact .inr (.inl h9.symm)
      · rintro (h2 | h2 | ⟨i, i1, i2, i3, i4⟩)
        · exact ⟨_, List.mem_singleton.2 rfl, .inl h2.symm⟩
        · exact ⟨_, List.mem_singleton.2 rfl, .inr h2.symm⟩
        · omega
def cenB (l : List (Nat × Nat)) (j : Nat) : Bool := l.any fun c => c.1 == j || c.2 == j
theorem cenB_iff (l : List (Nat × Nat)) (j : Nat) : cenB l j = true ↔ ∃ c ∈ l, c.1 = j ∨ c.2 = j := by simp [cenB]
theorem edge_ends (S : RdS) (s : ByteArray) (j : Nat) (hj : j ≤ s.size) : edgP S s j = cenB (celL S s) j := by
  by_cases hz : s.size = 0
  · have h1 : edgP S s j = false := by
      have h := edgP_ends S s j (.inl (by omega))
      rw [h, hz]; rfl
    rw [h1]
    unfold celL
    rw [if_pos hz]
    rfl
  have key : edgP S s j = true ↔ cenB (celL S s) j = true := by
    have h0 := units_pos s hz
    rw [cenB_iff, celL_D S s hz, celD_mem S s (units s).length 0 0 (by omega) h0 j]
    constructor
    · intro h
      by_cases h1 : j = 0
      · exact .inl h1
      by_cases h2 : j = s.size
      · exact .inr (.inl h2)
      by_cases hm : j ∈ PL s
      · obtain ⟨n, hn, e1, e2⟩ := unit_of s j (by omega)
        have e : pos s n = j := by
          rcases Nat.eq_or_lt_of_le e1 with e | e
          · exact e
          · exfalso
            have hu := units_pos s hz
            obtain ⟨d1, d2, d3⟩ := dec_width s (pos s n) (pos_lt s n hn)
            have hsu := pos_succ s n hn
            have hin := in_char s (pos s n) (j - pos s n) (pos_lt s n hn) (by omega) (by omega)
            have hw := (withP_iff s j (by omega)).2
            have : withP s j = true := by
              have hb : j - pos s n = 1 ∨ j - pos s n = 2 ∨ j - pos s n = 3 := by omega
              unfold withP
              simp only [Bool.or_eq_true, decide_eq_true_eq]
              have hd : ∀ k : Nat, j = pos s n + k → (k : Int) < (decP s ((j : Int) - k)).2 := fun k hk => by
                rw [show (j : Int) - k = (pos s n : Int) by omega, decP_in s _ (pos_lt s n hn)]
                simp only
                omega
              rcases hb with hb | hb | hb
              · exact .inl (.inl (by simpa using hd 1 (by omega)))
              · exact .inl (.inr (by simpa using hd 2 (by omega)))
              · exact .inr (by simpa using hd 3 (by omega))
            exact absurd hm ((withP_iff s j (by omega)).1 this)
        have hn0 : n ≠ 0 := fun e9 => by rw [e9, pos_zero] at e; omega
        obtain ⟨i, rfl⟩ : ∃ i, n = i + 1 := ⟨n - 1, by omega⟩
        refine .inr (.inr ⟨i, Nat.zero_le _, hn, e, ?_⟩)
        rw [← e, edgP_unit S s i hn] at h
        exact h
      · rw [edgP_within S s j (by omega) (by omega) hm] at h
        cases h
    · rintro (h1 | h1 | ⟨i, _, i2, i3, i4⟩)
      · rw [edgP_ends S s j (.inl (by omega))]; simpa using hz
      · rw [edgP_ends S s j (.inr (by omega))]; simpa using hz
      · rw [← i3, edgP_unit S s i i2]; exact i4
  cases h1 : edgP S s j <;> cases h2 : cenB (celL S s) j
  · rfl
  · rw [h1, h2] at key; simp at key
  · rw [h1, h2] at key; simp at key
  · rfl
end Go.Proofs.YthhepebkfokddaaGreatDoor
namespace Go.Proofs.YthhepebkfokddaaGreatDoor
open Go Go.RowKit Go.Kt Go.Kt.Rg Go.Maps
theorem xdcp_le {dl : List Ln3} (hv : ∀ x ∈ dl, ∀ z ∈ x.2.1, z ≤ 1114111) (r : Int) : ∀ z ∈ xdcpV dl r, z ≤ 1114111 := by
 intro z hz
 unfold xdcpV at hz
 cases hs : sylP r with
 | true =>
   rw [if_pos hs] at hz
   have h2 := hs
   rw [syl_iff] at h2
   have h2 := of_decide_eq_true h2
   obtain ⟨h3, _⟩ := parts_jam (n := (r - 44032).toNat) (by omega) z hz
   have h4 := (parts_jam (n := (r - 44032).toNat) (by omega) z hz).2
   rw [han_two, h4, Bool.false_or, jam_iff] at h3
   simp at h3
   omega
 | false =>
   rw [if_neg (by rw [hs]; decide)] at hz
   unfold ofL at hz
   cases hf : dl.find? fun x => (x.1 : Int) == r with
   | none => rw [hf] at hz; cases hz
   | some y =>
     rw [hf] at hz
     exact hv y (List.mem_of_find?_eq_some hf) z hz
def SumI (n s : Nat) (b : Nat) : Prop := (s ≤ 8 ∧ s + b = n ∨ 9 ≤ s ∧ 9 ≤ n) ∧ s ≤ 17
theorem SumI.step {n s b a c : Nat} (h : SumI n s b) (h8 : s ≤ 8) (hb : b = a + c) : SumI n (s + min a 9) c := by
 obtain ⟨h1, _⟩ := h
 unfold SumI
 omega
theorem SumI.end_ {n s : Nat} (h : SumI n s 0) : min s 9 = min n 9 := by
 obtain ⟨h1, _⟩ := h
 omega
theorem SumI.big {n s b : Nat} (h : SumI n s b) (h9 : 8 < s) : min s 9 = min n 9 := by
 obtain ⟨h1, _⟩ := h
 omega
set_option maxRecDepth 100000 in
set_option maxHeartbeats 4000000 in
theorem yfull {g : Nat} {cs ks : List (Nat × Nat × Int)} {fv dv : Value} (dl : List Ln3) (hn : dl.length ≤ 1000000) (hz : ∀ x ∈ dl, x.2.1.length ≤ 1048576) (hv : ∀ x ∈ dl, ∀ z ∈ x.2.1, z ≤ 1114111) : ∀ (f r n : Nat) (w : World), RpW g cs ks fv dv w → LfW w dv dl → r ≤ 1114111 → fullD dl f r = some n →
 Calls Tryz.prog 65 #[.pointer (some ⟨g, 0, none⟩), .int .i32 (r : Nat)] w fun e w' => e = .returned (.int .i64 ((min n 9 : Nat) : Int)) ∧ Below w.heap.size w w' := by
 intro f
 induction f with
 | zero => intro r n w _ _ _ h; cases h
 | succ f ih =>
   intro r n w hR hF hr hfull
   rw [fullD] at hfull
   have CD := Lib.hid (ydecomp dl (r : Int) w hR hF ⟨by omega, by omega⟩ hn hz)
   have hle := xdcp_le hv (r : Int)
   have hlen : (xdcpV dl (r : Int)).length ≤ 1048576 := by
    unfold xdcpV
    split
    ·unfold partsP; split <;> simp
    ·unfold ofL
     cases hf : dl.find? fun x => (x.1 : Int) == (r : Int) with
     | none => simp
     | some y => exact hz y (List.mem_of_find?_eq_some hf)
   obtain ⟨l, hl⟩ : ∃ l, xdcpV dl (r : Int) = l := ⟨_, rfl⟩
   rw [hl] at CD hfull hle hlen
   have HI := Lib.hid (And.intro hR (And.intro hF ih))
   obtain ⟨R, hRR⟩ : ∃ R : Int, (r : Int) = R := ⟨_, rfl⟩
   rw [hRR] at CD ⊢
   clear hR hF ih hl hn hz hv hr hRR
   by_cases h0 : l = []
   ·subst h0
    have HN : Hid (n = 1) := Lib.hid (by rw [if_pos rfl] at hfull; exact (Option.some.inj hfull).symm)
    clear hfull hle hlen
    go_enter Tryz.func65, Tryz.ntmps65
    go_wp2_with fail
    refine CD.out.mono ?_
    rintro e w1 ⟨v, rfl, hs, hb⟩
    obtain ⟨ao, cp, rfl, _⟩ := hs
    have HB := Lib.hid hb
    clear hb
    go_wp2
    go_ret
    exact ⟨by rw [HN.out]; rfl, HB.out⟩
   ·rw [if_neg h0] at hfull
    obtain ⟨m, hm⟩ : ∃ m, l.length = m := ⟨_, rfl⟩
    have hm1 : 1 ≤ m := by rw [← hm]; exact List.length_pos_iff.2 h0
    have hq0 : ((m : Int) == 0) = false := by rw [beq_eq_false_iff_ne]; omega
    have HL := Lib.hid (And.intro hm (And.intro hle (And.intro hfull hlen)))
    rw [hm] at hlen
    clear hle h0 hfull
    go_enter Tryz.func65, Tryz.ntmps65
    go_wp2_with fail
    refine CD.out.mono ?_
    rintro e w1 ⟨v, rfl, hs, hb⟩
    obtain ⟨ao, cp, rfl, hor⟩ := hs
    rw [toZ_len, hm]
    have HB := Lib.hid (And.intro hb hor)
    clear hb hor hm
    go_wp2_with fail
    clear hq0
    go_loopw [6, 7] (fun u x wr => ∃ i s b : Nat, u = .int .i64 (s : Nat) ∧ x = .int .i64 (i : Nat) ∧ i ≤ m ∧ Hid (SumI n s b ∧ sumO (fullD dl f) (l.drop i) = some b ∧ Below w.heap.size w wr ∧ Below w1.heap.size w1 wr)) (fun _ x _ => m - (RowKit.intOf x).toNat)
    case atStart => exact ⟨0, 0, n, rfl, rfl, Nat.zero_le _, Lib.hid ⟨⟨.inl ⟨by omega, by omega⟩, by omega⟩, by rw [List.drop_zero]; exact HL.out.2.2.1, HB.out.1, Below.refl _ _⟩⟩
    case round =>
     obtain ⟨i, s, b, rfl, rfl, hi, H⟩ := hrel
     have hs17 : s ≤ 17 := H.out.1.2
     by_cases hlt : i < m
     ·have e1 : (i : Int) < m := by omega
      by_cases h8 : s ≤ 8
      ·have e2 : (s : Int) ≤ 8 := by omega
       have e0 : (0 : Int) ≤ (i : Int) := by omega
       have k1 : IntKind.i64.wrap ((i : Int) + 1) = ((i + 1 : Nat) : Int) := by rw [IntWalk.i64_in _ (by omega)]; omega
       obtain ⟨y, hy⟩ : ∃ y, l[i]? = some y := ⟨_, List.getElem?_eq_getElem (by rw [HL.out.1]; exact hlt)⟩
       have hyz : (toZ l)[i]? = some (y : Int) := by unfold toZ; rw [List.getElem?_map, hy]; rfl
       obtain ⟨gb, off, rfl, c0⟩ : ∃ g off, ao = some ⟨g, off, none⟩ ∧ w1.cell? ⟨g, off + i, none⟩ = some (.int .i32 (y : Int)) := by
        rcases HB.out.2 with h | ⟨g, off, e, h⟩
        ·rw [h] at hyz; cases hyz
        ·exact ⟨g, off, e, h i _ hyz⟩
       have d0 := (H.out.2.2.2.cell (lt_of_cell c0)).trans c0
       have hst := H.out.2.1
       have hdr : l.drop i = y :: l.drop (i + 1) := by
        obtain ⟨h1, h2⟩ := List.getElem?_eq_some_iff.1 hy
        rw [List.drop_eq_getElem_cons h1, h2]
       rw [hdr, sumO] at hst
       cases hfy : fullD dl f y with
       | none => rw [hfy] at hst; cases hst
       | some a =>
         cases hft : sumO (fullD dl f) (l.drop (i + 1)) with
         | none => rw [hfy, hft] at hst; cases hst
         | some c =>
           rw [hfy, hft] at hst
           have hbc : b = a + c := (Option.some.inj hst).symm
           have CY := Lib.hid (HI.out.2.2 y a wr (HI.out.1.below H.out.2.2.1) (HI.out.2.1.below H.out.2.2.1) (HL.out.2.1 y (List.mem_of_getElem? hy)) hfy)
           have HS := Lib.hid (And.intro (H.out.1.step h8 hbc) (And.intro hft (And.intro H.out.2.2.1 H.out.2.2.2)))
           have ha9 : min a 9 ≤ 9 := Nat.min_le_right _ _
           obtain ⟨A, hA⟩ : ∃ A, min a 9 = A := ⟨_, rfl⟩
           rw [hA] at CY HS ha9
           have k2 : IntKind.i64.wrap ((s : Int) + (A : Int)) = ((s + A : Nat) : Int) := by rw [IntWalk.i64_in _ (by omega)]; omega
           obtain ⟨Y, hY⟩ : ∃ Y : Int, (y : Int) = Y := ⟨_, rfl⟩
           rw [hY] at CY d0
           clear hst hdr hy hyz c0 hfy hft hbc H hA hlt hY
           go_wp2_with fail
           refine CY.out.mono ?_
           rintro e w2 ⟨rfl, hb2⟩
           have HB2 := Lib.hid hb2
           clear hb2
           go_wp2
           go_roundw
           case rel => exact ⟨i + 1, s + A, c, by go_num, by go_num, by omega, Lib.hid ⟨HS.out.1, HS.out.2.1, HS.out.2.2.1.trans (HB2.out.mono HS.out.2.2.1.size), HS.out.2.2.2.trans (HB2.out.mono HS.out.2.2.2.size)⟩⟩
           case measure => simp [RowKit.intOf]; omega
      ·have e2 : ¬ (s : Int) ≤ 8 := by omega
       have HE := Lib.hid (H.out.1.big (by omega))
       have hmn : min (s : Int) 9 = 9 := by omega
       have HE2 : Hid (((min n 9 : Nat) : Int) = 9) := Lib.hid (by have := HE.out; omega)
       have HBB := Lib.hid H.out.2.2.1
       clear hlt h8 H HE
       go_wp2
       go_ret
       exact ⟨by rw [HE2.out]; rfl, HBB.out⟩
     ·have e1 : ¬ (i : Int) < m := by omega
      obtain ⟨M, hM⟩ : ∃ M : Int, min (s : Int) 9 = M := ⟨_, rfl⟩
      have HE : Hid (((min n 9 : Nat) : Int) = M) := Lib.hid (by
       have h1 := H.out.2.1
       rw [List.drop_eq_nil_of_le (by rw [HL.out.1]; omega)] at h1
       have h2 : b = 0 := (Option.some.inj h1).symm
       have h3 := H.out.1
       rw [h2] at h3
       have := h3.end_
       omega)
      have HBB := Lib.hid H.out.2.2.1
      clear hlt H
      go_wp2
      go_ret
      exact ⟨by rw [HE.out]; rfl, HBB.out⟩
end Go.Proofs.YthhepebkfokddaaGreatDoor
namespace Go.Proofs.YthhepebkfokddaaGreatDoor
open Go Go.RowKit Go.Kt Go.Kt.Rg Go.Maps
theorem results_tc {P : Program} {fn : Func} {p a : Tmp} {ty : TypeId} (h : fn.results = #[.tmp a, .cell p ty]) (tmps : Array Value) (w : World) (g : Nat) (t : TypeId) (cs : Array Value) (fr : Nat × Nat) (d : TypeDesc)
 (hp : tmps.getD p undef = .pointer (some ⟨g, 0, none⟩)) (hg : w.heap[g]? = some (.cells cs t fr))
 (hu : P.underlying ty = some d) (hd : (match d with | .struct _ | .array _ _ => true | _ => false) = true) (hi : (P.info? ty).map (·.size) = some cs.size) :
 (results fn tmps).run P w = .ok (.tuple #[tmps.getD a undef, .agg cs]) w := by
 have hp' : tmps[p]?.getD undef = .pointer (some ⟨g, 0, none⟩) := by simpa using hp
 simp [results, h, hp', asAddr, run_loadVar_row w g t ty cs fr d hg hu hd hi]
theorem fault_w {W : World} {rb : Nat} {a b : Value} (h : W.heap[rb]? = some (.cells #[a, b] 74 (0, 0))) (x : Value) : W.cell? ⟨rb, 0, none⟩ = some a ∧ W.frozen? ⟨rb, 0, none⟩ = false ∧ (W.setCell ⟨rb, 0, none⟩ x).cell? ⟨rb, 1, none⟩ = some b ∧ (W.setCell ⟨rb, 0, none⟩ x).frozen? ⟨rb, 1, none⟩ = false := by
 have h1 := heap_setCell_same W rb 0 _ _ x h
 exact ⟨by rw [Lib.cell_of_heap h]; rfl, Lib.frozen_of_heap h _, by rw [Lib.cell_of_heap h1]; rfl, Lib.frozen_of_heap h1 _⟩
theorem fault_k (W : World) (rb : Nat) (x y : Value) : Keep (fun b => b = rb) W ((W.setCell ⟨rb, 0, none⟩ x).setCell ⟨rb, 1, none⟩ y) :=
 (Keep.setCell (X := fun b => b = rb) (Keep.refl _ W) (p := ⟨rb, 0, none⟩) rfl x).trans (Keep.setCell (X := fun b => b = rb) (Keep.refl _ _) (p := ⟨rb, 1, none⟩) rfl y)
def FineX (S : RdS) (w : World) (e : Ending) (w' : World) : Prop :=
 ∃ g X cv kv fv dv B0 ρ, e = .returned (.tuple #[.pointer (some ⟨g, 0, none⟩), .agg #[.int .i64 0, .int .i64 0]]) ∧ PxW B0 ρ g X cv kv fv dv w' ∧ XRel X S ∧ (X.fl.length ≤ 65536 ∧ X.dl.length ≤ 65536) ∧ Below w.heap.size w w'
def ParseX (l : List UInt8) (w : World) (e : Ending) (w' : World) : Prop :=
 ∃ no line S L, ParseR l no line S L ∧ ((no = 0 ∧ FineX S w e w') ∨ (no ≠ 0 ∧ Below w.heap.size w w' ∧ e = .returned (.tuple #[.pointer none, .agg #[.int .i64 (no : Nat), .int .i64 (line : Nat)]])))
def RdI (l : List UInt8) (i : Nat) (S : RdS) : Prop := readP 0 rd0 (linesP l) = readP i S ((linesP l).drop i) ∧ RdOk i S
theorem rdI0 (l : List UInt8) : RdI l 0 rd0 := ⟨by rw [List.drop_zero], rd0_ok⟩
theorem RdI.step {l : List UInt8} {i : Nat} {S : RdS} {x : List UInt8} (h : RdI l i S) (hx : (linesP l)[i]? = some x) (h0 : (takeP (i + 1) S (wrdP x)).1 = 0) : RdI l (i + 1) (takeP (i + 1) S (wrdP x)).2 := by
 obtain ⟨q1, q2⟩ := List.getElem?_eq_some_iff.1 hx
 refine ⟨?_, takeP_ok h.2 h0⟩
 rw [h.1, List.drop_eq_getElem_cons q1, q2, readP, if_neg (by simpa using h0)]
theorem RdI.bad {l : List UInt8} {i no : Nat} {S : RdS} {x : List UInt8} (h : RdI l i S) (hx : (linesP l)[i]? = some x) (h0 : (takeP (i + 1) S (wrdP x)).1 = no) (hn : no ≠ 0) (hsz : ¬ (1048576 < l.length ∨ 65536 < lnC l)) : ParseR l no (i + 1) S [] := by
 obtain ⟨q1, q2⟩ := List.getElem?_eq_some_iff.1 hx
 have hr : readP 0 rd0 (linesP l) = (no, i + 1, S) := by
  rw [h.1, List.drop_eq_getElem_cons q1, q2, readP, if_pos (by rw [h0]; exact hn), h0]
 exact .inr (.inl ⟨hsz, by rw [hr]; exact hn, by rw [hr], by rw [hr]⟩)
theorem RdI.done {l : List UInt8} {S : RdS} (h : RdI l (linesP l).length S) : (readP 0 rd0 (linesP l)).1 = 0 ∧ S = (readP 0 rd0 (linesP l)).2.2 := by
 rw [h.1, List.drop_eq_nil_of_le (Nat.le_refl _)]
 exact ⟨rfl, rfl⟩
theorem lnC_le (m : List UInt8) : lnC m ≤ m.length := by
 rw [← linesP_len]
 have : ∀ (n : Nat) (l : List UInt8), l.length ≤ n → (linesP l).length ≤ l.length := by
  intro n
  induction n with
  | zero =>
    intro l hl
    obtain rfl : l = [] := List.length_eq_zero_iff.1 (by omega)
    simp [linesP_nil]
  | succ n ih =>
    intro l hl
    rcases line_cut l with h | ⟨c, rest, rfl, h2, h3⟩
    ·rw [lines_one l h]
     split
     ·simp
     ·rename_i hne
      have := List.length_pos_iff.2 hne
      simp; omega
    ·rw [lines_cons c rest h2]
     have := ih rest (by omega)
     simp; omega
 exact this m.length m (Nat.le_refl _)
theorem pxw0 {w W : World} (hW : W = w.alloc (.cells #[.slice none 0 0, .slice none 0 0, .slice none 0 0, .slice none 0 0] 115)) : PxW w.heap.size (fun b => if b = w.heap.size then 1 else 0) w.heap.size ⟨[], [], [], []⟩ (.slice none 0 0) (.slice none 0 0) (.slice none 0 0) (.slice none 0 0) W := by
 subst hW
 exact {
  hr := fun b hb => by
   by_cases h : b = w.heap.size
   ·omega
   ·simp only [if_neg h] at hb; omega
  hB := by rw [World.size_alloc]; omega
  rg := if_pos rfl
  cell := heap_alloc_new _ _
  c := own_nil _ _ _ _
  k := own_nil _ _ _ _
  f := ⟨[], rfl, own_nil _ _ _ _, fun p hp => by cases hp⟩
  d := ⟨[], rfl, own_nil _ _ _ _, fun p hp => by cases hp⟩ }
theorem XRel.lens {X : XdS} {S : RdS} (h : XRel X S) {k : Nat} (hS : RdOk k S) : (X.cs.length ≤ k ∧ X.ks.length ≤ k) ∧ (∀ x ∈ X.dl, x.2.1.length ≤ 1048576 ∧ (∀ z ∈ x.2.1, z ≤ 1114111) ∧ x.1 ≤ 1114111) := by
 refine ⟨⟨by rw [← h.cs]; exact hS.cs.1, by rw [← h.ks]; exact hS.ks.1⟩, fun x hx => ?_⟩
 obtain ⟨q1, q2, q3⟩ := hS.ds _ _ (h.at hx).1
 exact ⟨by omega, fun z hz => valid_le (q3 z hz), valid_le q1.1⟩
end Go.Proofs.YthhepebkfokddaaGreatDoor
namespace Go.Proofs.YthhepebkfokddaaGreatDoor
open Go.Lib Go.Shelf
set_option maxRecDepth 100000
noncomputable abbrev theLaidD : List (String × DataW Unit) := theLaidX
noncomputable abbrev worldD (os : Os) : World := worldX os
theorem worldD_os (os : Os) : (worldD os).os = os := worldX_os os
theorem laid_metD (os : Os) (args : Array Value) : laidMetH Tryz.prog theLaidD ((worldD os).forCall (fun _ _ => 0) ⟨#[], args, []⟩).memory := laid_metX os args
theorem of_laidD {W : World} (h : laidMetH Tryz.prog theLaidX W) (hsh : W.ShapedOpen Tryz.prog) : (PEnv W ∧ KTabX W) ∧ Lib.Utf8Tabs 3 4 W := by
 refine ⟨of_laidX h hsh, ?_⟩
 have h' : laidMet Tryz.prog theLaidX W := by rw [MakeChecks.laidMetH_plain _ _ _ (by kernel_rfl)] at h; exact h
 exact tabs_of_reads (accept_eq ▸ laidMet.reads h' (.tail _ (.tail _ (.tail _ (.tail _ (.head _)))))) (Pinned.utf8First_eq ▸ laidMet.reads h' (.tail _ (.tail _ (.tail _ (.tail _ (.tail _ (.tail _ (.tail _ (.tail _ (.head _))))))))))
end Go.Proofs.YthhepebkfokddaaGreatDoor
