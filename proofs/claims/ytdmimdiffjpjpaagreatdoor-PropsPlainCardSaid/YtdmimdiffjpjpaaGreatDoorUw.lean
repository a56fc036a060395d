/- props: what is composed of two points, and of which it is: mathematics. -/
import Derived.Test.YtdmimdiffjpjpaaGreatDoorUu
namespace Go.Proofs.YtdmimdiffjpjpaaGreatDoor
open Go Go.RowKit Go.Kt Go.Kt.Rg Go.Maps

theorem lastV_append (l m : List Rw3) (e : Nat) : lastV (l ++ m) e = match lastV m e with | some v => some v | none => lastV l e := by
  induction l with
  | nil => cases h : lastV m e <;> simp [lastV, h]
  | cons x t ih =>
    rw [List.cons_append, lastV, ih]
    cases h : lastV m e with
    | some v => rfl
    | none => simp only [lastV]
/-- Hangul has no class. -/
theorem clsV_han (S : RdS) {a : Int} (h : hanP a = true) : clsV S a = 0 := by
  have h0 : 4352 ≤ a ∧ a < 55204 ∧ ((44032 ≤ a ∧ a < 55204) ∨ (4352 ≤ a ∧ a < 4371) ∨ (4449 ≤ a ∧ a < 4470) ∨ (4520 ≤ a ∧ a < 4547)) := by
    simp [hanP, sylP, leadP, vowP, tailP] at h
    omega
  unfold clsV
  rw [if_neg (by omega)]
  obtain ⟨e, he⟩ : ∃ e : Nat, a = (e : Int) := ⟨a.toNat, by omega⟩
  subst he
  rw [Int.toNat_natCast, lastV_append]
  have hn : lastV noR e = none := lastV_none.2 (by intro x hx; simp [noR] at hx; subst hx; simp [holdsR]; omega)
  rw [hn]
  simp only
  rw [lastV_append]
  have hh : lastV hanR e = some 0 := by
    simp only [hanR, lastV, holdsR]
    by_cases c4 : 4520 ≤ e ∧ e ≤ 4546
    · simp [c4]
    · by_cases c3 : 4449 ≤ e ∧ e ≤ 4469
      · simp [c4, c3]
      · by_cases c2 : 4352 ≤ e ∧ e ≤ 4370
        · simp [c4, c3, c2]
        · have c1 : 44032 ≤ e ∧ e ≤ 55203 := by omega
          simp [c4, c3, c2, c1]
  rw [hh]
  rfl
theorem mdStep_two {S : RdS} {md : MdT} {x a b : Nat} (h : S.ds x = some [a, b]) : mdStep S md x = if clsV S (a : Int) ≠ 0 then md else if (md a b).isSome then md else updP md a b x := by
  unfold mdStep
  rw [h]
theorem mdStep_no {S : RdS} {md : MdT} {x : Nat} (h : ∀ a b, S.ds x ≠ some [a, b]) : mdStep S md x = md := by
  unfold mdStep
  split
  · rename_i h9; exact absurd h9 (h _ _)
  · rfl
/-- What pairs make, behind the first i points. -/
theorem mdOf_spec (S : RdS) {L : List Nat} (hL : L.Pairwise (· < ·)) : ∀ i, i ≤ L.length →
    (∀ x y r, mdOf S (L.take i) x y = some r → ∃ (a b j : Nat), x = (a : Int) ∧ y = (b : Int) ∧ S.ds r = some [a, b] ∧ clsV S (a : Int) = 0 ∧ j < i ∧ L[j]? = some r) ∧
    (∀ (j r a b : Nat), j < i → L[j]? = some r → S.ds r = some [a, b] → clsV S (a : Int) = 0 → ∃ c, mdOf S (L.take i) (a : Int) (b : Int) = some c ∧ c ≤ r)
  | 0, _ => ⟨fun x y r h => by simp [mdOf] at h, fun j r a b h => absurd h (by omega)⟩
  | i + 1, hi => by
    obtain ⟨h1, h2⟩ := mdOf_spec S hL i (by omega)
    obtain ⟨x, hx⟩ : ∃ x, L[i]? = some x := ⟨_, List.getElem?_eq_getElem (by omega)⟩
    rw [mdOf_snoc S hx]
    have up1 : ∀ x y r, mdOf S (L.take i) x y = some r → ∃ (a b j : Nat), x = (a : Int) ∧ y = (b : Int) ∧ S.ds r = some [a, b] ∧ clsV S (a : Int) = 0 ∧ j < i + 1 ∧ L[j]? = some r := fun u v r h => by
      obtain ⟨a, b, j, e1, e2, e3, e4, e5, e6⟩ := h1 u v r h
      exact ⟨a, b, j, e1, e2, e3, e4, by omega, e6⟩
    by_cases hx2 : ∃ a0 b0, S.ds x = some [a0, b0]
    · obtain ⟨a0, b0, hds⟩ := hx2
      rw [mdStep_two hds]
      by_cases hc : clsV S (a0 : Int) ≠ 0
      · rw [if_pos hc]
        refine ⟨up1, fun j r a b hj hr hd hcl => ?_⟩
        by_cases e : j = i
        · subst e
          rw [hx] at hr
          cases hr
          rw [hds] at hd
          cases hd
          exact absurd hcl hc
        · exact h2 j r a b (by omega) hr hd hcl
      · rw [if_neg hc]
        have hc0 : clsV S (a0 : Int) = 0 := by simpa using hc
        cases hm : mdOf S (L.take i) (a0 : Int) (b0 : Int) with
        | some c =>
          simp only [Option.isSome_some, if_true]
          refine ⟨up1, fun j r a b hj hr hd hcl => ?_⟩
          by_cases e : j = i
          · subst e
            rw [hx] at hr
            cases hr
            rw [hds] at hd
            cases hd
            refine ⟨c, hm, ?_⟩
            obtain ⟨_, _, j', _, _, _, _, h5, h6⟩ := h1 _ _ _ hm
            have q1 := List.getElem?_eq_some_iff.1 h6
            have q2 := List.getElem?_eq_some_iff.1 hx
            have := (List.pairwise_iff_getElem.1 hL) j' j q1.1 q2.1 h5
            rw [q1.2, q2.2] at this
            omega
          · exact h2 j r a b (by omega) hr hd hcl
        | none =>
          simp only [Option.isSome_none, Bool.false_eq_true, if_false]
          refine ⟨fun u v r h => ?_, fun j r a b hj hr hd hcl => ?_⟩
          · unfold updP at h
            by_cases e : u = (a0 : Int) ∧ v = (b0 : Int)
            · rw [if_pos e] at h
              cases h
              exact ⟨a0, b0, i, e.1, e.2, hds, hc0, by omega, hx⟩
            · rw [if_neg e] at h
              exact up1 u v r h
          · unfold updP
            by_cases e : (a : Int) = (a0 : Int) ∧ (b : Int) = (b0 : Int)
            · rw [if_pos e]
              refine ⟨x, rfl, ?_⟩
              by_cases e2 : j = i
              · subst e2; rw [hx] at hr; cases hr; exact Nat.le_refl _
              · obtain ⟨c, hc9, _⟩ := h2 j r a b (by omega) hr hd hcl
                rw [e.1, e.2, hm] at hc9
                cases hc9
            · rw [if_neg e]
              by_cases e2 : j = i
              · subst e2
                rw [hx] at hr
                cases hr
                rw [hds] at hd
                cases hd
                exact absurd ⟨rfl, rfl⟩ e
              · exact h2 j r a b (by omega) hr hd hcl
    · have hno : ∀ a b, S.ds x ≠ some [a, b] := fun a b h => hx2 ⟨a, b, h⟩
      rw [mdStep_no hno]
      refine ⟨up1, fun j r a b hj hr hd hcl => ?_⟩
      by_cases e : j = i
      · subst e
        rw [hx] at hr
        cases hr
        exact absurd hd (hno a b)
      · exact h2 j r a b (by omega) hr hd hcl
theorem md_some {S : RdS} {L : List Nat} (hL : L.Pairwise (· < ·)) {x y : Int} {r : Nat} (h : mdOf S L x y = some r) : ∃ (a b : Nat), x = (a : Int) ∧ y = (b : Int) ∧ S.ds r = some [a, b] ∧ clsV S (a : Int) = 0 := by
  have := (mdOf_spec S hL L.length (Nat.le_refl _)).1 x y r (by rw [List.take_length]; exact h)
  obtain ⟨a, b, _, e1, e2, e3, e4, _⟩ := this
  exact ⟨a, b, e1, e2, e3, e4⟩
theorem md_has {S : RdS} {L : List Nat} (hL : L.Pairwise (· < ·)) (hm : ∀ x, x ∈ L ↔ (S.ds x).isSome = true) {r a b : Nat} (hd : S.ds r = some [a, b]) (hc : clsV S (a : Int) = 0) : ∃ c, mdOf S L (a : Int) (b : Int) = some c ∧ c ≤ r := by
  obtain ⟨j, hj⟩ := List.getElem?_of_mem ((hm r).2 (by rw [hd]; rfl))
  have := (mdOf_spec S hL L.length (Nat.le_refl _)).2 j r a b (List.getElem?_eq_some_iff.1 hj).1 hj hd hc
  rw [List.take_length] at this
  exact this
theorem parts_two (n : Nat) (h : n % 28 = 0) : partsP n = [4352 + n / 28 / 21, 4449 + n / 28 % 21] := by simp [partsP, h]
theorem parts_three (n : Nat) (h : ¬ n % 28 = 0) : partsP n = [4352 + n / 28 / 21, 4449 + n / 28 % 21, 4519 + n % 28] := by simp [partsP, h]
theorem dcp_syl {S : RdS} {r : Int} (h1 : 44032 ≤ r) (h2 : r ≤ 55203) : dcpV S r = partsP (r - 44032).toNat := by
  unfold dcpV
  rw [if_pos (by simp [sylP]; omega)]
theorem dcp_no {S : RdS} {r : Int} (h : r < 44032 ∨ 55203 < r) : dcpV S r = (atZ S.ds r).getD [] := by
  unfold dcpV
  rw [if_neg (by simp [sylP]; omega)]
theorem cmpV_none {md : MdT} {a b : Int} (h : synP a b = none) : cmpV md a b = (md a b).map (fun x : Nat => (x : Int)) := by
  unfold cmpV
  rw [h]
  cases md a b <;> rfl
/-- What is composed of two points: how its decomposition is told of them. -/
theorem cmp_ok {k : Nat} {S : RdS} {L : List Nat} (hS : RdOk k S) (hL : L.Pairwise (· < ·)) {a b r : Int} (h : cmpV (mdOf S L) a b = some r) :
    clsV S a = 0 ∧ I32 r ∧ (((r < 44032 ∨ 55203 < r ∨ a < 44032 ∨ 55203 < a) ∧ toZ (dcpV S r) = [a, b]) ∨ (¬ (r < 44032 ∨ 55203 < r ∨ a < 44032 ∨ 55203 < a) ∧ dcpV S a ≠ [] ∧ toZ (dcpV S r) = toZ (dcpV S a) ++ [b])) := by
  have hC := h
  unfold cmpV at h
  unfold synP at h
  by_cases h1 : (leadP a && vowP b) = true
  · rw [if_pos h1] at h
    simp only [Option.some.injEq] at h
    have hr : 4352 ≤ a ∧ a < 4371 ∧ 4449 ≤ b ∧ b < 4470 := by
      simp [leadP, vowP] at h1
      omega
    obtain ⟨m, hm⟩ : ∃ m : Nat, a = 4352 + (m : Int) := ⟨(a - 4352).toNat, by omega⟩
    obtain ⟨n, hn⟩ : ∃ n : Nat, b = 4449 + (n : Int) := ⟨(b - 4449).toNat, by omega⟩
    subst hm; subst hn
    have e9 : (4352 + (m : Int) - 4352) * 21 + (4449 + (n : Int)) - 4449 = ((m * 21 + n : Nat) : Int) := by omega
    rw [e9] at h
    subst h
    refine ⟨clsV_han S (by simp [hanP, leadP]; omega), ⟨by omega, by omega⟩, .inl ⟨by omega, ?_⟩⟩
    rw [dcp_syl (by omega) (by omega), show ((44032 + ((m * 21 + n : Nat) : Int) * 28) - 44032).toNat = (m * 21 + n) * 28 by omega, parts_two _ (by omega)]
    rw [show (m * 21 + n) * 28 / 28 / 21 = m by omega, show (m * 21 + n) * 28 / 28 % 21 = n by omega]
    simp [toZ]
  · rw [if_neg h1] at h
    by_cases h2 : (sylP a && decide ((a - 44032) % 28 = 0) && tailP b) = true
    · rw [if_pos h2] at h
      simp only [Option.some.injEq] at h
      have hr : 44032 ≤ a ∧ a < 55204 ∧ (a - 44032) % 28 = 0 ∧ 4520 ≤ b ∧ b < 4547 := by
        simp [sylP, tailP] at h2
        omega
      obtain ⟨m, hm⟩ : ∃ m : Nat, a = 44032 + ((28 * m : Nat) : Int) := ⟨((a - 44032) / 28).toNat, by omega⟩
      obtain ⟨n, hn⟩ : ∃ n : Nat, b = 4520 + (n : Int) := ⟨(b - 4520).toNat, by omega⟩
      subst hm; subst hn
      have e9 : 44032 + ((28 * m : Nat) : Int) + 1 + (4520 + (n : Int)) - 4520 = 44032 + ((28 * m + n + 1 : Nat) : Int) := by omega
      rw [e9] at h
      subst h
      have d1 : dcpV S (44032 + ((28 * m + n + 1 : Nat) : Int)) = [4352 + m / 21, 4449 + m % 21, 4519 + (n + 1)] := by
        rw [dcp_syl (by omega) (by omega), show (44032 + ((28 * m + n + 1 : Nat) : Int) - 44032).toNat = 28 * m + n + 1 by omega, parts_three _ (by omega)]
        rw [show (28 * m + n + 1) / 28 = m by omega, show (28 * m + n + 1) % 28 = n + 1 by omega]
      have d2 : dcpV S (44032 + ((28 * m : Nat) : Int)) = [4352 + m / 21, 4449 + m % 21] := by
        rw [dcp_syl (by omega) (by omega), show (44032 + ((28 * m : Nat) : Int) - 44032).toNat = 28 * m by omega, parts_two _ (by omega)]
        rw [show 28 * m / 28 = m by omega]
      refine ⟨clsV_han S (by simp [hanP, sylP]; omega), ⟨by omega, by omega⟩, .inr ⟨by omega, ?_, ?_⟩⟩
      · rw [d2]
        simp
      · rw [d1, d2]
        simp [toZ]
        omega
    · rw [if_neg h2] at h
      obtain ⟨z, hz, rfl⟩ : ∃ z, mdOf S L a b = some z ∧ (z : Int) = r := by
        rw [cmpV_none (by unfold synP; rw [if_neg h1, if_neg h2])] at hC
        replace h := hC
        cases hz : mdOf S L a b with
        | none => rw [hz] at h; cases h
        | some z => rw [hz] at h; cases h; exact ⟨z, rfl, rfl⟩
      obtain ⟨x, y, rfl, rfl, hd, hc⟩ := md_some hL hz
      obtain ⟨⟨v1, v2⟩, _, _⟩ := hS.ds z _ hd
      have hzl := valid_le v1
      have hns : (z : Int) < 44032 ∨ 55203 < (z : Int) := by
        simp [hanP, sylP] at v2
        omega
      refine ⟨hc, ⟨by omega, by omega⟩, .inl ⟨by omega, ?_⟩⟩
      rw [dcp_no hns, atZ_nat, hd]
      simp [toZ]
/-- A decomposition into two, of which the first has no class, is composed. -/
theorem ask_ok {S : RdS} {L : List Nat} (hL : L.Pairwise (· < ·)) (hm : ∀ x, x ∈ L ↔ (S.ds x).isSome = true) {r : Int} {x y : Nat} (h : dcpV S r = [x, y]) (hc : clsV S (x : Int) = 0) :
    ∃ c, cmpV (mdOf S L) (x : Int) (y : Int) = some c ∧ (c ≤ r ∨ (44032 ≤ c ∧ c ≤ 55203)) := by
  by_cases hs : 44032 ≤ r ∧ r ≤ 55203
  · rw [dcp_syl hs.1 hs.2] at h
    by_cases h28 : (r - 44032).toNat % 28 = 0
    · rw [parts_two _ h28] at h
      obtain ⟨n, hn⟩ : ∃ n : Nat, r = 44032 + ((28 * n : Nat) : Int) := ⟨(r - 44032).toNat / 28, by omega⟩
      subst hn
      rw [show (44032 + ((28 * n : Nat) : Int) - 44032).toNat = 28 * n by omega, show 28 * n / 28 = n by omega] at h
      simp only [List.cons.injEq, and_true] at h
      obtain ⟨rfl, rfl⟩ := h
      refine ⟨44032 + ((28 * n : Nat) : Int), ?_, .inl (Int.le_refl _)⟩
      unfold cmpV synP
      rw [if_pos (by simp [leadP, vowP]; omega)]
      simp only
      congr 1
      omega
    · rw [parts_three _ h28] at h
      simp at h
  · have hns : r < 44032 ∨ 55203 < r := by omega
    rw [dcp_no hns] at h
    unfold atZ at h
    by_cases h0 : 0 ≤ r
    · rw [if_pos h0] at h
      obtain ⟨z, hz⟩ : ∃ z : Nat, r = (z : Int) := ⟨r.toNat, by omega⟩
      subst hz
      rw [Int.toNat_natCast] at h
      cases hd : S.ds z with
      | none => rw [hd] at h; cases h
      | some l =>
        rw [hd] at h
        simp only [Option.getD_some] at h
        subst h
        cases hsy : synP (x : Int) (y : Int) with
        | some c =>
          refine ⟨c, by unfold cmpV; rw [hsy], .inr ?_⟩
          unfold synP at hsy
          split at hsy
          · rename_i h1
            simp [leadP, vowP] at h1
            simp only [Option.some.injEq] at hsy
            omega
          · split at hsy
            · rename_i h1
              simp [sylP, tailP] at h1
              simp only [Option.some.injEq] at hsy
              omega
            · cases hsy
        | none =>
          obtain ⟨c, hc1, hc2⟩ := md_has hL hm hd hc
          refine ⟨(c : Int), ?_, .inl (by omega)⟩
          rw [cmpV_none hsy, hc1]
          rfl
    · rw [if_neg h0] at h
      cases h
end Go.Proofs.YtdmimdiffjpjpaaGreatDoor
