/- Parts of the proof of what the last text says. -/
import Derived.Test.YtfpfpaaojdodnaaGreatDoorGz18
import Derived.Test.YtfpfpaaojdodnaaGreatDoorGz15
import Derived.Test.YtfpfpaaojdodnaaGreatDoorGz9
import Derived.Test.YtfpfpaaojdodnaaGreatDoorGz5
import Derived.Test.YtfpfpaaojdodnaaGreatDoorGz13
/- props: what the laws call themselves: read, works. -/
namespace Go.Proofs.YtfpfpaaojdodnaaGreatDoor
open Go Go.RowKit Go.Kt Go.Kt.Rg Go.Maps

theorem NewZ.sl {H : Nat} {l : List Int} {e : Ending} {w : World} (h : NewZ H l e w) : ∃ v, e = .returned v ∧ Sl .i32 w v l := by
  obtain ⟨ao, cp, rfl, ho⟩ := h
  refine ⟨_, rfl, ao, cp, rfl, ?_⟩
  rcases ho.shape with ⟨hv, h0⟩ | ⟨gb, cap, hv, hg, hgl⟩
  · exact .inl (List.length_eq_zero_iff.1 h0)
  · cases hv
    refine .inr ⟨gb, 0, rfl, fun i x hx => ?_⟩
    rw [Nat.zero_add]
    refine ho.at0 (i := i) ?_
    simp [encZ, List.getElem?_map, hx]
def PrOk (g : Nat) (l : List UInt8) (S : RdS) (L : List Nat) (w : World) : Prop := ParseR l 0 (ringP S (L.length + 1) L fun _ => none).2 S L ∧ PrW g S (mdOf S L) w
theorem ParseR.ok {l : List UInt8} {line : Nat} {S : RdS} {L : List Nat} (h : ParseR l 0 line S L) : S = (readP 0 rd0 (linesP l)).2.2 ∧ (readP 0 rd0 (linesP l)).1 = 0 ∧ RdOk 65536 S ∧ L.Pairwise (· < ·) ∧ (∀ x, x ∈ L ↔ (S.ds x).isSome = true) := by
  rcases h with ⟨_, h, _⟩ | ⟨_, h1, h2, _⟩ | ⟨h0, h1, h2, h3, h4, _⟩
  · cases h
  · exact absurd h2.symm h1
  · refine ⟨h2, h1, ?_, h3, h4⟩
    have := readP_ok (linesP l) 0 0 rd0 rd0_ok h1
    rw [← h2, Nat.zero_add, linesP_len] at this
    exact this.mono (Nat.le_of_not_lt fun h => h0 (.inr h))

def fileW : List UInt8 := [99, 108, 97, 115, 115, 32, 48, 51, 48, 48, 32, 50, 51, 48, 10, 107, 105, 110, 100, 32, 48, 48, 52, 49, 32, 108, 101, 116, 116, 101, 114, 10, 102, 111, 108, 100, 32, 48, 48, 52, 49, 32, 48, 48, 54, 49, 10, 100, 101, 99, 111, 109, 112, 32, 48, 48, 67, 48, 32, 48, 48, 52, 49, 32, 48, 51, 48, 48]
def rdW : RdS := ⟨[(768, 768, 230)], [(65, 65, 1)], updN (fun _ => none) 192 [65, 768], updN (fun _ => none) 65 [97], updN (fun _ => none) 192 4, fun _ => none⟩
theorem fileW_reads : readP 0 rd0 (linesP fileW) = (0, 4, rdW) := by kernel_rfl
theorem fileW_lines : lnC fileW = 4 := by kernel_rfl
theorem fileW_only {no line : Nat} {S : RdS} {L : List Nat} (h : ParseR fileW no line S L) : no = 0 ∧ S = rdW ∧ L = [192] := by
  have hr := fileW_reads
  have hlen : fileW.length = 68 := by kernel_rfl
  rcases h with ⟨h, _⟩ | ⟨_, h1, _⟩ | ⟨_, h1, h2, h3, h4, h5, _⟩
  · rw [fileW_lines, hlen] at h; omega
  · rw [hr] at h1; exact absurd rfl h1
  · rw [hr] at h2
    simp only at h2
    subst h2
    have hL : L = [192] := rise_eq h3 (List.pairwise_singleton _ _) (fun x => by
      rw [h4 x]
      simp only [rdW, updN, List.mem_singleton]
      by_cases e : x = 192
      · simp [e]
      · simp [e])
    subst hL
    refine ⟨?_, rfl, rfl⟩
    rw [h5]
    kernel_rfl
end Go.Proofs.YtfpfpaaojdodnaaGreatDoor
/- props: what is composed of two points, and of which it is: mathematics. -/
namespace Go.Proofs.YtfpfpaaojdodnaaGreatDoor
open Go Go.RowKit Go.Kt Go.Kt.Rg Go.Maps

theorem lastV_append (l m : List Rw3) (e : Nat) : lastV (l ++ m) e = match lastV m e with | some v => some v | none => lastV l e := by
  induction l with
  | nil => cases h : lastV m e <;> simp [lastV, h]
  | cons x t ih =>
    rw [List.cons_append, lastV, ih]
    cases h : lastV m e with
    | some v => rfl
    | none => simp only [lastV]
theorem clsV_han (S : RdS) {a : Int} (h : hanP a = true) : clsV S a = 0 := by
  have h0 : 4352 ≤ a ∧ a < 55204 ∧ ((44032 ≤ a ∧ a < 55204) ∨ (4352 ≤ a ∧ a < 4371) ∨ (4449 ≤ a ∧ a < 4470) ∨ (4520 ≤ a ∧ a < 4547)) := by
    simp [hanP, sylP, leadP, vowP, tailP] at h
    omega
  unfold clsV
  rw [if_neg (by omega)]
  obtain ⟨e, he⟩ : ∃ e : Nat, a = (e : Int) := ⟨a.toNat, by omega⟩
  subst he
  rw [Int.toNat_natCast, lastV_append]
  have hn : lastV noR e = none := lastV_none.2 (by intro x hx; simp [noR] at hx; subst hx; simp [holdsR]; omega)
  rw [hn]
  simp only
  rw [lastV_append]
  have hh : lastV hanR e = some 0 := by
    simp only [hanR, lastV, holdsR]
    by_cases c4 : 4520 ≤ e ∧ e ≤ 4546
    · simp [c4]
    · by_cases c3 : 4449 ≤ e ∧ e ≤ 4469
      · simp [c4, c3]
      · by_cases c2 : 4352 ≤ e ∧ e ≤ 4370
        · simp [c4, c3, c2]
        · have c1 : 44032 ≤ e ∧ e ≤ 55203 := by omega
          simp [c4, c3, c2, c1]
  rw [hh]
  rfl
theorem mdStep_two {S : RdS} {md : MdT} {x a b : Nat} (h : S.ds x = some [a, b]) : mdStep S md x = if clsV S (a : Int) ≠ 0 then md else if (md a b).isSome then md else updP md a b x := by
  unfold mdStep
  rw [h]
theorem mdStep_no {S : RdS} {md : MdT} {x : Nat} (h : ∀ a b, S.ds x ≠ some [a, b]) : mdStep S md x = md := by
  unfold mdStep
  split
  · rename_i h9; exact absurd h9 (h _ _)
  · rfl
theorem mdOf_spec (S : RdS) {L : List Nat} (hL : L.Pairwise (· < ·)) : ∀ i, i ≤ L.length →
    (∀ x y r, mdOf S (L.take i) x y = some r → ∃ (a b j : Nat), x = (a : Int) ∧ y = (b : Int) ∧ S.ds r = some [a, b] ∧ clsV S (a : Int) = 0 ∧ j < i ∧ L[j]? = some r) ∧
    (∀ (j r a b : Nat), j < i → L[j]? = some r → S.ds r = some [a, b] → clsV S (a : Int) = 0 → ∃ c, mdOf S (L.take i) (a : Int) (b : Int) = some c ∧ c ≤ r)
  | 0, _ => ⟨fun x y r h => by simp [mdOf] at h, fun j r a b h => absurd h (by omega)⟩
  | i + 1, hi => by
    obtain ⟨h1, h2⟩ := mdOf_spec S hL i (by omega)
    obtain ⟨x, hx⟩ : ∃ x, L[i]? = some x := ⟨_, List.getElem?_eq_getElem (by omega)⟩
    rw [mdOf_snoc S hx]
    have up1 : ∀ x y r, mdOf S (L.take i) x y = some r → ∃ (a b j : Nat), x = (a : Int) ∧ y = (b : Int) ∧ S.ds r = some [a, b] ∧ clsV S (a : Int) = 0 ∧ j < i + 1 ∧ L[j]? = some r := fun u v r h => by
      obtain ⟨a, b, j, e1, e2, e3, e4, e5, e6⟩ := h1 u v r h
      exact ⟨a, b, j, e1, e2, e3, e4, by omega, e6⟩
    by_cases hx2 : ∃ a0 b0, S.ds x = some [a0, b0]
    · obtain ⟨a0, b0, hds⟩ := hx2
      rw [mdStep_two hds]
      by_cases hc : clsV S (a0 : Int) ≠ 0
      · rw [if_pos hc]
        refine ⟨up1, fun j r a b hj hr hd hcl => ?_⟩
        by_cases e : j = i
        · subst e
          rw [hx] at hr
          cases hr
          rw [hds] at hd
          cases hd
          exact absurd hcl hc
        · exact h2 j r a b (by omega) hr hd hcl
      · rw [if_neg hc]
        have hc0 : clsV S (a0 : Int) = 0 := by simpa using hc
        cases hm : mdOf S (L.take i) (a0 : Int) (b0 : Int) with
        | some c =>
          simp only [Option.isSome_some, if_true]
          refine ⟨up1, fun j r a b hj hr hd hcl => ?_⟩
          by_cases e : j = i
          · subst e
            rw [hx] at hr
            cases hr
            rw [hds] at hd
            cases hd
            refine ⟨c, hm, ?_⟩
            obtain ⟨_, _, j', _, _, _, _, h5, h6⟩ := h1 _ _ _ hm
            have q1 := List.getElem?_eq_some_iff.1 h6
            have q2 := List.getElem?_eq_some_iff.1 hx
            have := (List.pairwise_iff_getElem.1 hL) j' j q1.1 q2.1 h5
            rw [q1.2, q2.2] at this
            omega
          · exact h2 j r a b (by omega) hr hd hcl
        | none =>
          simp only [Option.isSome_none, Bool.false_eq_true, if_false]
          refine ⟨fun u v r h => ?_, fun j r a b hj hr hd hcl => ?_⟩
          · unfold updP at h
            by_cases e : u = (a0 : Int) ∧ v = (b0 : Int)
            · rw [if_pos e] at h
              cases h
              exact ⟨a0, b0, i, e.1, e.2, hds, hc0, by omega, hx⟩
            · rw [if_neg e] at h
              exact up1 u v r h
          · unfold updP
            by_cases e : (a : Int) = (a0 : Int) ∧ (b : Int) = (b0 : Int)
            · rw [if_pos e]
              refine ⟨x, rfl, ?_⟩
              by_cases e2 : j = i
              · subst e2; rw [hx] at hr; cases hr; exact Nat.le_refl _
              · obtain ⟨c, hc9, _⟩ := h2 j r a b (by omega) hr hd hcl
                rw [e.1, e.2, hm] at hc9
                cases hc9
            · rw [if_neg e]
              by_cases e2 : j = i
              · subst e2
                rw [hx] at hr
                cases hr
                rw [hds] at hd
                cases hd
                exact absurd ⟨rfl, rfl⟩ e
              · exact h2 j r a b (by omega) hr hd hcl
    · have hno : ∀ a b, S.ds x ≠ some [a, b] := fun a b h => hx2 ⟨a, b, h⟩
      rw [mdStep_no hno]
      refine ⟨up1, fun j r a b hj hr hd hcl => ?_⟩
      by_cases e : j = i
      · subst e
        rw [hx] at hr
        cases hr
        exact absurd hd (hno a b)
      · exact h2 j r a b (by omega) hr hd hcl
theorem parts_two (n : Nat) (h : n % 28 = 0) : partsP n = [4352 + n / 28 / 21, 4449 + n / 28 % 21] := by simp [partsP, h]
theorem parts_three (n : Nat) (h : ¬ n % 28 = 0) : partsP n = [4352 + n / 28 / 21, 4449 + n / 28 % 21, 4519 + n % 28] := by simp [partsP, h]
theorem dcp_syl {S : RdS} {r : Int} (h1 : 44032 ≤ r) (h2 : r ≤ 55203) : dcpV S r = partsP (r - 44032).toNat := by
  unfold dcpV
  rw [if_pos (by simp [sylP]; omega)]
theorem dcp_no {S : RdS} {r : Int} (h : r < 44032 ∨ 55203 < r) : dcpV S r = (atZ S.ds r).getD [] := by
  unfold dcpV
  rw [if_neg (by simp [sylP]; omega)]
end Go.Proofs.YtfpfpaaojdodnaaGreatDoor
/- props: the program's classes and kinds are the document's: mathematics. -/
namespace Go.Proofs.YtfpfpaaojdodnaaGreatDoor
open Go Go.RowKit Go.Kt Go.Kt.Rg Go.Maps

theorem lastV_noR {n : Nat} (h : ¬ (55296 ≤ n ∧ n ≤ 57343)) : lastV noR n = none := lastV_none.2 fun x hx => by
  rw [noR, List.mem_singleton] at hx
  subst hx
  exact h
theorem lastV_sur {n : Nat} (h : 55296 ≤ n ∧ n ≤ 57343) : lastV noR n = some 0 := by
  unfold noR lastV lastV
  simp only
  rw [if_pos (show holdsR (55296, 57343, 0) n from h)]
theorem lastV_hanR {n : Nat} (h1 : sylP (n : Int) = false) (h2 : jamP (n : Int) = false) : lastV hanR n = none := lastV_none.2 fun x hx => by
  rw [syl_iff] at h1
  rw [jam_iff] at h2
  simp only [decide_eq_false_iff_not] at h1 h2
  simp only [hanR, List.mem_cons, List.not_mem_nil, or_false] at hx
  unfold holdsR
  rcases hx with rfl | rfl | rfl | rfl <;> (simp only; omega)
theorem lastV_high {k : Nat} {l : List Rw3} (hl : ∀ r ∈ l, r.1 ≤ r.2.1 ∧ r.2.1 ≤ 1114111) (hk : 1114111 < k) : lastV l k = none := lastV_none.2 fun x hx => by
  have := hl x hx
  unfold holdsR
  omega
theorem bad_cases {r : Int} (h : Lib.validRune r = false) : r < 0 ∨ (55296 ≤ r ∧ r ≤ 57343) ∨ 1114111 < r := by
  simp [Lib.validRune] at h
  omega
theorem good_cases {r : Int} (h : Lib.validRune r = true) : 0 ≤ r ∧ ¬ (55296 ≤ r ∧ r ≤ 57343) ∧ r ≤ 1114111 := by
  simp [Lib.validRune] at h
  omega
theorem xcls_eq {k : Nat} {S : RdS} (hS : RdOk k S) (r : Int) : xclsV S.cs r = clsV S r := by
  unfold xclsV
  cases hv : Lib.validRune r with
  | false =>
    rw [if_pos (.inl rfl)]
    unfold clsV
    rcases bad_cases hv with h | h | h
    · rw [if_pos h]
    · rw [if_neg (by omega), lastV_append, lastV_sur (by omega)]; rfl
    · rw [if_neg (by omega), lastV_append, lastV_noR (by omega)]
      simp only
      rw [lastV_append, lastV_hanR (by rw [syl_iff]; simp; omega) (by rw [jam_iff]; simp; omega)]
      simp only
      rw [lastV_high hS.cs.2 (by omega)]; rfl
  | true =>
    obtain ⟨g1, g2, g3⟩ := good_cases hv
    cases h1 : sylP r with
    | true =>
      rw [if_pos (.inr (.inl rfl)), clsV_han S (by rw [han_two, h1]; rfl)]
    | false =>
      cases h2 : jamP r with
      | true => rw [if_pos (.inr (.inr rfl)), clsV_han S (by rw [han_two, h1, h2]; rfl)]
      | false =>
        rw [if_neg (by simp)]
        obtain ⟨n, rfl⟩ : ∃ n : Nat, r = (n : Int) := ⟨r.toNat, by omega⟩
        unfold clsV
        rw [if_neg (by omega), Int.toNat_natCast, lastV_append, lastV_noR (by omega)]
        simp only
        rw [lastV_append, lastV_hanR h1 h2]
        simp only
        rw [lastZ_nat]
theorem xknd_eq {k : Nat} {S : RdS} (hS : RdOk k S) (r : Int) : xkndV S.ks r = kndV S r := by
  unfold xkndV
  cases hv : Lib.validRune r with
  | false =>
    rw [if_pos rfl]
    unfold kndV
    rcases bad_cases hv with h | h | h
    · rw [if_pos h]
    · rw [if_neg (by omega), lastV_append, lastV_sur (by omega)]; rfl
    · have e : lastV sylR r.toNat = none := lastV_none.2 fun x hx => by
        rw [sylR, List.mem_singleton] at hx
        subst hx
        unfold holdsR
        simp only
        omega
      rw [if_neg (by omega), lastV_append, lastV_noR (by omega)]
      simp only
      rw [lastV_append, lastV_high hS.ks.2 (by omega)]
      simp only
      rw [e]; rfl
  | true =>
    obtain ⟨g1, g2, g3⟩ := good_cases hv
    rw [if_neg (by simp)]
    obtain ⟨n, rfl⟩ : ∃ n : Nat, r = (n : Int) := ⟨r.toNat, by omega⟩
    unfold kndV
    rw [if_neg (show ¬ ((n : Int) < 0) by omega), Int.toNat_natCast, lastV_append, lastV_noR (by omega)]
    simp only
    rw [lastV_append, lastZ_nat]
    cases lastV S.ks n with
    | some v => simp
    | none =>
      simp only [Option.getD_none]
      cases h1 : sylP (n : Int) with
      | true =>
        rw [syl_iff] at h1
        have h1 := of_decide_eq_true h1
        unfold sylR lastV lastV
        simp only
        rw [if_pos (show holdsR (44032, 55203, 1) n from ⟨by simp only; omega, by simp only; omega⟩)]
        rfl
      | false =>
        rw [syl_iff] at h1
        have h1 := of_decide_eq_false h1
        have e : lastV sylR n = none := lastV_none.2 fun x hx => by
          rw [sylR, List.mem_singleton] at hx
          subst hx
          unfold holdsR
          simp only
          omega
        rw [e]; rfl
end Go.Proofs.YtfpfpaaojdodnaaGreatDoor
/- props: the words of a line, byte by byte: mathematics. -/
namespace Go.Proofs.YtfpfpaaojdodnaaGreatDoor
open Go Go.RowKit Go.Kt Go.Kt.Rg Go.Maps

theorem blk_no {n : Nat} (h : n ≠ 32 ∧ n ≠ 9) : blkP n = false := by
  unfold blkP
  rw [beq_eq_false_iff_ne.2 h.1, beq_eq_false_iff_ne.2 h.2]; rfl
theorem dec_blk (s : ByteArray) (p : Nat) (h : p < s.size) :
    (blkP (Utf8.decode s p).1 = true ∧ (Utf8.decode s p).2 = 1 ∧ blkP (s.get! p).toNat = true) ∨
    (blkP (Utf8.decode s p).1 = false ∧ 1 ≤ (Utf8.decode s p).2 ∧ p + (Utf8.decode s p).2 ≤ s.size ∧ ∀ j, j < (Utf8.decode s p).2 → blkP (s.get! (p + j)).toNat = false) := by
  rw [Lib.decode_at]
  obtain ⟨b0, h0⟩ : ∃ b, (s.get! p).toNat = b := ⟨_, rfl⟩
  obtain ⟨b1, h1⟩ : ∃ b, (s.get! (p + 1)).toNat = b := ⟨_, rfl⟩
  obtain ⟨b2, h2⟩ : ∃ b, (s.get! (p + 2)).toNat = b := ⟨_, rfl⟩
  obtain ⟨b3, h3⟩ : ∃ b, (s.get! (p + 3)).toNat = b := ⟨_, rfl⟩
  rw [h0, h1, h2, h3]
  unfold Lib.decodeN
  by_cases ha : b0 < 128
  · rw [if_pos ha]
    by_cases hb : blkP b0 = true
    · exact .inl ⟨hb, rfl, hb⟩
    · have hb2 : blkP b0 = false := by simpa using hb
      exact .inr ⟨hb2, Nat.le_refl _, by simp only; omega, fun j hj => by
        obtain rfl : j = 0 := by simp only at hj; omega
        rw [Nat.add_zero, h0]; exact hb2⟩
  · rw [if_neg ha]
    right
    repeat' split
    all_goals refine ⟨blk_no (by simp only; omega), by simp only; omega, by simp only; omega, fun j hj => ?_⟩
    all_goals simp only at hj
    all_goals (obtain rfl | rfl | rfl | rfl : j = 0 ∨ j = 1 ∨ j = 2 ∨ j = 3 := by omega)
    all_goals first
      | (exfalso; omega)
      | (rw [Nat.add_zero, h0]; exact blk_no (by omega))
      | (rw [h1]; exact blk_no (by omega))
      | (rw [h2]; exact blk_no (by omega))
      | (rw [h3]; exact blk_no (by omega))

def wordsB : List UInt8 → List UInt8 → List (List UInt8)
  | cur, [] => if cur = [] then [] else [cur]
  | cur, b :: t => if blkP b.toNat then (if cur = [] then wordsB [] t else cur :: wordsB [] t) else wordsB (cur ++ [b]) t
theorem wordsB_take : ∀ (k : Nat) (cur l : List UInt8), k ≤ l.length → (∀ j b, j < k → l[j]? = some b → blkP b.toNat = false) → wordsB cur l = wordsB (cur ++ l.take k) (l.drop k) := by
  intro k
  induction k with
  | zero => intro cur l _ _; simp
  | succ k ih =>
    intro cur l hk h
    cases l with
    | nil => simp at hk
    | cons b t =>
      have hb := h 0 b (by omega) rfl
      rw [wordsB, hb]
      simp only [Bool.false_eq_true, if_false]
      rw [ih (cur ++ [b]) t (by simpa using hk) (fun j c hj hc => h (j + 1) c (by omega) (by simpa using hc))]
      simp
theorem get_at (s : ByteArray) (i : Nat) (h : i < s.size) : s.data.toList[i]? = some (s.get! i) := by
  have hl : i < s.data.toList.length := by rw [← Lib.size_eq]; exact h
  rw [List.getElem?_eq_getElem hl]
  congr 1
  have e : s.get! i = s[i]'h := by
    simp [ByteArray.get!, getElem!_pos, h]
    rfl
  rw [e]
  simp
  rfl
theorem drop_at (s : ByteArray) (i : Nat) (h : i < s.size) : s.data.toList.drop i = s.get! i :: s.data.toList.drop (i + 1) := by
  have hl : i < s.data.toList.length := by rw [← Lib.size_eq]; exact h
  rw [List.drop_eq_getElem_cons hl]
  congr 1
  have := get_at s i h
  rw [List.getElem?_eq_getElem hl] at this
  exact Option.some.inj this
def curB (l : List UInt8) (p : Nat) : Option Nat → List UInt8
  | some a => (l.take p).drop a
  | none => []
theorem curB_ne (l : List UInt8) (p a : Nat) (h : a < p) (hp : p ≤ l.length) : curB l p (some a) ≠ [] := fun e => by
  have := congrArg List.length e
  simp [curB] at this
  omega
theorem curB_more (l : List UInt8) (p k : Nat) (o : Option Nat) (ha : ∀ a, o = some a → a ≤ p) (hp : p + k ≤ l.length) : curB l (p + k) (some (o.getD p)) = curB l p o ++ (l.drop p).take k := by
  cases o with
  | none =>
    show (l.take (p + k)).drop p = [] ++ _
    rw [List.nil_append, List.drop_take, Nat.add_sub_cancel_left]
  | some a =>
    have := ha a rfl
    show (l.take (p + k)).drop a = (l.take p).drop a ++ _
    rw [List.take_add, List.drop_append_of_le_length (by rw [List.length_take]; omega)]
theorem spans_words (s : ByteArray) : ∀ (f p : Nat) (st : Option Nat) (acc : List (Nat × Nat)), s.size ≤ p + f → p ≤ s.size → (∀ a, st = some a → a < p) →
    (Lib.closeSpans s (Lib.spansFromP blkP s f p st acc)).map (fun x => (s.data.toList.take x.2).drop x.1) = acc.map (fun x => (s.data.toList.take x.2).drop x.1) ++ wordsB (curB s.data.toList p st) (s.data.toList.drop p) := by
  have hln : s.data.toList.length = s.size := (Lib.size_eq s).symm
  have fin : ∀ (p : Nat) (st : Option Nat) (acc : List (Nat × Nat)), ¬ p < s.size → p ≤ s.size → (∀ a, st = some a → a < p) →
      (Lib.closeSpans s (acc, st)).map (fun x => (s.data.toList.take x.2).drop x.1) = acc.map (fun x => (s.data.toList.take x.2).drop x.1) ++ wordsB (curB s.data.toList p st) (s.data.toList.drop p) := by
    intro p st acc hp hps hst
    obtain rfl : p = s.size := by omega
    rw [List.drop_eq_nil_of_le (by omega), wordsB]
    cases st with
    | none => simp [Lib.closeSpans, curB]
    | some a =>
      rw [if_neg (curB_ne _ _ _ (hst a rfl) (by omega))]
      simp [Lib.closeSpans, curB]
  intro f
  induction f with
  | zero => intro p st acc h1 h2 h3; exact fin p st acc (by omega) h2 h3
  | succ f ih =>
    intro p st acc h1 h2 h3
    by_cases hp : p < s.size
    rotate_left
    · rw [Lib.spansFromP_end _ _ _ _ _ _ hp]
      exact fin p st acc hp h2 h3
    unfold Lib.spansFromP
    rw [if_pos hp]
    rcases dec_blk s p hp with ⟨d1, d2, d3⟩ | ⟨d1, d2, d3, d4⟩
    · rw [d1, d2, if_pos rfl, drop_at s p hp, wordsB, if_pos d3]
      cases st with
      | none => simp only; rw [ih _ _ _ (by omega) (by omega) (fun a h => by cases h)]; rfl
      | some a =>
        simp only
        rw [ih _ _ _ (by omega) (by omega) (fun a h => by cases h), if_neg (curB_ne _ _ _ (h3 a rfl) (by omega))]
        simp [curB]
    · rw [d1, if_neg (by decide)]
      have hw := wordsB_take (Utf8.decode s p).2 (curB s.data.toList p st) (s.data.toList.drop p) (by rw [List.length_drop]; omega) (fun j b hj hb => by
        rw [List.getElem?_drop, get_at s (p + j) (by omega)] at hb
        injection hb with hb
        rw [← hb]; exact d4 j hj)
      rw [hw, List.drop_drop, ← curB_more _ _ _ _ (fun a h => Nat.le_of_lt (h3 a h)) (by omega)]
      cases st with
      | none => exact ih _ _ _ (by omega) d3 (fun a h => by cases h; omega)
      | some a => exact ih _ _ _ (by omega) d3 (fun b h => by cases h; have := h3 a rfl; omega)
theorem wrdP_eq (l : List UInt8) : wrdP l = wordsB [] (lineP l) := by
  have h := spans_words ⟨(lineP l).toArray⟩ (⟨(lineP l).toArray⟩ : ByteArray).size 0 none [] (by omega) (by omega) (fun a h => by cases h)
  simp only [List.map_nil, List.nil_append, List.drop_zero] at h
  have e : curB (lineP l) 0 none = [] := rfl
  rw [e] at h
  rw [← h]
  unfold wrdP Lib.goFieldsP Lib.spansOfP
  rw [List.map_map]
  apply List.map_congr_left
  intro x _
  show (ByteArray.extract ⟨(lineP l).toArray⟩ x.1 x.2).data.toList = _
  have := Lib.extract_toList ⟨(lineP l).toArray⟩ x.1 x.2
  rw [ByteArray.toList_eq] at this
  rw [this, List.drop_take]

def wordsH : List UInt8 → List UInt8 → List (List UInt8)
  | cur, [] => if cur = [] then [] else [cur]
  | cur, b :: t => if b = 35 then (if cur = [] then [] else [cur]) else if blkP b.toNat then (if cur = [] then wordsH [] t else cur :: wordsH [] t) else wordsH (cur ++ [b]) t
theorem cut_one (l : List UInt8) (x : UInt8) : (Lib.cut l [x]).1 = l.takeWhile (· != x) := by
  induction l with
  | nil => simp [Lib.cut, Lib.index]
  | cons b t ih =>
    unfold Lib.cut at ih ⊢
    rw [Lib.index]
    by_cases hb : b = x
    · subst hb
      simp
    · have e1 : ([x] : List UInt8).isPrefixOf (b :: t) = false := by simp [List.isPrefixOf]; exact fun h => hb h.symm
      have e2 : (b != x) = true := by simpa using hb
      rw [e1, List.takeWhile_cons_of_pos (by simpa using hb)]
      have hge := Lib.index_ge t [x]
      by_cases hi : Lib.index t [x] = -1
      · rw [hi] at ih ⊢
        simp at ih ⊢
        exact ih
      · obtain ⟨n, hn⟩ : ∃ n : Nat, Lib.index t [x] = (n : Int) := ⟨(Lib.index t [x]).toNat, by omega⟩
        rw [hn] at ih ⊢
        have e3 : ((n : Int) == -1) = false := by simp
        simp only [e3, Bool.false_eq_true, if_false]
        rw [if_pos (by omega)] at ih ⊢
        rw [show ((n : Int) + 1).toNat = n + 1 by omega]
        simp at ih ⊢
        exact ih
theorem wordsH_cut (l : List UInt8) : ∀ cur, wordsB cur (l.takeWhile (· != 35)) = wordsH cur l := by
  induction l with
  | nil => intro cur; rfl
  | cons b t ih =>
    intro cur
    by_cases hb : b = 35
    · subst hb
      simp [wordsH, wordsB]
    · rw [List.takeWhile_cons_of_pos (by simpa using hb), wordsB, wordsH, if_neg hb, ih, ih]
theorem wrdP_H (l : List UInt8) : wrdP l = wordsH [] (Lib.trimSuffix (Lib.trimSuffix l [10]) [13]) := by
  rw [wrdP_eq, lineP, cut_one, wordsH_cut]
theorem trims_cons (b c : UInt8) (t : List UInt8) : Lib.trimSuffix (b :: t) [c] = if t = [] then (if b = c then [] else [b]) else b :: Lib.trimSuffix t [c] := by
  unfold Lib.trimSuffix Lib.hasSuffix
  cases t with
  | nil =>
    by_cases h : b = c
    · subst h; simp
    · have : ([c] : List UInt8).isSuffixOf [b] = false := by
        cases e : ([c] : List UInt8).isSuffixOf [b] with
        | false => rfl
        | true =>
          have := List.isSuffixOf_iff_suffix.1 e
          have := this.eq_of_length rfl
          injection this with this
          exact absurd this.symm h
      rw [this]; simp [h]
  | cons d u =>
    have : ([c] : List UInt8).isSuffixOf (b :: d :: u) = ([c] : List UInt8).isSuffixOf (d :: u) := by
      rw [Bool.eq_iff_iff, List.isSuffixOf_iff_suffix, List.isSuffixOf_iff_suffix, List.suffix_cons_iff]
      constructor
      · rintro (h | h)
        · simp at h
        · exact h
      · exact .inr
    rw [this, if_neg (List.cons_ne_nil d u)]
    by_cases h : ([c] : List UInt8).isSuffixOf (d :: u) = true
    · rw [if_pos h, if_pos h]; rfl
    · rw [if_neg h, if_neg h]
theorem trims_end (c : UInt8) (l : List UInt8) : Lib.trimSuffix (l ++ [c]) [c] = l := by
  induction l with
  | nil => rw [List.nil_append, trims_cons, if_pos rfl, if_pos rfl]
  | cons b t ih => rw [List.cons_append, trims_cons, if_neg (by simp), ih]
theorem trims_not (c : UInt8) (l : List UInt8) (h : l.getLast? ≠ some c) : Lib.trimSuffix l [c] = l := by
  induction l with
  | nil => rfl
  | cons b t ih =>
    rw [trims_cons]
    cases t with
    | nil => rw [if_pos rfl, if_neg (fun e => h (by rw [e]; rfl))]
    | cons d u => rw [if_neg (by simp), ih (by simpa using h)]
end Go.Proofs.YtfpfpaaojdodnaaGreatDoor
/- props: files whose lines say the same: mathematics. -/
namespace Go.Proofs.YtfpfpaaojdodnaaGreatDoor
open Go Go.RowKit Go.Kt Go.Kt.Rg Go.Maps

/-! ### Lines of bytes -/
theorem ixb_some (c rest : List UInt8) (h : ∀ x ∈ c, x ≠ 10) : Lib.indexByte (c ++ 10 :: rest) 10 = (c.length : Int) := by
  induction c with
  | nil => simp [Lib.indexByte]
  | cons b t ih =>
    have hb := h b List.mem_cons_self
    have := ih (fun x hx => h x (List.mem_cons_of_mem _ hx))
    rw [List.cons_append, Lib.indexByte, if_neg (by simpa using hb), this, if_neg (by simp)]
    simp
theorem ixb_none (c : List UInt8) (h : ∀ x ∈ c, x ≠ 10) : Lib.indexByte c 10 = -1 := by
  induction c with
  | nil => rfl
  | cons b t ih =>
    have hb := h b List.mem_cons_self
    rw [Lib.indexByte, if_neg (by simpa using hb), ih (fun x hx => h x (List.mem_cons_of_mem _ hx))]
    rfl
theorem lines_cons (c rest : List UInt8) (h : ∀ x ∈ c, x ≠ 10) : linesP (c ++ 10 :: rest) = (c ++ [10]) :: linesP rest := by
  rw [linesP_some (by simp) (ixb_some c rest h)]
  congr 1
  · rw [List.take_append, List.take_of_length_le (by omega), Nat.add_sub_cancel_left]; rfl
  · rw [List.drop_append, List.drop_eq_nil_of_le (by omega), Nat.add_sub_cancel_left]; rfl
theorem lines_one (c : List UInt8) (h : ∀ x ∈ c, x ≠ 10) : linesP c = if c = [] then [] else [c] := by
  by_cases hc : c = []
  · subst hc; rfl
  · rw [if_neg hc, linesP_none hc (ixb_none c h)]
theorem line_cut (l : List UInt8) : (∀ x ∈ l, x ≠ 10) ∨ ∃ c rest, l = c ++ 10 :: rest ∧ (∀ x ∈ c, x ≠ 10) ∧ rest.length < l.length := by
  induction l with
  | nil => exact .inl (fun x h => by cases h)
  | cons b t ih =>
    by_cases hb : b = 10
    · subst hb
      exact .inr ⟨[], t, rfl, (fun x h => by cases h), by simp⟩
    · rcases ih with h | ⟨c, rest, h1, h2, h3⟩
      · exact .inl (fun x hx => by
          rcases List.mem_cons.1 hx with rfl | hx
          · exact hb
          · exact h x hx)
      · refine .inr ⟨b :: c, rest, by rw [h1]; rfl, fun x hx => ?_, by simp; omega⟩
        rcases List.mem_cons.1 hx with rfl | hx
        · exact hb
        · exact h2 x hx
def FW (l : List UInt8) : List (List (List UInt8)) := ((linesP l).map wrdP).filter (fun w => !w.isEmpty)
def oneW (w : List (List UInt8)) : List (List (List UInt8)) := if w = [] then [] else [w]
theorem trims10 (c : List UInt8) (h : ∀ x ∈ c, x ≠ 10) : Lib.trimSuffix c [10] = c := trims_not 10 c (fun e => h 10 (List.mem_of_getLast? e) rfl)
/-! ### What PropsPlain writes -/
def trB : Bool → List UInt8 → List UInt8
  | _, [] => []
  | r, b :: t => if b = 32 ∧ r = false then 9 :: 32 :: 32 :: trB r t else b :: trB (r || b == 35) t
def endB : List UInt8 := [32, 35, 32, 120, 13, 10, 32, 10]
def trG : Bool → List UInt8 → List UInt8
  | _, [] => []
  | r, b :: t => if b = 13 ∧ (t = [] ∨ t.head? = some 10) then trG r t
      else if b = 32 ∧ r = false then 9 :: 32 :: 32 :: trG r t
      else if b = 10 then endB ++ trG false t
      else b :: trG (r || b == 35) t
def oneF (cur : List UInt8) : List (List UInt8) := if cur = [] then [] else [cur]
end Go.Proofs.YtfpfpaaojdodnaaGreatDoor
/- props: what a file's words come to: mathematics. -/
namespace Go.Proofs.YtfpfpaaojdodnaaGreatDoor
open Go Go.RowKit Go.Kt Go.Kt.Rg Go.Maps

/-! ### What is taken holds no CR -/
theorem dropw_nil {p : UInt8 → Bool} : ∀ {l : List UInt8}, l.dropWhile p = [] → ∀ x ∈ l, p x = true
  | [], _, _, h => by cases h
  | b :: t, h, x, hx => by
    rw [List.dropWhile_cons] at h
    by_cases hb : p b = true
    · rw [if_pos hb] at h
      rcases List.mem_cons.1 hx with rfl | hx
      · exact hb
      · exact dropw_nil h x hx
    · rw [if_neg hb] at h; cases h
theorem dropw_head {p : UInt8 → Bool} {x : UInt8} {t : List UInt8} : ∀ {l : List UInt8}, l.dropWhile p = x :: t → p x = false
  | [], h => by cases h
  | b :: u, h => by
    rw [List.dropWhile_cons] at h
    by_cases hb : p b = true
    · rw [if_pos hb] at h
      exact dropw_head h
    · rw [if_neg hb] at h
      injection h with h1 _
      subst h1
      simpa using hb
/-! ### What words come to, whatever the lines' numbers -/
def RdE (S T : RdS) : Prop := S.cs = T.cs ∧ S.ks = T.ks ∧ S.ds = T.ds ∧ S.fs = T.fs
def accW : RdS → List (List (List UInt8)) → Option RdS
  | S, [] => some S
  | S, w :: t => if (takeP 1 S w).1 ≠ 0 then none else accW (takeP 1 S w).2 t
def AlkR (S T : RdS) (L : List Nat) (r : Int) : Prop := clsV S r = clsV T r ∧ kndV S r = kndV T r ∧ dcpV S r = dcpV T r ∧ fldV S r = fldV T r ∧ ∀ b, cmpV (mdOf S L) r b = cmpV (mdOf T L) r b
end Go.Proofs.YtfpfpaaojdodnaaGreatDoor
/- props: the document's lines and what the program keeps of them: mathematics. -/
namespace Go.Proofs.YtfpfpaaojdodnaaGreatDoor
open Go Go.RowKit Go.Kt Go.Kt.Rg Go.Maps

structure XdS where
  cs : List (Nat × Nat × Int)
  ks : List (Nat × Nat × Int)
  fl : List Ln3
  dl : List Ln3
def fdL (l : List Ln3) (x : Nat) : Option Ln3 := l.find? fun y => y.1 == x
theorem fdL_snoc (l : List Ln3) (y : Ln3) (x : Nat) : fdL (l ++ [y]) x = match fdL l x with
    | some z => some z
    | none => if y.1 = x then some y else none := by
  unfold fdL
  rw [List.find?_append]
  cases l.find? fun y => y.1 == x with
  | some z => rfl
  | none =>
    simp only [Option.none_or, List.find?_cons, List.find?_nil]
    by_cases h : y.1 = x
    · rw [if_pos h]; simp [h]
    · rw [if_neg h]
      have : (y.1 == x) = false := by simpa using h
      rw [this]
theorem fdL_put {A : Type} (f : Ln3 → A) (l : List Ln3) (y : Ln3) (h : fdL l y.1 = none) (x : Nat) : (fdL (l ++ [y]) x).map f = updN (fun x => (fdL l x).map f) y.1 (f y) x := by
  rw [fdL_snoc]
  unfold updN
  by_cases e : x = y.1
  · subst e
    rw [h, if_pos rfl]; simp
  · rw [if_neg e]
    cases hl : fdL l x with
    | some z => simp only [hl]
    | none =>
      simp only [hl]
      rw [if_neg (fun h => e h.symm)]
theorem spk_fd (l : List Ln3) (x : Nat) : spkL l (x : Int) = (fdL l x).isSome := by
  induction l with
  | nil => rfl
  | cons y t ih =>
    unfold spkL fdL at ih ⊢
    rw [List.any_cons, List.find?_cons, ih]
    by_cases h : y.1 = x
    · subst h; simp
    · have h1 : ((y.1 : Int) == (x : Int)) = false := by rw [beq_eq_false_iff_ne]; omega
      have h2 : (y.1 == x) = false := by simpa using h
      rw [h1, h2]; rfl
theorem of_fd (l : List Ln3) (r : Int) : ofL l r = atZ (fun x => (fdL l x).map (·.2.1)) r := by
  unfold atZ
  by_cases h0 : 0 ≤ r
  · rw [if_pos h0]
    obtain ⟨n, rfl⟩ : ∃ n : Nat, r = (n : Int) := ⟨r.toNat, by omega⟩
    rw [Int.toNat_natCast]
    induction l with
    | nil => rfl
    | cons y t ih =>
      rw [ofL_cons, ih]
      unfold fdL
      simp only [List.find?_cons]
      by_cases h : y.1 = n
      · subst h; simp
      · have h2 : (y.1 == n) = false := by simpa using h
        rw [if_neg (by omega), h2]
  · rw [if_neg h0]
    induction l with
    | nil => rfl
    | cons y t ih => rw [ofL_cons, ih, if_neg (by omega)]
structure XRel (X : XdS) (S : RdS) : Prop where
  cs : S.cs = X.cs
  ks : S.ks = X.ks
  fs : S.fs = fun x => (fdL X.fl x).map (·.2.1)
  ds : S.ds = fun x => (fdL X.dl x).map (·.2.1)
  ls : S.ls = fun x => (fdL X.dl x).map (·.2.2)
  nd : (X.dl.map (·.1)).Nodup
theorem xrel0 : XRel ⟨[], [], [], []⟩ rd0 := ⟨rfl, rfl, rfl, rfl, rfl, List.nodup_nil⟩
theorem fd_mem {l : List Ln3} (hn : (l.map (·.1)).Nodup) {y : Ln3} (hy : y ∈ l) : fdL l y.1 = some y := by
  induction l with
  | nil => cases hy
  | cons z t ih =>
    unfold fdL at ih ⊢
    rw [List.map_cons, List.nodup_cons] at hn
    rw [List.find?_cons]
    rcases List.mem_cons.1 hy with rfl | hy
    · simp
    · have : (z.1 == y.1) = false := by
        rw [beq_eq_false_iff_ne]
        intro e
        exact hn.1 (by rw [e]; exact List.mem_map_of_mem hy)
      rw [this]
      exact ih hn.2 hy
theorem fd_some {l : List Ln3} {x : Nat} {y : Ln3} (h : fdL l x = some y) : y ∈ l ∧ y.1 = x := by
  unfold fdL at h
  exact ⟨List.mem_of_find?_eq_some h, by simpa using List.find?_some h⟩
variable {X : XdS} {S : RdS}
theorem XRel.dcp (h : XRel X S) (r : Int) : (ofL X.dl r).getD [] = (atZ S.ds r).getD [] := by rw [of_fd, h.ds]
theorem XRel.fld (h : XRel X S) (r : Int) : xfldV X.fl r = fldV S r := by
  unfold xfldV fldV
  rw [of_fd, h.fs]
  try (cases atZ (fun x => (fdL X.fl x).map (·.2.1)) r <;> rfl)
theorem XRel.fspk (h : XRel X S) (x : Nat) : spkL X.fl (x : Int) = (S.fs x).isSome := by
  rw [spk_fd, h.fs]; simp
theorem XRel.dspk (h : XRel X S) (x : Nat) : spkL X.dl (x : Int) = (S.ds x).isSome := by
  rw [spk_fd, h.ds]; simp
theorem XRel.cls (h : XRel X S) (r : Nat × Nat × Int) : XRel { X with cs := X.cs ++ [r] } { S with cs := S.cs ++ [r] } := ⟨by simp only [h.cs], h.ks, h.fs, h.ds, h.ls, h.nd⟩
theorem XRel.knd (h : XRel X S) (r : Nat × Nat × Int) : XRel { X with ks := X.ks ++ [r] } { S with ks := S.ks ++ [r] } := ⟨h.cs, by simp only [h.ks], h.fs, h.ds, h.ls, h.nd⟩
theorem XRel.fold (h : XRel X S) {x : Nat} (hx : (S.fs x).isSome = false) (u : List Nat) (at_ : Nat) : XRel { X with fl := X.fl ++ [(x, u, at_)] } { S with fs := updN S.fs x u } := by
  refine ⟨h.cs, h.ks, ?_, h.ds, h.ls, h.nd⟩
  have h0 : fdL X.fl x = none := by rw [h.fs] at hx; simpa using hx
  funext z
  have := fdL_put (·.2.1) X.fl (x, u, at_) h0 z
  simp only at this ⊢
  rw [this, h.fs]
theorem XRel.dec (h : XRel X S) {x : Nat} (hx : (S.ds x).isSome = false) (u : List Nat) (at_ : Nat) : XRel { X with dl := X.dl ++ [(x, u, at_)] } { S with ds := updN S.ds x u, ls := updN S.ls x at_ } := by
  have h0 : fdL X.dl x = none := by rw [h.ds] at hx; simpa using hx
  refine ⟨h.cs, h.ks, h.fs, ?_, ?_, ?_⟩
  · funext z
    have := fdL_put (·.2.1) X.dl (x, u, at_) h0 z
    simp only at this ⊢
    rw [this, h.ds]
  · funext z
    have := fdL_put (·.2.2) X.dl (x, u, at_) h0 z
    simp only at this ⊢
    rw [this, h.ls]
  · simp only [List.map_append, List.map_cons, List.map_nil]
    refine List.nodup_append.2 ⟨h.nd, (by simp), ?_⟩
    intro a ha b hb
    rw [List.mem_singleton] at hb
    subst hb
    rintro rfl
    obtain ⟨y, hy, e⟩ := List.mem_map.1 ha
    rw [← e, fd_mem h.nd hy] at h0
    cases h0
theorem XRel.mem (h : XRel X S) (x : Nat) : (S.ds x).isSome = true ↔ ∃ y ∈ X.dl, y.1 = x := by
  rw [h.ds]
  constructor
  · intro h1
    cases hf : fdL X.dl x with
    | none => simp only [hf] at h1; cases h1
    | some y => exact ⟨y, fd_some hf⟩
  · rintro ⟨y, hy, rfl⟩
    simp only [fd_mem h.nd hy]; rfl
theorem XRel.at (h : XRel X S) {y : Ln3} (hy : y ∈ X.dl) : S.ds y.1 = some y.2.1 ∧ S.ls y.1 = some y.2.2 := by
  rw [h.ds, h.ls]
  simp only
  rw [fd_mem h.nd hy]
  exact ⟨rfl, rfl⟩
def LstB (ds : DsT) (l : List Ln3) (least : Int) (no line : Nat) : Prop :=
  (least = -1 ∧ no = 0 ∧ line = 0 ∧ ∀ y ∈ l, FineD ds y.1) ∨ ∃ y ∈ l, least = (y.1 : Nat) ∧ BadN ds y.1 no ∧ line = y.2.2 ∧ ∀ z ∈ l, (FineD ds z.1 ∨ y.1 ≤ z.1)
theorem lstB_nil (ds : DsT) : LstB ds [] (-1) 0 0 := .inl ⟨rfl, rfl, rfl, fun y h => by cases h⟩
theorem LstB.fine {ds : DsT} {l : List Ln3} {least : Int} {no line : Nat} {x : Ln3} (h : LstB ds l least no line) (hx : FineD ds x.1) : LstB ds (l ++ [x]) least no line := by
  rcases h with ⟨h1, h2, h3, h4⟩ | ⟨y, h1, h2, h3, h4, h5⟩
  · refine .inl ⟨h1, h2, h3, fun y hy => ?_⟩
    rcases List.mem_append.1 hy with hy | hy
    · exact h4 y hy
    · rw [List.mem_singleton.1 hy]; exact hx
  · refine .inr ⟨y, List.mem_append_left _ h1, h2, h3, h4, fun z hz => ?_⟩
    rcases List.mem_append.1 hz with hz | hz
    · exact h5 z hz
    · rw [List.mem_singleton.1 hz]; exact .inl hx
theorem LstB.far {ds : DsT} {l : List Ln3} {least : Int} {no line : Nat} {x : Ln3} (h : LstB ds l least no line) (h0 : 0 ≤ least) (hx : least < (x.1 : Int)) : LstB ds (l ++ [x]) least no line := by
  rcases h with ⟨h1, _⟩ | ⟨y, h1, h2, h3, h4, h5⟩
  · omega
  · refine .inr ⟨y, List.mem_append_left _ h1, h2, h3, h4, fun z hz => ?_⟩
    rcases List.mem_append.1 hz with hz | hz
    · exact h5 z hz
    · rw [List.mem_singleton.1 hz]; exact .inr (by omega)
theorem LstB.new {ds : DsT} {l : List Ln3} {least : Int} {no line no' : Nat} {x : Ln3} (h : LstB ds l least no line) (h0 : ¬ (0 ≤ least ∧ least < (x.1 : Int))) (hx : BadN ds x.1 no') : LstB ds (l ++ [x]) (x.1 : Nat) no' x.2.2 := by
  refine .inr ⟨x, List.mem_append_right _ (List.mem_singleton_self _), rfl, hx, rfl, fun z hz => ?_⟩
  rcases List.mem_append.1 hz with hz | hz
  · rcases h with ⟨_, _, _, h4⟩ | ⟨y, h1, h2, h3, h4, h5⟩
    · exact .inl (h4 z hz)
    · rcases h5 z hz with h | h
      · exact .inl h
      · exact .inr (by omega)
  · rw [List.mem_singleton.1 hz]; exact .inr (Nat.le_refl _)
theorem lst_ring (h : XRel X S) {L : List Nat} (hp : L.Pairwise (· < ·)) (hm : ∀ x, x ∈ L ↔ (S.ds x).isSome = true) {least : Int} {no line : Nat} (hl : LstB S.ds X.dl least no line) :
    ringP S (L.length + 1) L (fun _ => none) = (no, line) ∧ (least = -1 ↔ no = 0) ∧ -1 ≤ least := by
  rcases ringP_spec S L (L.length + 1) (fun y hy => (hm y).2 hy) (Nat.lt_succ_self _) L _ (leInv_none _) leOk_none with ⟨q1, q2⟩ | ⟨a, x, b, k, rfl, q2, q3, q4⟩
  · rcases hl with ⟨h1, h2, h3, _⟩ | ⟨y, h1, h2, h3, _⟩
    · rw [q1, h1, h2, h3]; exact ⟨rfl, by simp, by omega⟩
    · exact absurd (q2 _ ((hm _).2 ((h.mem _).2 ⟨y, h1, rfl⟩))) h3.not
  · obtain ⟨y, hy, rfl⟩ := (h.mem _).1 ((hm x).1 (by simp))
    rcases hl with ⟨_, _, _, h4⟩ | ⟨z, h1, h2, h3, h4, h5⟩
    · exact absurd (h4 y hy) q3.not
    · have hz : z.1 = y.1 := by
        have hzL := (hm z.1).2 ((h.mem _).2 ⟨z, h1, rfl⟩)
        rcases List.mem_append.1 hzL with hza | hza
        · exact absurd (q2 _ hza) h3.not
        · rcases List.mem_cons.1 hza with e | hzb
          · exact e
          · have := (List.pairwise_append.1 hp).2.1
            have h6 := (List.pairwise_cons.1 this).1 _ hzb
            rcases h5 y hy with h7 | h7
            · exact absurd h7 q3.not
            · omega
      have e1 := (h.at h1).2
      rw [hz] at h3 e1
      rw [q4, e1, h4, q3.uniq h3]
      exact ⟨rfl, by have := h3.ne; omega, by omega⟩
def allD (S : RdS) : List Nat := (List.range 1114112).filter fun x => (S.ds x).isSome
theorem allD_rise (S : RdS) : (allD S).Pairwise (· < ·) := List.Pairwise.filter _ List.pairwise_lt_range
theorem allD_mem {k : Nat} (hS : RdOk k S) (x : Nat) : x ∈ allD S ↔ (S.ds x).isSome = true := by
  unfold allD
  rw [List.mem_filter, List.mem_range]
  refine ⟨fun h => h.2, fun h => ⟨?_, h⟩⟩
  cases hd : S.ds x with
  | none => rw [hd] at h; cases h
  | some l =>
    have := (hS.ds x l hd).1.1
    have := valid_le this
    omega
theorem ParseR.uniq {l : List UInt8} {a b la lb : Nat} {S T : RdS} {L M : List Nat} (h : ParseR l a la S L) (h2 : ParseR l b lb T M) : a = b ∧ la = lb ∧ (a = 0 → S = T ∧ L = M) := by
  rcases h with ⟨h0, h1, h3⟩ | ⟨h0, h1, h3, h4⟩ | ⟨h0, h1, h3, h4, h5, h6, h7⟩ <;> rcases h2 with ⟨k0, k1, k3⟩ | ⟨k0, k1, k3, k4⟩ | ⟨k0, k1, k3, k4, k5, k6, k7⟩
  · exact ⟨by omega, by omega, fun e => by omega⟩
  · exact absurd h0 k0
  · exact absurd h0 k0
  · exact absurd k0 h0
  · exact ⟨by omega, by omega, fun e => absurd (h3.symm.trans e) h1⟩
  · exact absurd k1 h1
  · exact absurd k0 h0
  · exact absurd h1 k1
  · have hS : S = T := h3.trans k3.symm
    subst hS
    have hL : L = M := rise_eq h4 k4 (fun x => (h5 x).trans (k5 x).symm)
    subst hL
    exact ⟨h6.trans k6.symm, h7.trans k7.symm, fun _ => ⟨rfl, rfl⟩⟩
end Go.Proofs.YtfpfpaaojdodnaaGreatDoor
/- The document's answer for props: what it keeps while lines come, in memory. -/
namespace Go.Proofs.YtfpfpaaojdodnaaGreatDoor
open Go Go.RowKit Go.Kt Go.Kt.Rg Go.Maps

def rfE (l : List (Nat × Nat × Int)) : List Value := l.flatMap fun r => [.int .i64 r.1, .int .i64 r.2.1, .int .i64 r.2.2]
theorem rfE_snoc (l : List (Nat × Nat × Int)) (r : Nat × Nat × Int) : rfE (l ++ [r]) = rfE l ++ [.int .i64 r.1, .int .i64 r.2.1, .int .i64 r.2.2] := by simp [rfE]
def lnE (l : List (Ln3 × Value)) : List Value := l.flatMap fun r => [.int .i64 (r.1.1 : Nat), r.2, .int .i64 (r.1.2.2 : Nat)]
theorem lnE_snoc (l : List (Ln3 × Value)) (r : Ln3 × Value) : lnE (l ++ [r]) = lnE l ++ [.int .i64 (r.1.1 : Nat), r.2, .int .i64 (r.1.2.2 : Nat)] := by simp [lnE]
theorem rfE_at {l : List (Nat × Nat × Int)} {i : Nat} {r : Nat × Nat × Int} (h : l[i]? = some r) : (rfE l)[i * 3]? = some (.int .i64 r.1) ∧ (rfE l)[i * 3 + 1]? = some (.int .i64 r.2.1) ∧ (rfE l)[i * 3 + 2]? = some (.int .i64 r.2.2) := by
  induction l generalizing i with
  | nil => simp at h
  | cons x t ih =>
    unfold rfE
    rw [List.flatMap_cons]
    cases i with
    | zero => simp at h; subst h; exact ⟨rfl, rfl, rfl⟩
    | succ i =>
      have := ih (i := i) (by simpa using h)
      rw [show (i + 1) * 3 = i * 3 + 3 by omega]
      exact this
theorem lnE_at {l : List (Ln3 × Value)} {i : Nat} {r : Ln3 × Value} (h : l[i]? = some r) : (lnE l)[i * 3]? = some (.int .i64 (r.1.1 : Nat)) ∧ (lnE l)[i * 3 + 1]? = some r.2 ∧ (lnE l)[i * 3 + 2]? = some (.int .i64 (r.1.2.2 : Nat)) := by
  induction l generalizing i with
  | nil => simp at h
  | cons x t ih =>
    unfold lnE
    rw [List.flatMap_cons]
    cases i with
    | zero => simp at h; subst h; exact ⟨rfl, rfl, rfl⟩
    | succ i =>
      have := ih (i := i) (by simpa using h)
      rw [show (i + 1) * 3 = i * 3 + 3 by omega]
      exact this
def ToV (ρ : Nat → Nat) (v : Value) (l : List Nat) (w : World) : Prop :=
  ∃ ao cap, v = .slice ao l.length cap ∧ (l = [] ∨ ∃ b, ao = some ⟨b, 0, none⟩ ∧ ρ b = 0 ∧ b < w.heap.size ∧ ∀ (i : Nat) (x : Nat), l[i]? = some x → w.cell? ⟨b, i, none⟩ = some (.int .i32 (x : Nat)))
theorem ToV.keep {ρ : Nat → Nat} {v : Value} {l : List Nat} {X : Nat → Prop} {A B : World} (h : ToV ρ v l A) (hk : Keep X A B) (hX : ∀ b, X b → ρ b ≠ 0) : ToV ρ v l B := by
  obtain ⟨ao, cap, rfl, h⟩ := h
  refine ⟨ao, cap, rfl, ?_⟩
  rcases h with h | ⟨b, h1, h2, h3, h4⟩
  · exact .inl h
  · exact .inr ⟨b, h1, h2, Nat.lt_of_lt_of_le h3 hk.size, fun i x hx => hk.cell (h4 i x hx) (fun e => hX _ e h2)⟩
theorem ToV.role {ρ ρ' : Nat → Nat} {v : Value} {l : List Nat} {w : World} (h : ToV ρ v l w) (e : ∀ b, b < w.heap.size → ρ' b = ρ b) : ToV ρ' v l w := by
  obtain ⟨ao, cap, rfl, h⟩ := h
  refine ⟨ao, cap, rfl, ?_⟩
  rcases h with h | ⟨b, h1, h2, h3, h4⟩
  · exact .inl h
  · exact .inr ⟨b, h1, (e b h3).trans h2, h3, h4⟩
theorem ToV.sl {ρ : Nat → Nat} {v : Value} {l : List Nat} {w : World} (h : ToV ρ v l w) : Sl .i32 w v (toZ l) := by
  obtain ⟨ao, cap, rfl, h⟩ := h
  rw [← toZ_len l]
  refine ⟨ao, cap, rfl, ?_⟩
  rcases h with h | ⟨b, h1, h2, h3, h4⟩
  · exact .inl (by rw [h]; rfl)
  · refine .inr ⟨b, 0, h1, fun i x hx => ?_⟩
    rw [Nat.zero_add]
    unfold toZ at hx
    rw [List.getElem?_map] at hx
    cases hl : l[i]? with
    | none => rw [hl] at hx; cases hx
    | some y =>
      rw [hl] at hx
      have := h4 i y hl
      rw [this]
      exact congrArg some (by rw [← Option.some.inj hx])
def LnO (ρ : Nat → Nat) (k : Nat) (v : Value) (l : List Ln3) (w : World) : Prop :=
  ∃ z : List (Ln3 × Value), z.map (·.1) = l ∧ OwnS (fun b => ρ b = k) 87 3 v l.length (lnE z) w ∧ ∀ p ∈ z, ToV ρ p.2 p.1.2.1 w
theorem LnO.keep {ρ : Nat → Nat} {k : Nat} {v : Value} {l : List Ln3} {X : Nat → Prop} {A B : World} (h : LnO ρ k v l A) (hk : Keep X A B) (hX : ∀ b, X b → ρ b ≠ k ∧ ρ b ≠ 0) : LnO ρ k v l B := by
  obtain ⟨z, h1, h2, h3⟩ := h
  exact ⟨z, h1, h2.keep hk (fun b hb => (hX b hb).1), fun p hp => (h3 p hp).keep hk (fun b hb => (hX b hb).2)⟩
theorem LnO.role {ρ ρ' : Nat → Nat} {k : Nat} {v : Value} {l : List Ln3} {w : World} (h : LnO ρ k v l w) (e : ∀ b, b < w.heap.size → ρ' b = ρ b) : LnO ρ' k v l w := by
  obtain ⟨z, h1, h2, h3⟩ := h
  exact ⟨z, h1, own_role h2 e, fun p hp => (h3 p hp).role e⟩
theorem rf_of {Y : Nat → Prop} {v : Value} {l : List (Nat × Nat × Int)} {w : World} (h : OwnS Y 166 3 v l.length (rfE l) w) : RfW w v l := by
  rcases h.shape with ⟨h1, h0⟩ | ⟨g, cap, h1, _⟩
  · exact ⟨none, 0, by rw [h1, h0], .inl (List.length_eq_zero_iff.1 h0)⟩
  · subst h1
    exact ⟨_, cap, rfl, .inr ⟨g, rfl, fun i r hr => ⟨h.atN (rfE_at hr).1, h.atN (rfE_at hr).2.1, h.atN (rfE_at hr).2.2⟩⟩⟩
theorem LnO.lf {ρ : Nat → Nat} {k : Nat} {v : Value} {l : List Ln3} {w : World} (h : LnO ρ k v l w) : LfW w v l := by
  obtain ⟨z, h1, h2, h3⟩ := h
  rcases h2.shape with ⟨e, h0⟩ | ⟨g, cap, e, _⟩
  · exact ⟨none, 0, by rw [e, h0], .inl (List.length_eq_zero_iff.1 h0)⟩
  · subst e
    refine ⟨_, cap, rfl, .inr ⟨g, rfl, fun i r hr => ?_⟩⟩
    obtain ⟨p, hp, rfl⟩ : ∃ p, z[i]? = some p ∧ p.1 = r := by
      rw [← h1, List.getElem?_map] at hr
      cases hz : z[i]? with
      | none => rw [hz] at hr; cases hr
      | some p => rw [hz] at hr; exact ⟨p, rfl, Option.some.inj hr⟩
    obtain ⟨q1, q2, q3⟩ := lnE_at hp
    exact ⟨h2.atN q1, ⟨p.2, h2.atN q2, (h3 p (List.mem_of_getElem? hp)).sl⟩, h2.atN q3⟩
structure PxW (B0 : Nat) (ρ : Nat → Nat) (g : Nat) (X : XdS) (cv kv fv dv : Value) (w : World) : Prop where
  hr : ∀ b, ρ b ≠ 0 → B0 ≤ b
  hB : B0 ≤ w.heap.size
  rg : ρ g = 1
  cell : w.heap[g]? = some (.cells #[cv, kv, fv, dv] 82 (0, 0))
  c : OwnS (fun b => ρ b = 2) 166 3 cv X.cs.length (rfE X.cs) w
  k : OwnS (fun b => ρ b = 3) 166 3 kv X.ks.length (rfE X.ks) w
  f : LnO ρ 4 fv X.fl w
  d : LnO ρ 5 dv X.dl w
variable {B0 g : Nat} {ρ : Nat → Nat} {X : XdS} {cv kv fv dv : Value} {w w' : World}
theorem PxW.gl (h : PxW B0 ρ g X cv kv fv dv w) : g < w.heap.size := (Array.getElem?_eq_some_iff.1 h.cell).1
theorem PxW.role {ρ' : Nat → Nat} (h : PxW B0 ρ g X cv kv fv dv w) (e : ∀ b, b < w.heap.size → ρ' b = ρ b) (h0 : ∀ b, w.heap.size ≤ b → ρ' b ≠ 0 → B0 ≤ b) : PxW B0 ρ' g X cv kv fv dv w where
  hr b hb := by
    by_cases h1 : b < w.heap.size
    · exact h.hr b (by rw [← e b h1]; exact hb)
    · exact h0 b (by omega) hb
  hB := h.hB
  rg := (e _ h.gl).trans h.rg
  cell := h.cell
  c := own_role h.c e
  k := own_role h.k e
  f := h.f.role e
  d := h.d.role e
theorem PxW.role_more (h : PxW B0 ρ g X cv kv fv dv w) (k : Nat) : PxW B0 (moreR w ρ k) g X cv kv fv dv w :=
  h.role (fun b hb => moreR_old b hb) (fun _ hb _ => Nat.le_trans h.hB hb)
theorem PxW.below (h : PxW B0 ρ g X cv kv fv dv w) (hb : Below w.heap.size w w') : PxW B0 ρ g X cv kv fv dv w' where
  hr := h.hr
  hB := Nat.le_trans h.hB hb.size
  rg := h.rg
  cell := (hb.block g h.gl).trans h.cell
  c := h.c.keep (X := fun _ => False) (Keep.of_all hb) (fun _ h => h.elim)
  k := h.k.keep (X := fun _ => False) (Keep.of_all hb) (fun _ h => h.elim)
  f := h.f.keep (X := fun _ => False) (Keep.of_all hb) (fun _ h => h.elim)
  d := h.d.keep (X := fun _ => False) (Keep.of_all hb) (fun _ h => h.elim)
theorem PxW.rp (h : PxW B0 ρ g X cv kv fv dv w) : RpW g X.cs X.ks fv dv w := ⟨cv, kv, h.cell, rf_of h.c, rf_of h.k⟩
theorem PxW.newc (h : PxW B0 ρ g X cv kv fv dv w) {v' : Value} {l' : List (Nat × Nat × Int)} (hk : Keep (fun b => b = g ∨ cv.ownBlock = some b) w w') (hc : w'.heap[g]? = some (.cells #[v', kv, fv, dv] 82 (0, 0)))
    (ho : OwnS (fun b => (cv.ownBlock = some b ∨ w.heap.size ≤ b) ∧ b ≠ g) 166 3 v' l'.length (rfE l') w') : PxW B0 (moreR w ρ 2) g { X with cs := l' } v' kv fv dv w' := by
  have H := h.role_more 2
  have hX : ∀ b, (b = g ∨ cv.ownBlock = some b) → moreR w ρ 2 b = 1 ∨ moreR w ρ 2 b = 2 := fun b hb => by
    rcases hb with rfl | hb
    · exact .inl H.rg
    · exact .inr (H.c.2 b hb)
  exact {
    hr := H.hr, hB := Nat.le_trans h.hB hk.size, rg := H.rg, cell := hc
    c := ho.weaken (fun b hb => by
      rcases hb.1 with h1 | h1
      · exact H.c.2 b h1
      · exact moreR_new b h1)
    k := H.k.keep hk (fun b hb h3 => by have := hX b hb; omega)
    f := H.f.keep hk (fun b hb => by have := hX b hb; omega)
    d := H.d.keep hk (fun b hb => by have := hX b hb; omega) }
theorem PxW.newk (h : PxW B0 ρ g X cv kv fv dv w) {v' : Value} {l' : List (Nat × Nat × Int)} (hk : Keep (fun b => b = g ∨ kv.ownBlock = some b) w w') (hc : w'.heap[g]? = some (.cells #[cv, v', fv, dv] 82 (0, 0)))
    (ho : OwnS (fun b => (kv.ownBlock = some b ∨ w.heap.size ≤ b) ∧ b ≠ g) 166 3 v' l'.length (rfE l') w') : PxW B0 (moreR w ρ 3) g { X with ks := l' } cv v' fv dv w' := by
  have H := h.role_more 3
  have hX : ∀ b, (b = g ∨ kv.ownBlock = some b) → moreR w ρ 3 b = 1 ∨ moreR w ρ 3 b = 3 := fun b hb => by
    rcases hb with rfl | hb
    · exact .inl H.rg
    · exact .inr (H.k.2 b hb)
  exact {
    hr := H.hr, hB := Nat.le_trans h.hB hk.size, rg := H.rg, cell := hc
    k := ho.weaken (fun b hb => by
      rcases hb.1 with h1 | h1
      · exact H.k.2 b h1
      · exact moreR_new b h1)
    c := H.c.keep hk (fun b hb h3 => by have := hX b hb; omega)
    f := H.f.keep hk (fun b hb => by have := hX b hb; omega)
    d := H.d.keep hk (fun b hb => by have := hX b hb; omega) }
theorem PxW.newf (h : PxW B0 ρ g X cv kv fv dv w) {v' u : Value} {x : Ln3} (z : List (Ln3 × Value)) (hz : z.map (·.1) = X.fl) (hto : ∀ p ∈ z, ToV ρ p.2 p.1.2.1 w) (hu : ToV ρ u x.2.1 w) (hk : Keep (fun b => b = g ∨ fv.ownBlock = some b) w w') (hc : w'.heap[g]? = some (.cells #[cv, kv, v', dv] 82 (0, 0)))
    (ho : OwnS (fun b => (fv.ownBlock = some b ∨ w.heap.size ≤ b) ∧ b ≠ g) 87 3 v' (z.length + 1) (lnE (z ++ [(x, u)])) w') : PxW B0 (moreR w ρ 4) g { X with fl := X.fl ++ [x] } cv kv v' dv w' := by
  have H := h.role_more 4
  have hf : ∀ b, fv.ownBlock = some b → moreR w ρ 4 b = 4 := fun b hb => by
    obtain ⟨_, _, h2, _⟩ := H.f
    exact h2.2 b hb
  have hX : ∀ b, (b = g ∨ fv.ownBlock = some b) → moreR w ρ 4 b = 1 ∨ moreR w ρ 4 b = 4 := fun b hb => by
    rcases hb with rfl | hb
    · exact .inl H.rg
    · exact .inr (hf b hb)
  have hto' : ∀ {v : Value} {l : List Nat}, ToV ρ v l w → ToV (moreR w ρ 4) v l w' := fun h1 => (h1.role (fun b hb => moreR_old b hb)).keep hk (fun b hb => by have := hX b hb; omega)
  exact {
    hr := H.hr, hB := Nat.le_trans h.hB hk.size, rg := H.rg, cell := hc
    c := H.c.keep hk (fun b hb h3 => by have := hX b hb; omega)
    k := H.k.keep hk (fun b hb h3 => by have := hX b hb; omega)
    f := ⟨z ++ [(x, u)], by simp [hz], by
      have hl : (X.fl ++ [x]).length = z.length + 1 := by simp [← hz]
      simp only [hl]
      exact ho.weaken (fun b hb => by
        rcases hb.1 with h1 | h1
        · exact hf b h1
        · exact moreR_new b h1), fun p hp => by
        rcases List.mem_append.1 hp with hp | hp
        · exact hto' (hto p hp)
        · rw [List.mem_singleton] at hp
          subst hp
          exact hto' hu⟩
    d := H.d.keep hk (fun b hb => by have := hX b hb; omega) }
theorem PxW.newd (h : PxW B0 ρ g X cv kv fv dv w) {v' u : Value} {x : Ln3} (z : List (Ln3 × Value)) (hz : z.map (·.1) = X.dl) (hto : ∀ p ∈ z, ToV ρ p.2 p.1.2.1 w) (hu : ToV ρ u x.2.1 w) (hk : Keep (fun b => b = g ∨ dv.ownBlock = some b) w w') (hc : w'.heap[g]? = some (.cells #[cv, kv, fv, v'] 82 (0, 0)))
    (ho : OwnS (fun b => (dv.ownBlock = some b ∨ w.heap.size ≤ b) ∧ b ≠ g) 87 3 v' (z.length + 1) (lnE (z ++ [(x, u)])) w') : PxW B0 (moreR w ρ 5) g { X with dl := X.dl ++ [x] } cv kv fv v' w' := by
  have H := h.role_more 5
  have hf : ∀ b, dv.ownBlock = some b → moreR w ρ 5 b = 5 := fun b hb => by
    obtain ⟨_, _, h2, _⟩ := H.d
    exact h2.2 b hb
  have hX : ∀ b, (b = g ∨ dv.ownBlock = some b) → moreR w ρ 5 b = 1 ∨ moreR w ρ 5 b = 5 := fun b hb => by
    rcases hb with rfl | hb
    · exact .inl H.rg
    · exact .inr (hf b hb)
  have hto' : ∀ {v : Value} {l : List Nat}, ToV ρ v l w → ToV (moreR w ρ 5) v l w' := fun h1 => (h1.role (fun b hb => moreR_old b hb)).keep hk (fun b hb => by have := hX b hb; omega)
  exact {
    hr := H.hr, hB := Nat.le_trans h.hB hk.size, rg := H.rg, cell := hc
    c := H.c.keep hk (fun b hb h3 => by have := hX b hb; omega)
    k := H.k.keep hk (fun b hb h3 => by have := hX b hb; omega)
    f := H.f.keep hk (fun b hb => by have := hX b hb; omega)
    d := ⟨z ++ [(x, u)], by simp [hz], by
      have hl : (X.dl ++ [x]).length = z.length + 1 := by simp [← hz]
      simp only [hl]
      exact ho.weaken (fun b hb => by
        rcases hb.1 with h1 | h1
        · exact hf b h1
        · exact moreR_new b h1), fun p hp => by
        rcases List.mem_append.1 hp with hp | hp
        · exact hto' (hto p hp)
        · rw [List.mem_singleton] at hp
          subst hp
          exact hto' hu⟩ }
def PxOut (B0 g N no : Nat) (E : RdS) (w : World) (e : Ending) (w' : World) : Prop :=
  e = .returned (.int .i64 (no : Nat)) ∧ Below B0 w w' ∧ ∃ ρ X cv kv fv dv, PxW B0 ρ g X cv kv fv dv w' ∧ (no = 0 → XRel X E) ∧ X.fl.length ≤ N ∧ X.dl.length ≤ N
end Go.Proofs.YtfpfpaaojdodnaaGreatDoor
