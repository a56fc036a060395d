/- props: words byte by byte, files that say the same, alike: mathematics, and the walk of alike. -/
import Derived.Test.YtdmimdiffjpjpaaGreatDoorUn
import Derived.Test.YtdmimdiffjpjpaaGreatDoorUu
import Derived.Test.YtdmimdiffjpjpaaGreatDoorUw
import Derived.Test.YtdmimdiffjpjpaaGreatDoorUx
/- props: the words of a line, byte by byte: mathematics. -/
namespace Go.Proofs.YtdmimdiffjpjpaaGreatDoor
open Go Go.RowKit Go.Kt Go.Kt.Rg Go.Maps

theorem blk_no {n : Nat} (h : n ≠ 32 ∧ n ≠ 9) : blkP n = false := by
  unfold blkP
  rw [beq_eq_false_iff_ne.2 h.1, beq_eq_false_iff_ne.2 h.2]; rfl
theorem blk_iff {n : Nat} : blkP n = true ↔ n = 32 ∨ n = 9 := by
  unfold blkP
  simp
/-- A unit is a blank byte, or it has none. -/
theorem dec_blk (s : ByteArray) (p : Nat) (h : p < s.size) :
    (blkP (Utf8.decode s p).1 = true ∧ (Utf8.decode s p).2 = 1 ∧ blkP (s.get! p).toNat = true) ∨
    (blkP (Utf8.decode s p).1 = false ∧ 1 ≤ (Utf8.decode s p).2 ∧ p + (Utf8.decode s p).2 ≤ s.size ∧ ∀ j, j < (Utf8.decode s p).2 → blkP (s.get! (p + j)).toNat = false) := by
  rw [Lib.decode_at]
  obtain ⟨b0, h0⟩ : ∃ b, (s.get! p).toNat = b := ⟨_, rfl⟩
  obtain ⟨b1, h1⟩ : ∃ b, (s.get! (p + 1)).toNat = b := ⟨_, rfl⟩
  obtain ⟨b2, h2⟩ : ∃ b, (s.get! (p + 2)).toNat = b := ⟨_, rfl⟩
  obtain ⟨b3, h3⟩ : ∃ b, (s.get! (p + 3)).toNat = b := ⟨_, rfl⟩
  rw [h0, h1, h2, h3]
  unfold Lib.decodeN
  by_cases ha : b0 < 128
  · rw [if_pos ha]
    by_cases hb : blkP b0 = true
    · exact .inl ⟨hb, rfl, hb⟩
    · have hb2 : blkP b0 = false := by simpa using hb
      exact .inr ⟨hb2, Nat.le_refl _, by simp only; omega, fun j hj => by
        obtain rfl : j = 0 := by simp only at hj; omega
        rw [Nat.add_zero, h0]; exact hb2⟩
  · rw [if_neg ha]
    right
    repeat' split
    all_goals refine ⟨blk_no (by simp only; omega), by simp only; omega, by simp only; omega, fun j hj => ?_⟩
    all_goals simp only at hj
    all_goals (obtain rfl | rfl | rfl | rfl : j = 0 ∨ j = 1 ∨ j = 2 ∨ j = 3 := by omega)
    all_goals first
      | (exfalso; omega)
      | (rw [Nat.add_zero, h0]; exact blk_no (by omega))
      | (rw [h1]; exact blk_no (by omega))
      | (rw [h2]; exact blk_no (by omega))
      | (rw [h3]; exact blk_no (by omega))

/-- Words of bytes; those of the word that is read so far stand ahead. -/
def wordsB : List UInt8 → List UInt8 → List (List UInt8)
  | cur, [] => if cur = [] then [] else [cur]
  | cur, b :: t => if blkP b.toNat then (if cur = [] then wordsB [] t else cur :: wordsB [] t) else wordsB (cur ++ [b]) t
theorem wordsB_take : ∀ (k : Nat) (cur l : List UInt8), k ≤ l.length → (∀ j b, j < k → l[j]? = some b → blkP b.toNat = false) → wordsB cur l = wordsB (cur ++ l.take k) (l.drop k) := by
  intro k
  induction k with
  | zero => intro cur l _ _; simp
  | succ k ih =>
    intro cur l hk h
    cases l with
    | nil => simp at hk
    | cons b t =>
      have hb := h 0 b (by omega) rfl
      rw [wordsB, hb]
      simp only [Bool.false_eq_true, if_false]
      rw [ih (cur ++ [b]) t (by simpa using hk) (fun j c hj hc => h (j + 1) c (by omega) (by simpa using hc))]
      simp
theorem get_at (s : ByteArray) (i : Nat) (h : i < s.size) : s.data.toList[i]? = some (s.get! i) := by
  have hl : i < s.data.toList.length := by rw [← Lib.size_eq]; exact h
  rw [List.getElem?_eq_getElem hl]
  congr 1
  have e : s.get! i = s[i]'h := by
    simp [ByteArray.get!, getElem!_pos, h]
    rfl
  rw [e]
  simp
  rfl
theorem drop_at (s : ByteArray) (i : Nat) (h : i < s.size) : s.data.toList.drop i = s.get! i :: s.data.toList.drop (i + 1) := by
  have hl : i < s.data.toList.length := by rw [← Lib.size_eq]; exact h
  rw [List.drop_eq_getElem_cons hl]
  congr 1
  have := get_at s i h
  rw [List.getElem?_eq_getElem hl] at this
  exact Option.some.inj this
/-- What has been read of the word at a place. -/
def curB (l : List UInt8) (p : Nat) : Option Nat → List UInt8
  | some a => (l.take p).drop a
  | none => []
theorem curB_ne (l : List UInt8) (p a : Nat) (h : a < p) (hp : p ≤ l.length) : curB l p (some a) ≠ [] := fun e => by
  have := congrArg List.length e
  simp [curB] at this
  omega
theorem curB_more (l : List UInt8) (p k : Nat) (o : Option Nat) (ha : ∀ a, o = some a → a ≤ p) (hp : p + k ≤ l.length) : curB l (p + k) (some (o.getD p)) = curB l p o ++ (l.drop p).take k := by
  cases o with
  | none =>
    show (l.take (p + k)).drop p = [] ++ _
    rw [List.nil_append, List.drop_take, Nat.add_sub_cancel_left]
  | some a =>
    have := ha a rfl
    show (l.take (p + k)).drop a = (l.take p).drop a ++ _
    rw [List.take_add, List.drop_append_of_le_length (by rw [List.length_take]; omega)]
theorem spans_words (s : ByteArray) : ∀ (f p : Nat) (st : Option Nat) (acc : List (Nat × Nat)), s.size ≤ p + f → p ≤ s.size → (∀ a, st = some a → a < p) →
    (Lib.closeSpans s (Lib.spansFromP blkP s f p st acc)).map (fun x => (s.data.toList.take x.2).drop x.1) = acc.map (fun x => (s.data.toList.take x.2).drop x.1) ++ wordsB (curB s.data.toList p st) (s.data.toList.drop p) := by
  have hln : s.data.toList.length = s.size := (Lib.size_eq s).symm
  have fin : ∀ (p : Nat) (st : Option Nat) (acc : List (Nat × Nat)), ¬ p < s.size → p ≤ s.size → (∀ a, st = some a → a < p) →
      (Lib.closeSpans s (acc, st)).map (fun x => (s.data.toList.take x.2).drop x.1) = acc.map (fun x => (s.data.toList.take x.2).drop x.1) ++ wordsB (curB s.data.toList p st) (s.data.toList.drop p) := by
    intro p st acc hp hps hst
    obtain rfl : p = s.size := by omega
    rw [List.drop_eq_nil_of_le (by omega), wordsB]
    cases st with
    | none => simp [Lib.closeSpans, curB]
    | some a =>
      rw [if_neg (curB_ne _ _ _ (hst a rfl) (by omega))]
      simp [Lib.closeSpans, curB]
  intro f
  induction f with
  | zero => intro p st acc h1 h2 h3; exact fin p st acc (by omega) h2 h3
  | succ f ih =>
    intro p st acc h1 h2 h3
    by_cases hp : p < s.size
    rotate_left
    · rw [Lib.spansFromP_end _ _ _ _ _ _ hp]
      exact fin p st acc hp h2 h3
    unfold Lib.spansFromP
    rw [if_pos hp]
    rcases dec_blk s p hp with ⟨d1, d2, d3⟩ | ⟨d1, d2, d3, d4⟩
    · rw [d1, d2, if_pos rfl, drop_at s p hp, wordsB, if_pos d3]
      cases st with
      | none => simp only; rw [ih _ _ _ (by omega) (by omega) (fun a h => by cases h)]; rfl
      | some a =>
        simp only
        rw [ih _ _ _ (by omega) (by omega) (fun a h => by cases h), if_neg (curB_ne _ _ _ (h3 a rfl) (by omega))]
        simp [curB]
    · rw [d1, if_neg (by decide)]
      have hw := wordsB_take (Utf8.decode s p).2 (curB s.data.toList p st) (s.data.toList.drop p) (by rw [List.length_drop]; omega) (fun j b hj hb => by
        rw [List.getElem?_drop, get_at s (p + j) (by omega)] at hb
        injection hb with hb
        rw [← hb]; exact d4 j hj)
      rw [hw, List.drop_drop, ← curB_more _ _ _ _ (fun a h => Nat.le_of_lt (h3 a h)) (by omega)]
      cases st with
      | none => exact ih _ _ _ (by omega) d3 (fun a h => by cases h; omega)
      | some a => exact ih _ _ _ (by omega) d3 (fun b h => by cases h; have := h3 a rfl; omega)
theorem wrdP_eq (l : List UInt8) : wrdP l = wordsB [] (lineP l) := by
  have h := spans_words ⟨(lineP l).toArray⟩ (⟨(lineP l).toArray⟩ : ByteArray).size 0 none [] (by omega) (by omega) (fun a h => by cases h)
  simp only [List.map_nil, List.nil_append, List.drop_zero] at h
  have e : curB (lineP l) 0 none = [] := rfl
  rw [e] at h
  rw [← h]
  unfold wrdP Lib.goFieldsP Lib.spansOfP
  rw [List.map_map]
  apply List.map_congr_left
  intro x _
  show (ByteArray.extract ⟨(lineP l).toArray⟩ x.1 x.2).data.toList = _
  have := Lib.extract_toList ⟨(lineP l).toArray⟩ x.1 x.2
  rw [ByteArray.toList_eq] at this
  rw [this, List.drop_take]

/-- Words up to a remark. -/
def wordsH : List UInt8 → List UInt8 → List (List UInt8)
  | cur, [] => if cur = [] then [] else [cur]
  | cur, b :: t => if b = 35 then (if cur = [] then [] else [cur]) else if blkP b.toNat then (if cur = [] then wordsH [] t else cur :: wordsH [] t) else wordsH (cur ++ [b]) t
theorem cut_one (l : List UInt8) (x : UInt8) : (Lib.cut l [x]).1 = l.takeWhile (· != x) := by
  induction l with
  | nil => simp [Lib.cut, Lib.index]
  | cons b t ih =>
    unfold Lib.cut at ih ⊢
    rw [Lib.index]
    by_cases hb : b = x
    · subst hb
      simp
    · have e1 : ([x] : List UInt8).isPrefixOf (b :: t) = false := by simp [List.isPrefixOf]; exact fun h => hb h.symm
      have e2 : (b != x) = true := by simpa using hb
      rw [e1, List.takeWhile_cons_of_pos (by simpa using hb)]
      have hge := Lib.index_ge t [x]
      by_cases hi : Lib.index t [x] = -1
      · rw [hi] at ih ⊢
        simp at ih ⊢
        exact ih
      · obtain ⟨n, hn⟩ : ∃ n : Nat, Lib.index t [x] = (n : Int) := ⟨(Lib.index t [x]).toNat, by omega⟩
        rw [hn] at ih ⊢
        have e3 : ((n : Int) == -1) = false := by simp
        simp only [e3, Bool.false_eq_true, if_false]
        rw [if_pos (by omega)] at ih ⊢
        rw [show ((n : Int) + 1).toNat = n + 1 by omega]
        simp at ih ⊢
        exact ih
theorem wordsH_cut (l : List UInt8) : ∀ cur, wordsB cur (l.takeWhile (· != 35)) = wordsH cur l := by
  induction l with
  | nil => intro cur; rfl
  | cons b t ih =>
    intro cur
    by_cases hb : b = 35
    · subst hb
      simp [wordsH, wordsB]
    · rw [List.takeWhile_cons_of_pos (by simpa using hb), wordsB, wordsH, if_neg hb, ih, ih]
theorem wrdP_H (l : List UInt8) : wrdP l = wordsH [] (Lib.trimSuffix (Lib.trimSuffix l [10]) [13]) := by
  rw [wrdP_eq, lineP, cut_one, wordsH_cut]
theorem trims_cons (b c : UInt8) (t : List UInt8) : Lib.trimSuffix (b :: t) [c] = if t = [] then (if b = c then [] else [b]) else b :: Lib.trimSuffix t [c] := by
  unfold Lib.trimSuffix Lib.hasSuffix
  cases t with
  | nil =>
    by_cases h : b = c
    · subst h; simp
    · have : ([c] : List UInt8).isSuffixOf [b] = false := by
        cases e : ([c] : List UInt8).isSuffixOf [b] with
        | false => rfl
        | true =>
          have := List.isSuffixOf_iff_suffix.1 e
          have := this.eq_of_length rfl
          injection this with this
          exact absurd this.symm h
      rw [this]; simp [h]
  | cons d u =>
    have : ([c] : List UInt8).isSuffixOf (b :: d :: u) = ([c] : List UInt8).isSuffixOf (d :: u) := by
      rw [Bool.eq_iff_iff, List.isSuffixOf_iff_suffix, List.isSuffixOf_iff_suffix, List.suffix_cons_iff]
      constructor
      · rintro (h | h)
        · simp at h
        · exact h
      · exact .inr
    rw [this, if_neg (List.cons_ne_nil d u)]
    by_cases h : ([c] : List UInt8).isSuffixOf (d :: u) = true
    · rw [if_pos h, if_pos h]; rfl
    · rw [if_neg h, if_neg h]
theorem trims_end (c : UInt8) (l : List UInt8) : Lib.trimSuffix (l ++ [c]) [c] = l := by
  induction l with
  | nil => rw [List.nil_append, trims_cons, if_pos rfl, if_pos rfl]
  | cons b t ih => rw [List.cons_append, trims_cons, if_neg (by simp), ih]
theorem trims_not (c : UInt8) (l : List UInt8) (h : l.getLast? ≠ some c) : Lib.trimSuffix l [c] = l := by
  induction l with
  | nil => rfl
  | cons b t ih =>
    rw [trims_cons]
    cases t with
    | nil => rw [if_pos rfl, if_neg (fun e => h (by rw [e]; rfl))]
    | cons d u => rw [if_neg (by simp), ih (by simpa using h)]
end Go.Proofs.YtdmimdiffjpjpaaGreatDoor

/- props: files whose lines say the same: mathematics. -/
namespace Go.Proofs.YtdmimdiffjpjpaaGreatDoor
open Go Go.RowKit Go.Kt Go.Kt.Rg Go.Maps

theorem trims13 (b c : UInt8) (t : List UInt8) : Lib.trimSuffix (b :: t) [c] = if b = c ∧ t = [] then [] else b :: Lib.trimSuffix t [c] := by
  rw [trims_cons]
  by_cases ht : t = []
  · subst ht
    by_cases hb : b = c
    · rw [if_pos rfl, if_pos hb, if_pos ⟨hb, rfl⟩]
    · rw [if_pos rfl, if_neg hb, if_neg (fun h => hb h.1)]; rfl
  · rw [if_neg ht, if_neg (fun h => ht h.2)]
theorem trims_mem {c x : UInt8} {l : List UInt8} (h : x ∈ Lib.trimSuffix l [c]) : x ∈ l := by
  unfold Lib.trimSuffix at h
  split at h
  · exact List.mem_of_mem_take h
  · exact h

/-! ### Lines of bytes -/
theorem ixb_some (c rest : List UInt8) (h : ∀ x ∈ c, x ≠ 10) : Lib.indexByte (c ++ 10 :: rest) 10 = (c.length : Int) := by
  induction c with
  | nil => simp [Lib.indexByte]
  | cons b t ih =>
    have hb := h b List.mem_cons_self
    have := ih (fun x hx => h x (List.mem_cons_of_mem _ hx))
    rw [List.cons_append, Lib.indexByte, if_neg (by simpa using hb), this, if_neg (by simp)]
    simp
theorem ixb_none (c : List UInt8) (h : ∀ x ∈ c, x ≠ 10) : Lib.indexByte c 10 = -1 := by
  induction c with
  | nil => rfl
  | cons b t ih =>
    have hb := h b List.mem_cons_self
    rw [Lib.indexByte, if_neg (by simpa using hb), ih (fun x hx => h x (List.mem_cons_of_mem _ hx))]
    rfl
theorem lines_cons (c rest : List UInt8) (h : ∀ x ∈ c, x ≠ 10) : linesP (c ++ 10 :: rest) = (c ++ [10]) :: linesP rest := by
  rw [linesP_some (by simp) (ixb_some c rest h)]
  congr 1
  · rw [List.take_append, List.take_of_length_le (by omega), Nat.add_sub_cancel_left]; rfl
  · rw [List.drop_append, List.drop_eq_nil_of_le (by omega), Nat.add_sub_cancel_left]; rfl
theorem lines_one (c : List UInt8) (h : ∀ x ∈ c, x ≠ 10) : linesP c = if c = [] then [] else [c] := by
  by_cases hc : c = []
  · subst hc; rfl
  · rw [if_neg hc, linesP_none hc (ixb_none c h)]
theorem line_cut (l : List UInt8) : (∀ x ∈ l, x ≠ 10) ∨ ∃ c rest, l = c ++ 10 :: rest ∧ (∀ x ∈ c, x ≠ 10) ∧ rest.length < l.length := by
  induction l with
  | nil => exact .inl (fun x h => by cases h)
  | cons b t ih =>
    by_cases hb : b = 10
    · subst hb
      exact .inr ⟨[], t, rfl, (fun x h => by cases h), by simp⟩
    · rcases ih with h | ⟨c, rest, h1, h2, h3⟩
      · exact .inl (fun x hx => by
          rcases List.mem_cons.1 hx with rfl | hx
          · exact hb
          · exact h x hx)
      · refine .inr ⟨b :: c, rest, by rw [h1]; rfl, fun x hx => ?_, by simp; omega⟩
        rcases List.mem_cons.1 hx with rfl | hx
        · exact hb
        · exact h2 x hx
/-- The words of the lines that have some. -/
def FW (l : List UInt8) : List (List (List UInt8)) := ((linesP l).map wrdP).filter (fun w => !w.isEmpty)
def oneW (w : List (List UInt8)) : List (List (List UInt8)) := if w = [] then [] else [w]
theorem filt_one (w : List (List UInt8)) : [w].filter (fun w => !w.isEmpty) = oneW w := by
  unfold oneW
  cases w <;> rfl
theorem trims10 (c : List UInt8) (h : ∀ x ∈ c, x ≠ 10) : Lib.trimSuffix c [10] = c := trims_not 10 c (fun e => h 10 (List.mem_of_getLast? e) rfl)
theorem fw_line (c rest : List UInt8) (h : ∀ x ∈ c, x ≠ 10) : FW (c ++ 10 :: rest) = oneW (wordsH [] (Lib.trimSuffix c [13])) ++ FW rest := by
  unfold FW
  rw [lines_cons c rest h, List.map_cons, ← List.singleton_append, List.filter_append, filt_one, wrdP_H, trims_end]
theorem fw_last (c : List UInt8) (h : ∀ x ∈ c, x ≠ 10) : FW c = oneW (wordsH [] (Lib.trimSuffix c [13])) := by
  unfold FW
  rw [lines_one c h]
  by_cases hc : c = []
  · subst hc; rfl
  · rw [if_neg hc, List.map_singleton, filt_one, wrdP_H, trims10 c h]
theorem fw_more (m : List UInt8) : ∀ l, FW (l ++ 10 :: m) = FW l ++ FW m := by
  intro l
  obtain ⟨n, hn⟩ : ∃ n, l.length ≤ n := ⟨_, Nat.le_refl _⟩
  induction n generalizing l with
  | zero =>
    obtain rfl : l = [] := List.length_eq_zero_iff.1 (by omega)
    rw [fw_line [] m (fun x h => by cases h), fw_last [] (fun x h => by cases h)]
  | succ n ih =>
    rcases line_cut l with h | ⟨c, rest, rfl, h2, h3⟩
    · rw [fw_line l m h, fw_last l h]
    · rw [List.append_assoc, List.cons_append, fw_line c _ h2, fw_line c _ h2, ih rest (by omega), List.append_assoc]

/-! ### What PropsPlain writes -/
def trB : Bool → List UInt8 → List UInt8
  | _, [] => []
  | r, b :: t => if b = 32 ∧ r = false then 9 :: 32 :: 32 :: trB r t else b :: trB (r || b == 35) t
def endB : List UInt8 := [32, 35, 32, 120, 13, 10, 32, 10]
def trG : Bool → List UInt8 → List UInt8
  | _, [] => []
  | r, b :: t => if b = 13 ∧ (t = [] ∨ t.head? = some 10) then trG r t
      else if b = 32 ∧ r = false then 9 :: 32 :: 32 :: trG r t
      else if b = 10 then endB ++ trG false t
      else b :: trG (r || b == 35) t
theorem trG_line (rest : List UInt8) : ∀ (c : List UInt8) (r : Bool), (∀ x ∈ c, x ≠ 10) → trG r (c ++ 10 :: rest) = trB r (Lib.trimSuffix c [13]) ++ (endB ++ trG false rest) := by
  intro c
  induction c with
  | nil => intro r _; rw [List.nil_append, trG, if_neg (fun h => absurd h.1 (by decide)), if_neg (fun h => absurd h.1 (by decide)), if_pos rfl]; rfl
  | cons b t ih =>
    intro r h
    have hb := h b List.mem_cons_self
    have ht : ∀ x ∈ t, x ≠ 10 := fun x hx => h x (List.mem_cons_of_mem _ hx)
    have hc : (b = 13 ∧ (t ++ 10 :: rest = [] ∨ (t ++ 10 :: rest).head? = some 10)) ↔ (b = 13 ∧ t = []) := by
      cases t with
      | nil => simp
      | cons d u => have := ht d List.mem_cons_self; simp [this]
    rw [List.cons_append, trG, trims13]
    by_cases hA : b = 13 ∧ t = []
    · rw [if_pos (hc.2 hA), if_pos hA, ih r ht, hA.2]; rfl
    · rw [if_neg (fun h => hA (hc.1 h)), if_neg hA, trB]
      by_cases h32 : b = 32 ∧ r = false
      · rw [if_pos h32, if_pos h32, ih r ht]; rfl
      · rw [if_neg h32, if_neg h32, if_neg hb, ih _ ht]; rfl
theorem trG_last : ∀ (c : List UInt8) (r : Bool), (∀ x ∈ c, x ≠ 10) → trG r c = trB r (Lib.trimSuffix c [13]) := by
  intro c
  induction c with
  | nil => intro r _; rfl
  | cons b t ih =>
    intro r h
    have hb := h b List.mem_cons_self
    have ht : ∀ x ∈ t, x ≠ 10 := fun x hx => h x (List.mem_cons_of_mem _ hx)
    have hc : (b = 13 ∧ (t = [] ∨ t.head? = some 10)) ↔ (b = 13 ∧ t = []) := by
      cases t with
      | nil => simp
      | cons d u => have := ht d List.mem_cons_self; simp [this]
    rw [trG, trims13]
    by_cases hA : b = 13 ∧ t = []
    · rw [if_pos (hc.2 hA), if_pos hA, ih r ht, hA.2]; rfl
    · rw [if_neg (fun h => hA (hc.1 h)), if_neg hA, trB]
      by_cases h32 : b = 32 ∧ r = false
      · rw [if_pos h32, if_pos h32, ih r ht]
      · rw [if_neg h32, if_neg h32, if_neg hb, ih _ ht]
theorem trB_mem : ∀ (c : List UInt8) (r : Bool), (∀ x ∈ c, x ≠ 10) → ∀ x ∈ trB r c, x ≠ 10 := by
  intro c
  induction c with
  | nil => intro r _ x hx; cases hx
  | cons b t ih =>
    intro r h x hx
    have ht : ∀ x ∈ t, x ≠ 10 := fun x hx => h x (List.mem_cons_of_mem _ hx)
    rw [trB] at hx
    split at hx
    · simp only [List.mem_cons] at hx
      rcases hx with rfl | rfl | rfl | hx
      · decide
      · decide
      · decide
      · exact ih r ht x hx
    · rcases List.mem_cons.1 hx with rfl | hx
      · exact h _ List.mem_cons_self
      · exact ih _ ht x hx
def oneF (cur : List UInt8) : List (List UInt8) := if cur = [] then [] else [cur]
theorem wH_nil (cur : List UInt8) : wordsH cur [] = oneF cur := by rw [wordsH]; rfl
theorem wH_35 (cur t : List UInt8) : wordsH cur (35 :: t) = oneF cur := by rw [wordsH, if_pos rfl]; rfl
theorem wH_blk (cur : List UInt8) (b : UInt8) (t : List UInt8) (h1 : b ≠ 35) (h2 : blkP b.toNat = true) : wordsH cur (b :: t) = oneF cur ++ wordsH [] t := by
  rw [wordsH, if_neg h1, if_pos h2]
  unfold oneF
  split <;> rfl
theorem wH_32 (cur t : List UInt8) : wordsH cur (32 :: t) = oneF cur ++ wordsH [] t := wH_blk cur 32 t (by decide) (by decide)
theorem wH_9 (cur t : List UInt8) : wordsH cur (9 :: t) = oneF cur ++ wordsH [] t := wH_blk cur 9 t (by decide) (by decide)
theorem oneF_nil : oneF [] = [] := rfl
theorem words_tr (z : List UInt8) (hz : z = [] ∨ ∃ y, z = 32 :: 35 :: y) : ∀ (d cur : List UInt8), wordsH cur (trB false d ++ z) = wordsH cur d := by
  intro d
  induction d with
  | nil =>
    intro cur
    rcases hz with rfl | ⟨y, rfl⟩
    · rfl
    · show wordsH cur (32 :: 35 :: y) = wordsH cur []
      rw [wH_32, wH_35, wH_nil, oneF_nil, List.append_nil]
  | cons b t ih =>
    intro cur
    rw [trB]
    by_cases h32 : b = 32
    · subst h32
      rw [if_pos ⟨rfl, rfl⟩]
      show wordsH cur (9 :: 32 :: 32 :: (trB false t ++ z)) = _
      rw [wH_9, wH_32, wH_32, ih, oneF_nil, wH_32]; rfl
    · rw [if_neg (fun h => h32 h.1), List.cons_append, wordsH, wordsH]
      by_cases h35 : b = 35
      · rw [if_pos h35, if_pos h35]
      · have e : (false || b == 35) = false := by simpa using h35
        rw [if_neg h35, if_neg h35, e, ih, ih]
theorem words_35 (y : List UInt8) : ∀ (e cur : List UInt8), 35 ∈ e → wordsH cur (e ++ y) = wordsH cur e := by
  intro e
  induction e with
  | nil => intro cur h; cases h
  | cons b t ih =>
    intro cur h
    rw [List.cons_append, wordsH, wordsH]
    by_cases h35 : b = 35
    · rw [if_pos h35, if_pos h35]
    · have ht : 35 ∈ t := by
        rcases List.mem_cons.1 h with h | h
        · exact absurd h.symm h35
        · exact h
      rw [if_neg h35, if_neg h35, ih _ ht, ih _ ht]
theorem words_13 : ∀ (e cur : List UInt8), 35 ∉ e → ∃ w ∈ wordsH cur (e ++ [13]), 13 ∈ w := by
  intro e
  induction e with
  | nil => intro cur _; exact ⟨cur ++ [13], by simp [wordsH, blkP], by simp⟩
  | cons b t ih =>
    intro cur h
    have h35 : b ≠ 35 := fun e => h (by rw [e]; exact List.mem_cons_self)
    have ht : 35 ∉ t := fun e => h (List.mem_cons_of_mem _ e)
    rw [List.cons_append, wordsH, if_neg h35]
    split
    · split
      · exact ih _ ht
      · obtain ⟨w, h1, h2⟩ := ih [] ht
        exact ⟨w, List.mem_cons_of_mem _ h1, h2⟩
    · exact ih _ ht
theorem trB_end (y : UInt8) (hy : y ≠ 32) : ∀ (e : List UInt8) (r : Bool), trB r (e ++ [y]) = trB r e ++ [y] := by
  intro e
  induction e with
  | nil => intro r; show trB r [y] = [] ++ [y]; unfold trB; rw [if_neg (fun h => hy h.1)]; rfl
  | cons b t ih =>
    intro r
    rw [List.cons_append, trB, trB]
    split
    · rw [ih]; rfl
    · rw [ih]; rfl
theorem trB_last : ∀ (d : List UInt8) (r : Bool), (trB r d).getLast? = d.getLast? := by
  intro d
  induction d with
  | nil => intro r; rfl
  | cons b t ih =>
    intro r
    rw [trB]
    have h0 : ∀ r, trB r t = [] ↔ t = [] := fun r => by
      cases t with
      | nil => simp [trB]
      | cons d u => rw [trB]; split <;> simp
    split
    · rename_i h
      by_cases ht : t = []
      · subst ht; rw [h.1]; rfl
      · have := ih r
        rw [List.getLast?_cons_cons, List.getLast?_cons_cons]
        cases hq : trB r t with
        | nil => exact absurd ((h0 r).1 hq) ht
        | cons p q =>
          rw [List.getLast?_cons_cons, ← hq, this]
          cases t with
          | nil => exact absurd rfl ht
          | cons d u => rw [List.getLast?_cons_cons]
    · by_cases ht : t = []
      · subst ht; rfl
      · have := ih (r || b == 35)
        cases hq : trB (r || b == 35) t with
        | nil => exact absurd ((h0 _).1 hq) ht
        | cons p q =>
          rw [List.getLast?_cons_cons, ← hq, this]
          cases t with
          | nil => exact absurd rfl ht
          | cons d u => rw [List.getLast?_cons_cons]
/-- Blanks, remarks, ends of lines change no words, if no word holds a CR. -/
theorem fw_tr : ∀ (l : List UInt8), (∀ ws ∈ FW l, ∀ w ∈ ws, 13 ∉ w) → FW (trG false l) = FW l := by
  intro l
  obtain ⟨n, hn⟩ : ∃ n, l.length ≤ n := ⟨_, Nat.le_refl _⟩
  induction n generalizing l with
  | zero =>
    obtain rfl : l = [] := List.length_eq_zero_iff.1 (by omega)
    intro _; rfl
  | succ n ih =>
    intro hacc
    rcases line_cut l with h | ⟨c, rest, rfl, h2, h3⟩
    · have hd : ∀ x ∈ Lib.trimSuffix l [13], x ≠ 10 := fun x hx => h x (trims_mem hx)
      rw [trG_last l false h, fw_last _ (trB_mem _ _ hd)]
      rw [fw_last l h] at hacc ⊢
      obtain ⟨d, hdd⟩ : ∃ d, Lib.trimSuffix l [13] = d := ⟨_, rfl⟩
      rw [hdd] at hacc ⊢
      have w0 : ∀ d, wordsH [] (trB false d) = wordsH [] d := fun d => by have := words_tr [] (.inl rfl) d []; rwa [List.append_nil] at this
      by_cases h13 : d.getLast? = some 13
      · obtain ⟨e, rfl⟩ : ∃ e, d = e ++ [13] := List.getLast?_eq_some_iff.1 h13
        by_cases h35 : 35 ∈ e
        · rw [trB_end 13 (by decide), trims_end, w0, words_35 [13] e [] h35]
        · obtain ⟨w, h1, h2⟩ := words_13 e [] h35
          exfalso
          refine hacc (wordsH [] (e ++ [13])) ?_ w h1 h2
          unfold oneW
          rw [if_neg (fun hn => by rw [hn] at h1; cases h1)]
          exact List.mem_singleton_self _
      · rw [trims_not 13 _ (by rw [trB_last]; exact h13), w0]
    · have hd : ∀ x ∈ Lib.trimSuffix c [13], x ≠ 10 := fun x hx => h2 x (trims_mem hx)
      rw [trG_line rest c false h2]
      rw [fw_line c rest h2] at hacc ⊢
      obtain ⟨d, hdd⟩ : ∃ d, Lib.trimSuffix c [13] = d := ⟨_, rfl⟩
      rw [hdd] at hd ⊢
      rw [show trB false d ++ (endB ++ trG false rest) = (trB false d ++ [32, 35, 32, 120] ++ [13]) ++ 10 :: ([32] ++ 10 :: trG false rest) by simp [endB]]
      rw [fw_line _ _ (fun x hx => by
        simp only [List.mem_append, List.mem_cons, List.not_mem_nil, or_false] at hx
        rcases hx with (hx | hx) | hx
        · exact trB_mem _ _ hd x hx
        · rcases hx with rfl | rfl | rfl | rfl <;> decide
        · subst hx; decide), fw_line [32] _ (by decide), trims_end, words_tr _ (.inr ⟨_, rfl⟩), ih rest (by simp at hn; omega) (fun ws hw => hacc ws (List.mem_append_right _ hw))]
      rfl
/-- What stands ahead of the file. -/
theorem fw_head (note l : List UInt8) (h : ∀ x ∈ note, x ≠ 10) : FW (9 :: 32 :: 35 :: 32 :: note ++ 10 :: ([13] ++ 10 :: l)) = FW l := by
  rw [fw_line _ _ (fun x hx => by
    simp only [List.mem_cons] at hx
    rcases hx with rfl | rfl | rfl | rfl | hx
    · decide
    · decide
    · decide
    · decide
    · exact h x hx), fw_line [13] _ (by decide)]
  have e : oneW (wordsH [] (Lib.trimSuffix (9 :: 32 :: 35 :: 32 :: note) [13])) = [] := by
    rw [trims13, if_neg (fun h => absurd h.1 (by decide)), trims13, if_neg (fun h => absurd h.1 (by decide)), trims13, if_neg (fun h => absurd h.1 (by decide))]
    rfl
  rw [e]
  rfl
end Go.Proofs.YtdmimdiffjpjpaaGreatDoor

/- props: what a file's words come to: mathematics. -/
namespace Go.Proofs.YtdmimdiffjpjpaaGreatDoor
open Go Go.RowKit Go.Kt Go.Kt.Rg Go.Maps

/-! ### What is taken holds no CR -/
theorem num_no13 {l : List UInt8} {n : Nat} (h : numP l = some n) : 13 ∉ l := by
  unfold numP at h
  split at h
  rotate_left
  · cases h
  unfold puV at h
  split at h
  · cases h
  have key : ∀ (l : List UInt8) (k n : Nat), puF 16777215 k l = some n → 13 ∉ l := by
    intro l
    induction l with
    | nil => intro _ _ _ h; cases h
    | cons c t ih =>
      intro k n h hm
      rw [puF] at h
      rcases List.mem_cons.1 hm with e | hm
      · subst e
        rw [show digV (13 : UInt8).toNat = none from by decide] at h
        cases h
      · cases hd : digV c.toNat with
        | none => rw [hd] at h; cases h
        | some d =>
          rw [hd] at h
          simp only at h
          split at h
          · cases h
          split at h
          · cases h
          exact ih _ _ h hm
  exact key l 0 n h
theorem spn_no13 {l : List UInt8} (h : (spnP l).1 = 0) : 13 ∉ l := by
  unfold spnP at h
  have hk := Lib.index_spec l [46, 46]
  unfold Lib.cut at h
  rcases hk with ⟨hi, _⟩ | ⟨i, hi, hil, hocc, _⟩
  · rw [hi] at h
    simp at h
    cases hn : numP l with
    | none => rw [hn] at h; simp [spnO] at h
    | some n => exact num_no13 hn
  · rw [hi, if_pos (by omega), Int.toNat_natCast] at h
    simp only [if_true] at h
    have hroom : i + 2 ≤ l.length := by
      rcases Lib.occAt_room hocc with h | h
      · simpa using h
      · cases h
    rw [Lib.occAt_iff_take l [46, 46] i (by simpa using hroom)] at hocc
    have h2 : (l.drop i).take 2 = [46, 46] := by simpa using hocc
    cases h1 : numP (l.take i) with
    | none => rw [h1] at h; simp [spnO] at h
    | some a =>
      cases h3 : numP (l.drop (i + ([46, 46] : List UInt8).length)) with
      | none => rw [h1, h3] at h; simp [spnO] at h
      | some b =>
        intro hm
        have e : l = l.take i ++ ([46, 46] ++ l.drop (i + 2)) := by
          rw [← h2, ← List.drop_drop, List.take_append_drop, List.take_append_drop]
        rw [e] at hm
        simp only [List.mem_append, List.mem_cons, List.not_mem_nil, or_false] at hm
        rcases hm with hm | (hm | hm) | hm
        · exact num_no13 h1 hm
        · exact absurd hm (by decide)
        · exact absurd hm (by decide)
        · exact num_no13 h3 hm
theorem dropw_nil {p : UInt8 → Bool} : ∀ {l : List UInt8}, l.dropWhile p = [] → ∀ x ∈ l, p x = true
  | [], _, _, h => by cases h
  | b :: t, h, x, hx => by
    rw [List.dropWhile_cons] at h
    by_cases hb : p b = true
    · rw [if_pos hb] at h
      rcases List.mem_cons.1 hx with rfl | hx
      · exact hb
      · exact dropw_nil h x hx
    · rw [if_neg hb] at h; cases h
theorem dropw_head {p : UInt8 → Bool} {x : UInt8} {t : List UInt8} : ∀ {l : List UInt8}, l.dropWhile p = x :: t → p x = false
  | [], h => by cases h
  | b :: u, h => by
    rw [List.dropWhile_cons] at h
    by_cases hb : p b = true
    · rw [if_pos hb] at h
      exact dropw_head h
    · rw [if_neg hb] at h
      injection h with h1 _
      subst h1
      simpa using hb
theorem cls_no13 {l : List UInt8} (h : (clsP l).1 = 0) : 13 ∉ l := by
  unfold clsP at h
  by_cases hc : Lib.trimS l digs ≠ [] ∨ (l ≠ [48] ∧ l.head? = some 48)
  · rw [if_pos hc] at h; cases h
  · have ht : Lib.trimS l digs = [] := by
      cases e : Lib.trimS l digs with
      | nil => rfl
      | cons a b => exact absurd (.inl (by rw [e]; simp)) hc
    unfold Lib.trimS Lib.trimLeftS at ht
    have h1 := dropw_nil ht
    intro hm
    have hR : Lib.trimRightS l digs = [] := by
      unfold Lib.trimRightS at h1 ⊢
      cases e : l.reverse.dropWhile (digs.contains ·) with
      | nil => rfl
      | cons x t =>
        have h2 := dropw_head e
        have h3 := h1 x (by rw [e]; simp)
        rw [h2] at h3; cases h3
    unfold Lib.trimRightS at hR
    have h4 := dropw_nil (List.reverse_eq_nil_iff.1 hR) 13 (List.mem_reverse.2 hm)
    exact absurd h4 (by decide)
theorem knd_no13 {l : List UInt8} (h : (kndP l).1 = 0) : 13 ∉ l := by
  unfold kndP at h
  cases e : kdN.findIdx? (fun x => x == l) with
  | none => rw [e] at h; cases h
  | some k =>
    obtain ⟨hk, h1, _⟩ := List.findIdx?_eq_some_iff_getElem.1 e
    have h2 : kdN[k] = l := by simpa using h1
    have h3 : ∀ x ∈ kdN, 13 ∉ x := by decide
    exact h3 l (h2 ▸ List.getElem_mem hk)
theorem pts_no13 {ws : List (List UInt8)} (h : (ptsP ws).1 = 0) : ∀ w ∈ ws, 13 ∉ w := by
  unfold ptsP at h
  split at h
  · cases h
  have key : ∀ (ws : List (List UInt8)) (acc : List Nat), (ptsA acc ws).1 = 0 → ∀ w ∈ ws, 13 ∉ w := by
    intro ws
    induction ws with
    | nil => intro _ _ w hw; cases hw
    | cons x t ih =>
      intro acc h w hw
      cases hn : numP x with
      | none => rw [ptsA_no hn] at h; cases h
      | some n =>
        cases hv : Lib.validRune (n : Int) with
        | false => rw [ptsA_bad hn hv] at h; cases h
        | true =>
          rw [ptsA_go hn hv] at h
          rcases List.mem_cons.1 hw with rfl | hw
          · exact num_no13 hn
          · exact ih _ h w hw
  exact key ws [] h
theorem row_no13 {V : List UInt8 → Nat × Int} (hV : ∀ l, (V l).1 = 0 → 13 ∉ l) {ws : List (List UInt8)} (h2 : 2 ≤ ws.length) (h : (rowP V ws).1 = 0) : ∀ w ∈ ws, 13 ∉ w := by
  unfold rowP at h
  by_cases h1 : 2 < ws.length
  · rw [if_pos h1] at h; cases h
  · rw [if_neg h1] at h
    by_cases h3 : (spnP (ws.getD 0 [])).1 ≠ 0
    · rw [if_pos h3] at h; exact absurd h h3
    · rw [if_neg h3] at h
      by_cases h4 : (V (ws.getD 1 [])).1 ≠ 0
      · rw [if_pos h4] at h; exact absurd h h4
      · match ws, h1, h2, h3, h4 with
        | [a, b], _, _, h3, h4 =>
          intro w hw
          simp only [List.mem_cons, List.not_mem_nil, or_false] at hw
          rcases hw with rfl | rfl
          · exact spn_no13 (by simpa using h3)
          · exact hV _ (by simpa using h4)
        | [], _, h2, _, _ => simp at h2
        | [_], _, h2, _, _ => simp at h2
        | _ :: _ :: _ :: _, h1, _, _, _ => simp at h1
theorem take_no13 {line : Nat} {S : RdS} {ws : List (List UInt8)} (h : (takeP line S ws).1 = 0) : ∀ w ∈ ws, 13 ∉ w := by
  cases ws with
  | nil => intro w hw; cases hw
  | cons x t =>
    rw [takeP] at h
    split at h
    · cases h
    rename_i hk
    split at h
    · cases h
    rename_i hl
    have hx : 13 ∉ x := by
      intro hm
      apply hk
      refine ⟨?_, ?_, ?_, ?_⟩ <;> (intro e; subst e; revert hm; decide)
    have ht : ∀ w ∈ t, 13 ∉ w := by
      split at h
      · exact row_no13 (fun l h => cls_no13 h) (by omega) h
      split at h
      · exact row_no13 (V := kndZ) (fun l h => knd_no13 h) (by omega) h
      split at h
      · refine pts_no13 ?_
        cases hp : ptsP t with
        | mk no l =>
          cases no with
          | zero => rfl
          | succ n => rw [foldP_no hp (by omega)] at h; cases h
      · refine pts_no13 ?_
        cases hp : ptsP t with
        | mk no l =>
          cases no with
          | zero => rfl
          | succ n => rw [decP_no hp (by omega)] at h; cases h
    intro w hw
    rcases List.mem_cons.1 hw with rfl | hw
    · exact hx
    · exact ht w hw

/-! ### What words come to, whatever the lines' numbers -/
def RdE (S T : RdS) : Prop := S.cs = T.cs ∧ S.ks = T.ks ∧ S.ds = T.ds ∧ S.fs = T.fs
theorem take_e {a b : Nat} {S T : RdS} (h : RdE S T) (ws : List (List UInt8)) : (takeP a S ws).1 = (takeP b T ws).1 ∧ RdE (takeP a S ws).2 (takeP b T ws).2 := by
  obtain ⟨h1, h2, h3, h4⟩ := h
  cases ws with
  | nil => exact ⟨rfl, h1, h2, h3, h4⟩
  | cons x t =>
    rw [takeP, takeP]
    split
    · exact ⟨rfl, h1, h2, h3, h4⟩
    split
    · exact ⟨rfl, h1, h2, h3, h4⟩
    split
    · exact ⟨rfl, by simp only [h1], h2, h3, h4⟩
    split
    · exact ⟨rfl, h1, by simp only [h2], h3, h4⟩
    split
    · unfold foldP
      split
      · rw [h4]
        split
        · exact ⟨rfl, h1, h2, h3, h4⟩
        · exact ⟨rfl, h1, h2, h3, by simp only⟩
      · exact ⟨rfl, h1, h2, h3, h4⟩
    · unfold decP
      split
      · rw [h3]
        split
        · exact ⟨rfl, h1, h2, h3, h4⟩
        split
        · exact ⟨rfl, h1, h2, h3, h4⟩
        · exact ⟨rfl, h1, h2, by simp only, h4⟩
      · exact ⟨rfl, h1, h2, h3, h4⟩
def accW : RdS → List (List (List UInt8)) → Option RdS
  | S, [] => some S
  | S, w :: t => if (takeP 1 S w).1 ≠ 0 then none else accW (takeP 1 S w).2 t
theorem accW_append (a b : List (List (List UInt8))) : ∀ S, accW S (a ++ b) = (accW S a).bind fun T => accW T b := by
  induction a with
  | nil => intro S; rfl
  | cons w t ih =>
    intro S
    rw [List.cons_append, accW, accW]
    split
    · rfl
    · exact ih _
theorem acc_no13 {ws : List (List (List UInt8))} : ∀ {S T : RdS}, accW S ws = some T → ∀ w ∈ ws, ∀ x ∈ w, 13 ∉ x := by
  induction ws with
  | nil => intro S T _ w hw; cases hw
  | cons y t ih =>
    intro S T h w hw
    rw [accW] at h
    split at h
    · cases h
    · rename_i h0
      rcases List.mem_cons.1 hw with rfl | hw
      · exact take_no13 (by simpa using h0)
      · exact ih h w hw
theorem acc_read : ∀ (ls : List (List UInt8)) (line : Nat) (S T : RdS), RdE S T →
    ((readP line S ls).1 = 0 → ∃ T', accW T ((ls.map wrdP).filter (fun w => !w.isEmpty)) = some T' ∧ RdE (readP line S ls).2.2 T') ∧
    (∀ T', accW T ((ls.map wrdP).filter (fun w => !w.isEmpty)) = some T' → (readP line S ls).1 = 0 ∧ RdE (readP line S ls).2.2 T') := by
  intro ls
  induction ls with
  | nil => intro line S T h; exact ⟨fun _ => ⟨T, rfl, h⟩, fun T' e => ⟨rfl, by cases e; exact h⟩⟩
  | cons x t ih =>
    intro line S T h
    have ht := take_e (a := line + 1) (b := 1) h (wrdP x)
    rw [readP, List.map_cons]
    cases hw : wrdP x with
    | nil =>
      rw [List.filter_cons_of_neg (by simp)]
      exact ih (line + 1) S T h
    | cons y u =>
      rw [List.filter_cons_of_pos (by simp), accW, ← hw, ← ht.1]
      by_cases h0 : (takeP (line + 1) S (wrdP x)).1 ≠ 0
      · rw [if_pos h0, if_pos h0]
        exact ⟨fun e => absurd e h0, fun T' e => by cases e⟩
      · rw [if_neg h0, if_neg h0]
        exact ih (line + 1) _ _ ht.2
theorem ring_e {S T : RdS} (h : S.ds = T.ds) (f : Nat) : ∀ (L : List Nat) le, (ringP S f L le).1 = (ringP T f L le).1 := by
  intro L
  induction L with
  | nil => intro le; rfl
  | cons x t ih =>
    intro le
    rw [ringP, ringP, h]
    split
    · rfl
    · exact ih _
theorem md_e {S T : RdS} (h : S.ds = T.ds) {x : Int} (hc : clsV S x = clsV T x) (L : List Nat) (y : Int) : mdOf S L x y = mdOf T L x y := by
  have key : ∀ (L : List Nat) (m n : MdT), (∀ y, m x y = n x y) → ∀ y, L.foldl (mdStep S) m x y = L.foldl (mdStep T) n x y := by
    intro L
    induction L with
    | nil => intro m n h y; exact h y
    | cons z t ih =>
      intro m n hm y
      refine ih _ _ (fun y => ?_) y
      by_cases hz : ∃ a b, T.ds z = some [a, b]
      · obtain ⟨a, b, hz⟩ := hz
        rw [mdStep_two (S := S) (by rw [h]; exact hz), mdStep_two hz]
        by_cases hx : (a : Int) = x
        · rw [hx, hc, hm b]
          by_cases h1 : clsV T x ≠ 0
          · rw [if_pos h1, if_pos h1]; exact hm y
          · rw [if_neg h1, if_neg h1]
            by_cases h2 : (n x (b : Int)).isSome = true
            · rw [if_pos h2, if_pos h2]; exact hm y
            · rw [if_neg h2, if_neg h2]; unfold updP; rw [hm y]
        · have e : ∀ (m : MdT), updP m (a : Int) (b : Int) z x y = m x y := fun m => by unfold updP; rw [if_neg (fun h => hx h.1.symm)]
          have e2 : ∀ (U : RdS) (m : MdT), (if clsV U (a : Int) ≠ 0 then m else if (m (a : Int) (b : Int)).isSome = true then m else updP m (a : Int) (b : Int) z) x y = m x y := fun U m => by
            split
            · rfl
            split
            · rfl
            · exact e m
          rw [e2, e2]; exact hm y
      · have hno : ∀ a b, T.ds z ≠ some [a, b] := fun a b e => hz ⟨a, b, e⟩
        rw [mdStep_no hno, mdStep_no (S := S) (by rw [h]; exact hno)]; exact hm y
  exact key L _ _ (fun _ => rfl) y
/-- Two that know the same of a point. -/
def AlkR (S T : RdS) (L : List Nat) (r : Int) : Prop := clsV S r = clsV T r ∧ kndV S r = kndV T r ∧ dcpV S r = dcpV T r ∧ fldV S r = fldV T r ∧ ∀ b, cmpV (mdOf S L) r b = cmpV (mdOf T L) r b
theorem alk_of {S T : RdS} (L : List Nat) {r : Int} (h1 : clsV S r = clsV T r) (h2 : kndV S r = kndV T r) (h3 : S.ds = T.ds) (h4 : S.fs = T.fs) : AlkR S T L r :=
  ⟨h1, h2, by unfold dcpV; rw [h3], by unfold fldV; rw [h4], fun b => by unfold cmpV; rw [md_e h3 h1]⟩
theorem cls_e {S T : RdS} (h : S.cs = T.cs) (r : Int) : clsV S r = clsV T r := by unfold clsV; rw [h]
theorem knd_e {S T : RdS} (h : S.ks = T.ks) (r : Int) : kndV S r = kndV T r := by unfold kndV; rw [h]
/-- What a file that was read tells of another one with those words and some more. -/
theorem parse_acc {l : List UInt8} {line : Nat} {S : RdS} {L : List Nat} (h : ParseR l 0 line S L) : ∃ T, accW rd0 (FW l) = some T ∧ RdE S T := by
  obtain ⟨h1, h2, _⟩ := h.ok
  have := (acc_read (linesP l) 0 rd0 rd0 ⟨rfl, rfl, rfl, rfl⟩).1 h2
  rw [← h1] at this
  exact this
theorem parse_with {l m : List UInt8} {line no line2 : Nat} {S T S2 : RdS} {L L2 : List Nat} (h : ParseR l 0 line S L) (hm : ParseR m no line2 S2 L2) (hz : m.length ≤ 65536) (ha : accW rd0 (FW m) = some T) (hd : T.ds = S.ds) :
    no = 0 ∧ RdE S2 T ∧ L2 = L := by
  obtain ⟨hS, hr0, hok, hp, hmem⟩ := h.ok
  have hlc : lnC m ≤ m.length := by
    rw [← linesP_len]
    have : ∀ (n : Nat) (l : List UInt8), l.length ≤ n → (linesP l).length ≤ l.length := by
      intro n
      induction n with
      | zero => intro l hl; obtain rfl : l = [] := List.length_eq_zero_iff.1 (by omega); simp [linesP_nil]
      | succ n ih =>
        intro l hl
        rcases line_cut l with h | ⟨c, rest, rfl, h2, h3⟩
        · rw [lines_one l h]
          split
          · simp
          · rename_i hne
            have := List.length_pos_iff.2 hne
            simp; omega
        · rw [lines_cons c rest h2]
          have := ih rest (by omega)
          simp; omega
    exact this m.length m (Nat.le_refl _)
  have hacc := (acc_read (linesP m) 0 rd0 rd0 ⟨rfl, rfl, rfl, rfl⟩).2 T ha
  rcases hm with ⟨hb, _⟩ | ⟨_, hb, _⟩ | ⟨_, _, h3, h4, h5, h6, _⟩
  · exfalso; rcases hb with hb | hb <;> omega
  · exact absurd hacc.1 hb
  · have hE : RdE S2 T := by rw [h3]; exact hacc.2
    have hLL : L2 = L := rise_eq h4 hp (fun x => (h5 x).trans (by rw [hE.2.2.1, hd]; exact (hmem x).symm))
    refine ⟨?_, hE, hLL⟩
    have hr : (ringP S (L.length + 1) L fun _ => none).1 = 0 := by
      rcases h with ⟨_, hb, _⟩ | ⟨_, hb, hb2, _⟩ | ⟨_, _, _, _, _, h6, _⟩
      · cases hb
      · exact absurd hb2.symm hb
      · exact h6.symm
    rw [h6, hLL, ring_e (hE.2.2.1.trans hd)]
    exact hr
end Go.Proofs.YtdmimdiffjpjpaaGreatDoor

/- props: what PropsPlain makes of a file says the same: mathematics. -/
namespace Go.Proofs.YtdmimdiffjpjpaaGreatDoor
open Go Go.RowKit Go.Kt Go.Kt.Rg Go.Maps

theorem trG_le : ∀ (l : List UInt8) (r : Bool), (trG r l).length ≤ 8 * l.length := by
  intro l
  induction l with
  | nil => intro r; exact Nat.le_refl _
  | cons b t ih =>
    intro r
    rw [trG]
    split
    · have := ih r; simp only [List.length_cons]; omega
    split
    · have := ih r; simp only [List.length_cons]; omega
    split
    · have := ih false; simp only [List.length_append, List.length_cons, endB, List.length_nil]; omega
    · have := ih (r || b == 35); simp only [List.length_cons]; omega
def headB (note l : List UInt8) : List UInt8 := 9 :: 32 :: 35 :: 32 :: note ++ 10 :: ([13] ++ 10 :: trG false l)
def lineM : List UInt8 := [99, 108, 97, 115, 115, 32, 50, 70, 65, 48, 48, 32, 55, 55, 10, 107, 105, 110, 100, 32, 50, 70, 65, 48, 48, 46, 46, 50, 70, 65, 48, 49, 32, 106, 111, 105, 110, 101, 114]
theorem lineM_words : FW lineM = [[[99, 108, 97, 115, 115], [50, 70, 65, 48, 48], [55, 55]], [[107, 105, 110, 100], [50, 70, 65, 48, 48, 46, 46, 50, 70, 65, 48, 49], [106, 111, 105, 110, 101, 114]]] := by kernel_rfl
theorem row_m1 : rowP clsP [[50, 70, 65, 48, 48], [55, 55]] = (0, 195072, 195072, 77) := by kernel_rfl
theorem row_m2 : rowP kndZ [[50, 70, 65, 48, 48, 46, 46, 50, 70, 65, 48, 49], [106, 111, 105, 110, 101, 114]] = (0, 195072, 195073, 6) := by kernel_rfl
def moreR' (T : RdS) : RdS := { T with cs := T.cs ++ [(195072, 195072, 77)], ks := T.ks ++ [(195072, 195073, 6)] }
theorem acc_more (T : RdS) : accW T (FW lineM) = some (moreR' T) := by
  have h1 : takeP 1 T [[99, 108, 97, 115, 115], [50, 70, 65, 48, 48], [55, 55]] = (0, { T with cs := T.cs ++ [(195072, 195072, 77)] }) := by
    rw [takeP, if_neg (by decide), if_neg (by decide), if_pos rfl, row_m1]
  have h2 : ∀ U : RdS, takeP 1 U [[107, 105, 110, 100], [50, 70, 65, 48, 48, 46, 46, 50, 70, 65, 48, 49], [106, 111, 105, 110, 101, 114]] = (0, { U with ks := U.ks ++ [(195072, 195073, 6)] }) := fun U => by
    rw [takeP, if_neg (by decide), if_neg (by decide), if_neg (by decide), if_pos rfl, row_m2]
  rw [lineM_words, accW, h1, if_neg (by simp), accW, h2, if_neg (by simp)]
  rfl
theorem plain_q {l note : List UInt8} {line no line2 : Nat} {S S2 : RdS} {L L2 : List Nat} (h : ParseR l 0 line S L) (hl : l.length ≤ 4096) (hn : note.length ≤ 4096) (h10 : ∀ x ∈ note, x ≠ 10) (hm : ParseR (headB note l) no line2 S2 L2) :
    no = 0 ∧ L2 = L ∧ ∀ r, AlkR S S2 L r := by
  obtain ⟨T, ha, hE⟩ := parse_acc h
  have hf : FW (headB note l) = FW l := by
    unfold headB
    rw [fw_head note _ h10, fw_tr l (fun ws hw w hw2 => acc_no13 ha ws hw w hw2)]
  have hz : (headB note l).length ≤ 65536 := by
    have := trG_le l false
    simp only [headB, List.length_append, List.length_cons, List.length_nil]
    omega
  obtain ⟨h1, h2, h3⟩ := parse_with h hm hz (by rw [hf]; exact ha) hE.2.2.1.symm
  exact ⟨h1, h3, fun r => alk_of L (cls_e (hE.1.trans h2.1.symm) r) (knd_e (hE.2.1.trans h2.2.1.symm) r) (hE.2.2.1.trans h2.2.2.1.symm) (hE.2.2.2.trans h2.2.2.2.symm)⟩
theorem plain_m {l : List UInt8} {line no line2 : Nat} {S S2 : RdS} {L L2 : List Nat} (h : ParseR l 0 line S L) (hl : l.length ≤ 4096) (hm : ParseR (l ++ 10 :: lineM) no line2 S2 L2) :
    no = 0 ∧ L2 = L ∧ clsV S2 195072 = 77 ∧ kndV S2 195073 = 6 ∧ ∀ r, r ≠ 195072 → r ≠ 195073 → AlkR S S2 L r := by
  obtain ⟨T, ha, hE⟩ := parse_acc h
  have hacc : accW rd0 (FW (l ++ 10 :: lineM)) = some (moreR' T) := by
    rw [fw_more, accW_append, ha, Option.bind_some, acc_more]
  obtain ⟨h1, h2, h3⟩ := parse_with h hm (by rw [List.length_append, List.length_cons, show lineM.length = 39 from rfl]; omega) hacc hE.2.2.1.symm
  have hcs : S2.cs = S.cs ++ [(195072, 195072, 77)] := by rw [h2.1, hE.1]; rfl
  have hks : S2.ks = S.ks ++ [(195072, 195073, 6)] := by rw [h2.2.1, hE.2.1]; rfl
  refine ⟨h1, h3, ?_, ?_, fun r r1 r2 => alk_of L ?_ ?_ (by rw [h2.2.2.1, hE.2.2.1]; rfl) (by rw [h2.2.2.2, hE.2.2.2]; rfl)⟩
  · unfold clsV
    rw [hcs, if_neg (by omega), lastV_append, lastV_append, lastV_append]
    rfl
  · unfold kndV
    rw [hks, if_neg (by omega), lastV_append, lastV_append, lastV_append]
    rfl
  · unfold clsV
    by_cases h0 : r < 0
    · rw [if_pos h0, if_pos h0]
    · have e : lastV [(195072, 195072, 77)] r.toNat = none := lastV_none.2 (fun x hx => by
        rw [List.mem_singleton] at hx; subst hx; unfold holdsR; simp only; omega)
      rw [if_neg h0, if_neg h0, hcs, lastV_append, lastV_append, lastV_append (_ ++ _ ++ _), lastV_append (_ ++ _), lastV_append S.cs, e]
  · unfold kndV
    by_cases h0 : r < 0
    · rw [if_pos h0, if_pos h0]
    · have e : lastV [(195072, 195073, 6)] r.toNat = none := lastV_none.2 (fun x hx => by
        rw [List.mem_singleton] at hx; subst hx; unfold holdsR; simp only; omega)
      rw [if_neg h0, if_neg h0, hks, lastV_append, lastV_append, lastV_append (_ ++ _), lastV_append sylR, lastV_append S.ks, e]
end Go.Proofs.YtdmimdiffjpjpaaGreatDoor

/- props: PropsPlain's alike (written by gen_le.py). -/
namespace Go.Proofs.YtdmimdiffjpjpaaGreatDoor
open Go Go.RowKit Go.Kt Go.Kt.Rg Go.Maps

/-- read, and what its error is. -/
theorem pread2 (s : ByteArray) (w : World) (hE : PEnv w) :
    Calls Tryz.prog 14 #[.string s] w fun e w' => Below w.heap.size w w' ∧ ((e = .returned (.pointer none) ∧ ∃ no line S L, no ≠ 0 ∧ ParseR s.data.toList no line S L) ∨ ∃ g line S L, e = .returned (.pointer (some ⟨g, 0, none⟩)) ∧ ParseR s.data.toList 0 line S L ∧ PrW g S (mdOf S L) w') := by
  have C := Lib.hid (pParse s w hE)
  have ne1 : ∀ (t : TypeId) (v : Value) (W : World), (binOp .neq 25 (.iface t v) .nilIface).run Tryz.prog W = .ok (.bool true) W := fun t v W => by go_simp
  go_enter Tryz.func14, Tryz.ntmps14
  go_wp2_with fail
  refine C.out.mono ?_
  rintro e w' ⟨no, line, S, L, hP, hb, ⟨rfl, g, rfl, hW⟩ | ⟨h0, rfl⟩⟩
  · have H := Lib.hid (And.intro hP (And.intro hb hW))
    clear hP hb hW
    go_wp2
    go_ret
    exact ⟨H.out.2.1, .inr ⟨g, line, S, L, rfl, H.out.1, H.out.2.2⟩⟩
  · obtain ⟨t, v, hv⟩ : ∃ t v, errP no line = .iface t v := by
      unfold errP
      split
      · exact ⟨_, _, rfl⟩
      · exact ⟨_, _, rfl⟩
    rw [hv]
    have H := Lib.hid (And.intro hb (And.intro h0 hP))
    clear hP hb hv h0
    go_wp2
    go_ret
    exact ⟨H.out.1, .inl ⟨rfl, no, line, S, L, H.out.2.1, H.out.2.2⟩⟩
theorem fld_len {k : Nat} {S : RdS} (hS : RdOk k S) (r : Int) : (fldV S r).length ≤ 8 := by
  unfold fldV
  split
  · rename_i l h
    unfold atZ at h
    split at h
    · rw [toZ_len]; exact (hS.fs _ _ h).2.1.2
    · cases h
  · simp
set_option maxRecDepth 100000 in
set_option maxHeartbeats 2000000 in
theorem palike {g g2 k k2 : Nat} {S S2 : RdS} {L : List Nat} (w : World) (h1 : PrW g S (mdOf S L) w) (h2 : PrW g2 S2 (mdOf S2 L) w) (hS : RdOk k S) (hS2 : RdOk k2 S2) (r : Int) (hr : I32 r) (ha : AlkR S S2 L r) :
    Calls Tryz.prog 19 #[.pointer (some ⟨g, 0, none⟩), .pointer (some ⟨g2, 0, none⟩), .int .i32 r] w fun e w' => e = .returned (.bool true) ∧ Below w.heap.size w w' := by
  obtain ⟨a1, a2, a3, a4, a5⟩ := ha
  have a5 := a5 769
  obtain ⟨cl, hcl⟩ : ∃ x, clsV S r = x := ⟨_, rfl⟩
  obtain ⟨kd, hkd⟩ : ∃ x, kndV S r = x := ⟨_, rfl⟩
  obtain ⟨D, hDd⟩ : ∃ x, toZ (dcpV S r) = x := ⟨_, rfl⟩
  obtain ⟨Fz, hFd⟩ : ∃ x, fldV S r = x := ⟨_, rfl⟩
  obtain ⟨c, hc⟩ : ∃ x, (cmpV (mdOf S L) r 769).getD 0 = x := ⟨_, rfl⟩
  obtain ⟨z, hz⟩ : ∃ x, (cmpV (mdOf S L) r 769).isSome = x := ⟨_, rfl⟩
  have hD : D.length ≤ 4611686018427387904 := by rw [← hDd, toZ_len]; have := dcp_len hS r; omega
  have hF : Fz.length ≤ 4611686018427387904 := by rw [← hFd]; have := fld_len hS r; omega
  have CM1 := Lib.hid (fun (X : World) (hX : Below w.heap.size w X) => pcmpP X (h1.below hX) r 769 hr (by decide))
  have CM2 := Lib.hid (fun (X : World) (hX : Below w.heap.size w X) => pcmpP X (h2.below hX) r 769 hr (by decide))
  rw [← a5] at CM2
  rw [hc, hz] at CM1 CM2
  have CC1 := Lib.hid (fun (X : World) (hX : Below w.heap.size w X) => pclsP X (h1.below hX) r)
  have CC2 := Lib.hid (fun (X : World) (hX : Below w.heap.size w X) => pclsP X (h2.below hX) r)
  rw [← a1] at CC2
  rw [hcl] at CC1 CC2
  have CK1 := Lib.hid (fun (X : World) (hX : Below w.heap.size w X) => pkndP X (h1.below hX) r)
  have CK2 := Lib.hid (fun (X : World) (hX : Below w.heap.size w X) => pkndP X (h2.below hX) r)
  rw [← a2] at CK2
  rw [hkd] at CK1 CK2
  have CD1 : Hid (∀ X, Below w.heap.size w X → Calls Tryz.prog 15 #[.pointer (some ⟨g, 0, none⟩), .int .i32 r] X fun e w' => (∃ v, e = .returned v ∧ Sl .i32 w' v D) ∧ Below X.heap.size X w') := Lib.hid fun X hX =>
    (pdcpP X (h1.below hX) (fun x l hx => (hS.ds x l hx).2.1) r hr).mono fun e w' ⟨q1, q2⟩ => ⟨by rw [← hDd]; exact q1.sl, q2⟩
  have CD2 : Hid (∀ X, Below w.heap.size w X → Calls Tryz.prog 15 #[.pointer (some ⟨g2, 0, none⟩), .int .i32 r] X fun e w' => (∃ v, e = .returned v ∧ Sl .i32 w' v D) ∧ Below X.heap.size X w') := Lib.hid fun X hX =>
    (pdcpP X (h2.below hX) (fun x l hx => (hS2.ds x l hx).2.1) r hr).mono fun e w' ⟨q1, q2⟩ => ⟨by rw [← hDd, a3]; exact q1.sl, q2⟩
  have CF1 : Hid (∀ X, Below w.heap.size w X → Calls Tryz.prog 37 #[.pointer (some ⟨g, 0, none⟩), .int .i32 r] X fun e w' => (∃ v, e = .returned v ∧ Sl .i32 w' v Fz) ∧ Below X.heap.size X w') := Lib.hid fun X hX =>
    (pfldP X (h1.below hX) (fun x l hx => (hS.fs x l hx).2.1) r hr).mono fun e w' ⟨q1, q2⟩ => ⟨by rw [← hFd]; exact q1.sl, q2⟩
  have CF2 : Hid (∀ X, Below w.heap.size w X → Calls Tryz.prog 37 #[.pointer (some ⟨g2, 0, none⟩), .int .i32 r] X fun e w' => (∃ v, e = .returned v ∧ Sl .i32 w' v Fz) ∧ Below X.heap.size X w') := Lib.hid fun X hX =>
    (pfldP X (h2.below hX) (fun x l hx => (hS2.fs x l hx).2.1) r hr).mono fun e w' ⟨q1, q2⟩ => ⟨by rw [← hFd, a4]; exact q1.sl, q2⟩
  clear h1 h2 hS hS2 hr a1 a2 a3 a4 a5 hcl hkd hDd hFd hc hz
  go_enter Tryz.func19, Tryz.ntmps19
  go_wp2_with fail
  refine (CM1.out w (Below.refl _ _)).mono ?_
  rintro e w1 ⟨rfl, hb1⟩
  have HB1 := Lib.hid hb1
  clear hb1
  go_wp2_with fail
  refine (CM2.out w1 HB1.out).mono ?_
  rintro e w2 ⟨rfl, hb2⟩
  have HB2 := Lib.hid (HB1.out.trans (hb2.mono HB1.out.size))
  clear hb2
  go_wp2_with fail
  refine (CC1.out w2 HB2.out).mono ?_
  rintro e w3 ⟨rfl, hb⟩
  have HB3 := Lib.hid (HB2.out.trans (hb.mono HB2.out.size))
  clear hb
  go_wp2_with fail
  refine (CC2.out w3 HB3.out).mono ?_
  rintro e w4 ⟨rfl, hb⟩
  have HB4 := Lib.hid (HB3.out.trans (hb.mono HB3.out.size))
  clear hb
  go_wp2_with fail
  refine (CK1.out w4 HB4.out).mono ?_
  rintro e w5 ⟨rfl, hb⟩
  have HB5 := Lib.hid (HB4.out.trans (hb.mono HB4.out.size))
  clear hb
  go_wp2_with fail
  refine (CK2.out w5 HB5.out).mono ?_
  rintro e w6 ⟨rfl, hb⟩
  have HB6 := Lib.hid (HB5.out.trans (hb.mono HB5.out.size))
  clear hb
  go_wp2_with fail
  refine (CD1.out w6 HB6.out).mono ?_
  rintro e w7 ⟨⟨v7, rfl, hv7⟩, hb⟩
  have HB7 := Lib.hid (HB6.out.trans (hb.mono HB6.out.size))
  clear hb
  go_wp2_with fail
  refine (CD2.out w7 HB7.out).mono ?_
  rintro e w8 ⟨⟨v8, rfl, hv8⟩, hb⟩
  have HB8 := Lib.hid (HB7.out.trans (hb.mono HB7.out.size))
  have hx7 := hv7.below hb
  clear hb
  have CS9 := Lib.hid (sameRunes_any v7 v8 D D w8 hx7 hv8 hD hD)
  clear hx7 hv8 hv7
  go_wp2_with fail
  refine CS9.out.mono ?_
  rintro e w9 ⟨he, hb⟩
  have he : e = .returned (.bool true) := by rw [he]; simp
  subst he
  have HB9 := Lib.hid (HB8.out.trans (hb.below.mono HB8.out.size))
  clear hb
  go_wp2_with fail
  refine (CF1.out w9 HB9.out).mono ?_
  rintro e w10 ⟨⟨v10, rfl, hv10⟩, hb⟩
  have HB10 := Lib.hid (HB9.out.trans (hb.mono HB9.out.size))
  clear hb
  go_wp2_with fail
  refine (CF2.out w10 HB10.out).mono ?_
  rintro e w11 ⟨⟨v11, rfl, hv11⟩, hb⟩
  have HB11 := Lib.hid (HB10.out.trans (hb.mono HB10.out.size))
  have hx10 := hv10.below hb
  clear hb
  have CS12 := Lib.hid (sameRunes_any v10 v11 Fz Fz w11 hx10 hv11 hF hF)
  clear hx10 hv11 hv10
  go_wp2_with fail
  refine CS12.out.mono ?_
  rintro e w12 ⟨he, hb⟩
  have he : e = .returned (.bool true) := by rw [he]; simp
  subst he
  have HB12 := Lib.hid (HB11.out.trans (hb.below.mono HB11.out.size))
  clear hb
  cases z <;> (go_wp2; go_ret; exact ⟨rfl, HB12.out⟩)
end Go.Proofs.YtdmimdiffjpjpaaGreatDoor
