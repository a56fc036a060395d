/- What is read and made again: the bytes of a character; the text of a text's numbers; mended texts. -/
import Derived.Test.YtpddpglccjbpfaaDoorCe
import Derived.Test.YtpddpglccjbpfaaDoorCf
namespace Go.Proofs.YtpddpglccjbpfaaDoor
open Go

/-- The bytes of s from i on, up to j. -/
def seg (s : ByteArray) (i j : Nat) : List UInt8 := (s.extract i j).data.toList
theorem seg_eq (s : ByteArray) (i j : Nat) : seg s i j = (s.data.toList.take j).drop i := by
  simp [seg, List.drop_take]
theorem seg_len (s : ByteArray) (i j : Nat) (_h : i ≤ j) (hj : j ≤ s.size) : (seg s i j).length = j - i := by
  have : s.data.toList.length = s.size := by simp
  rw [seg_eq]; simp; omega
theorem seg_app (s : ByteArray) (i j k : Nat) (h1 : i ≤ j) (h2 : j ≤ k) : seg s i j ++ seg s j k = seg s i k := by
  simp only [seg_eq]
  rw [← List.take_append_drop (j - i) ((s.data.toList.take k).drop i), List.drop_drop, List.take_drop, Nat.add_sub_cancel' h1, List.take_take, Nat.min_eq_left h2]
theorem seg_self (s : ByteArray) (i : Nat) : seg s i i = [] := by
  rw [seg_eq]; apply List.drop_eq_nil_of_le; simp; omega
theorem seg_all (s : ByteArray) : seg s 0 s.size = s.data.toList := by
  have : s.data.toList.length = s.size := by simp
  rw [seg_eq, List.drop_zero, List.take_of_length_le (by omega)]
theorem seg_range (s : ByteArray) (i w : Nat) (h : i + w ≤ s.size) : seg s i (i + w) = (List.range w).map fun j => UInt8.ofNat (B s (i + j)) := by
  have hl : s.data.toList.length = s.size := by simp
  apply List.ext_getElem?
  intro j
  rw [seg_eq, List.getElem?_drop, List.getElem?_take, List.getElem?_map]
  by_cases hj : j < w
  · rw [if_pos (by omega), List.getElem?_range hj]
    have hlt : i + j < s.data.toList.length := by omega
    unfold B
    rw [Option.map_some, List.getD_eq_getElem?_getD, List.getElem?_eq_getElem hlt]
    simp
  · rw [if_neg (by omega), List.getElem?_eq_none (by simpa using hj)]
    rfl

/-- A character's own bytes. -/
theorem encode_decode (s : ByteArray) (i w : Nat) (hi : i < s.size) (hw1 : 1 ≤ w) (hw4 : w ≤ 4) (h : wideI s i = w) : (Utf8.encode (Utf8.decode s i).1).data.toList = seg s i (i + w) ∧ Utf8.valid (Utf8.decode s i).1 = true := by
  obtain ⟨hs, hc⟩ := (wide_iff s i w hi hw1 hw4).1 h
  have hd : ((Utf8.decode s i).1 : Int) = numT w (B s i) (B s (i + 1)) (B s (i + 2)) (B s (i + 3)) := by
    rcases unit_at s i hi with ⟨q, _⟩ | ⟨u, _, _, _, e1, _, e3⟩
    · omega
    · obtain rfl : u = w := by omega
      exact e3
  rw [seg_range s i w hs]
  have b0 := B_lt s i
  have b1 := B_lt s (i + 1)
  have b2 := B_lt s (i + 2)
  have b3 := B_lt s (i + 3)
  generalize (Utf8.decode s i).1 = c at hd
  have hv : Utf8.valid c = true := by
    unfold numT at hd
    simp only [Utf8.valid, Bool.or_eq_true, Bool.and_eq_true, decide_eq_true_iff]
    rcases hc with ⟨rfl, h1⟩ | ⟨rfl, h1⟩ | ⟨rfl, h1⟩ | ⟨rfl, h1⟩
    · simp at hd; omega
    · simp at hd; omega
    · simp at hd; omega
    · simp at hd; omega
  refine ⟨?_, hv⟩
  rw [encode_C, if_pos hv]
  unfold encC
  unfold numT at hd
  rcases hc with ⟨rfl, h1⟩ | ⟨rfl, h1⟩ | ⟨rfl, h1⟩ | ⟨rfl, h1⟩
  · simp at hd
    rw [if_pos (by omega)]
    simp [List.range_succ]
    rw [show (c : Nat) = B s i by omega]
  · simp at hd
    rw [if_neg (by omega), if_pos (by omega)]
    simp [List.range_succ]
    exact ⟨by rw [show (192 + (c : Int) / 64).toNat = B s i by omega], by rw [show (128 + (c : Int) % 64).toNat = B s (i + 1) by omega]⟩
  · simp at hd
    rw [if_neg (by omega), if_neg (by omega), if_pos (by omega)]
    simp [List.range_succ]
    exact ⟨by rw [show (224 + (c : Int) / 4096).toNat = B s i by omega], by rw [show (128 + (c : Int) / 64 % 64).toNat = B s (i + 1) by omega], by rw [show (128 + (c : Int) % 64).toNat = B s (i + 2) by omega]⟩
  · simp at hd
    rw [if_neg (by omega), if_neg (by omega), if_neg (by omega)]
    simp [List.range_succ]
    exact ⟨by rw [show (240 + (c : Int) / 262144).toNat = B s i by omega], by rw [show (128 + (c : Int) / 4096 % 64).toNat = B s (i + 1) by omega], by rw [show (128 + (c : Int) / 64 % 64).toNat = B s (i + 2) by omega], by rw [show (128 + (c : Int) % 64).toNat = B s (i + 3) by omega]⟩

/-- The text of the numbers from i on. -/
def fixF (s : ByteArray) : Nat → Nat → List UInt8
  | 0, _ => []
  | f + 1, i => if i < s.size then (Utf8.encode (Utf8.decode s i).1).data.toList ++ fixF s f (i + (Utf8.decode s i).2) else []
def fffd : List UInt8 := [239, 191, 189]
theorem enc_fffd : (Utf8.encode (65533 : Nat)).data.toList = fffd := by kernel_rfl
theorem runesBytes_cons (x : Int) (l : List Int) : runesBytes (x :: l) = Utf8.encode x ++ runesBytes l := by
  have : ∀ (l : List Int) (a : ByteArray), l.foldl (fun r n => r ++ Utf8.encode n) a = a ++ l.foldl (fun r n => r ++ Utf8.encode n) ByteArray.empty := by
    intro l
    induction l with
    | nil => intro a; simp
    | cons x l ih => intro a; simp only [List.foldl_cons]; rw [ih, ih (ByteArray.empty ++ _)]; simp [ByteArray.append_assoc]
  unfold runesBytes
  rw [List.foldl_cons, this]
  simp
theorem fix_runes (s : ByteArray) : ∀ f i, (runesBytes ((numsF s f i).map fun x : Nat => (x : Int))).data.toList = fixF s f i
  | 0, i => rfl
  | f + 1, i => by
    rcases Nat.lt_or_ge i s.size with hi | hi
    · rw [numsF_in s f i hi, List.map_cons, runesBytes_cons, fixF, if_pos hi, ← fix_runes s f]
      simp
    · rw [numsF_end s _ i hi, fixF, if_neg (by omega)]; rfl

theorem ill_iff (s : ByteArray) (i : Nat) : illB s i = true ↔ wideI s i = 0 := by simp [illB]
/-- A unit: a character, or an ill-formed byte. -/
theorem unit_cases (s : ByteArray) (i : Nat) (hi : i < s.size) :
    (illB s i = true ∧ wideI s i = 0 ∧ Utf8.decode s i = (65533, 1)) ∨ (∃ w : Nat, 1 ≤ w ∧ w ≤ 4 ∧ i + w ≤ s.size ∧ illB s i = false ∧ wideI s i = w ∧ (Utf8.decode s i).2 = w ∧ (Utf8.encode (Utf8.decode s i).1).data.toList = seg s i (i + w) ∧ Utf8.valid (Utf8.decode s i).1 = true) := by
  rcases decode_wide s i hi with ⟨h1, h2⟩ | ⟨w, h1, h4, h5, h6, h7⟩
  · exact .inl ⟨(ill_iff s i).2 h1, h1, h2⟩
  · refine .inr ⟨w, h1, h4, h5, ?_, h6, h7, (encode_decode s i w hi h1 h4 h6).1, (encode_decode s i w hi h1 h4 h6).2⟩
    cases hb : illB s i
    · rfl
    · have := (ill_iff s i).1 hb; omega
/-- The text of the numbers is the text just where nothing is ill-formed. -/
theorem fix_len (s : ByteArray) : ∀ f i, s.size ≤ f + i → i ≤ s.size → (okF s f i = true ∧ fixF s f i = seg s i s.size) ∨ (okF s f i = false ∧ s.size - i < (fixF s f i).length)
  | 0, i, hf, h => by
    obtain rfl : i = s.size := by omega
    exact .inl ⟨rfl, (seg_self s s.size).symm⟩
  | f + 1, i, hf, h => by
    rcases Nat.lt_or_ge i s.size with hi | hi
    · rw [okF, if_pos hi, fixF, if_pos hi]
      rcases unit_cases s i hi with ⟨h1, _, h3⟩ | ⟨w, h1, h4, h5, h6, _, h7, h8, _⟩
      · refine .inr ⟨by rw [if_pos h1], ?_⟩
        rw [h3]
        simp only [List.length_append]
        rw [enc_fffd]
        have hfl : fffd.length = 3 := rfl
        rcases fix_len s f (i + 1) (by omega) (by omega) with ⟨_, h⟩ | ⟨_, h⟩
        · rw [h, seg_len s _ _ (by omega) (Nat.le_refl _)]; omega
        · omega
      · rw [h6, h7, h8]
        simp only [Bool.false_eq_true, if_false]
        rcases fix_len s f (i + w) (by omega) (by omega) with ⟨ho, h⟩ | ⟨ho, h⟩
        · exact .inl ⟨ho, by rw [h, seg_app s i _ _ (by omega) h5]⟩
        · refine .inr ⟨ho, ?_⟩
          rw [List.length_append, seg_len s i (i + w) (by omega) h5]; omega
    · obtain rfl : i = s.size := by omega
      refine .inl ⟨by rw [okF, if_neg (by omega)], by rw [fixF, if_neg (by omega), seg_self]⟩
theorem text_runes (s : ByteArray) : (runesBytes (numsI s)).data.toList = fixF s s.size 0 := fix_runes s s.size 0
theorem back_iff (s : ByteArray) : runesBytes (numsI s) = s ↔ okB s = true := by
  have ht := text_runes s
  have hl : s.data.toList.length = s.size := by simp
  rcases fix_len s s.size 0 (by omega) (by omega) with ⟨h1, h2⟩ | ⟨h1, h2⟩
  · unfold okB
    rw [h1]
    rw [h2, seg_all] at ht
    refine ⟨fun _ => rfl, fun _ => ?_⟩
    apply ByteArray.ext
    exact Array.ext' ht
  · unfold okB
    rw [h1]
    refine ⟨fun h => ?_, fun h => by cases h⟩
    rw [h] at ht
    rw [← ht] at h2; omega
end Go.Proofs.YtpddpglccjbpfaaDoor
