/- Texts that are right: made of characters; one behind the other; mended ones. -/
import Derived.Test.YtpddpglccjbpfaaDoorCo
namespace Go.Proofs.YtpddpglccjbpfaaDoor
open Go

/-- A byte of a list. -/
def bt (l : List UInt8) (i : Nat) : Nat := (l.getD i 0).toNat
/-- A character's bytes. -/
def Chr (c : List UInt8) : Prop := 1 ≤ c.length ∧ c.length ≤ 4 ∧ CharAt c.length (bt c 0) (bt c 1) (bt c 2) (bt c 3)
inductive Vd : List UInt8 → Prop
  | nil : Vd []
  | cons (c l : List UInt8) : Chr c → Vd l → Vd (c ++ l)
theorem Vd.append {a b : List UInt8} (ha : Vd a) (hb : Vd b) : Vd (a ++ b) := by
  induction ha with
  | nil => exact hb
  | cons c l hc _ ih => rw [List.append_assoc]; exact .cons c _ hc ih
theorem Vd.rep {a : List UInt8} (ha : Vd a) : ∀ n, Vd (rep a n)
  | 0 => .nil
  | n + 1 => (Vd.rep ha n).append ha

theorem bt_seg (s : ByteArray) (i w j : Nat) (h : i + w ≤ s.size) (hj : j < w) : bt (seg s i (i + w)) j = B s (i + j) := by
  unfold bt
  rw [seg_range s i w h, List.getD_eq_getElem?_getD, List.getElem?_map, List.getElem?_range hj]
  have := B_lt s (i + j)
  simp
  omega
theorem seg_chr (s : ByteArray) (i w : Nat) (hi : i < s.size) (h1 : 1 ≤ w) (h4 : w ≤ 4) (h : wideI s i = w) : Chr (seg s i (i + w)) := by
  obtain ⟨hs, hc⟩ := (wide_iff s i w hi h1 h4).1 h
  have hl := seg_len s i (i + w) (by omega) hs
  rw [Nat.add_sub_cancel_left] at hl
  refine ⟨by omega, by omega, ?_⟩
  rw [hl]
  exact char_congr (by rw [bt_seg s i w 0 hs (by omega)]; rfl) (fun h => (bt_seg s i w 1 hs h).symm) (fun h => (bt_seg s i w 2 hs h).symm) (fun h => (bt_seg s i w 3 hs h).symm) hc
theorem ok_vd (s : ByteArray) : ∀ f i, i ≤ s.size → s.size ≤ f + i → okF s f i = true → Vd (seg s i s.size)
  | 0, i, hi, hf, _ => by
    obtain rfl : i = s.size := by omega
    rw [seg_self]; exact .nil
  | f + 1, i, hi, hf, h => by
    rcases Nat.lt_or_ge i s.size with hlt | hge
    · rw [okF, if_pos hlt] at h
      rcases unit_cases s i hlt with ⟨h1, h2, h3⟩ | ⟨w, h1, h4, h5, h6, h7, h8, h9, _⟩
      · rw [if_pos h1] at h; cases h
      · rw [h6] at h
        simp only [Bool.false_eq_true, if_false] at h
        rw [h8] at h
        rw [← seg_app s i (i + w) s.size (by omega) h5]
        exact .cons _ _ (seg_chr s i w hlt h1 h4 h7) (ok_vd s f (i + w) h5 (by omega) h)
    · obtain rfl : i = s.size := by omega
      rw [seg_self]; exact .nil

theorem ill_dec (s : ByteArray) (i : Nat) (hi : i < s.size) : illB s i = decide (Utf8.decode s i = (65533, 1)) := by
  rcases unit_at s i hi with ⟨h1, h2⟩ | ⟨w, h1, h4, h5, h6, h7, h8⟩
  · rw [(ill_iff s i).2 h1, h2]; simp
  · have hn : illB s i = false := by
      cases hb : illB s i
      · rfl
      · have := (ill_iff s i).1 hb; omega
    rw [hn]
    symm
    rw [decide_eq_false_iff_not]
    intro e
    rw [e] at h7 h8
    simp only at h7 h8
    subst h7
    have hc := ((wide_iff s i 1 hi (by omega) (by omega)).1 h6).2
    unfold numT at h8
    rcases hc with ⟨_, h⟩ | ⟨h, _⟩ | ⟨h, _⟩ | ⟨h, _⟩
    · simp at h8; omega
    · cases h
    · cases h
    · cases h
theorem okF_fuel (s : ByteArray) : ∀ f g i, s.size ≤ f + i → s.size ≤ g + i → okF s f i = okF s g i
  | 0, g, i, h, _ => by
    cases g with
    | zero => rfl
    | succ g => rw [okF, okF, if_neg (by omega)]
  | f + 1, 0, i, _, h => by rw [okF, okF, if_neg (by omega)]
  | f + 1, g + 1, i, h, h' => by
    rcases Nat.lt_or_ge i s.size with hi | hi
    · have := dec_width s i hi
      rw [okF, okF, if_pos hi, if_pos hi, okF_fuel s f g _ (by omega) (by omega)]
    · rw [okF, okF, if_neg (by omega), if_neg (by omega)]
theorem okF_behind (s : ByteArray) (a : Nat) (ha : a ≤ s.size) : ∀ f j, okF (s.extract a s.size) f j = okF s f (a + j)
  | 0, _ => rfl
  | f + 1, j => by
    have hz := tail_size s a ha
    rcases Nat.lt_or_ge j (s.size - a) with hj | hj
    · rw [okF, okF, if_pos (show j < (s.extract a s.size).size by omega), if_pos (show a + j < s.size by omega), ill_dec (s.extract a s.size) j (by omega), ill_dec s (a + j) (by omega), decode_behind s a j ha, okF_behind s a ha f, Nat.add_assoc]
    · rw [okF, okF, if_neg (by omega), if_neg (by omega)]

theorem vd_ok {l : List UInt8} (h : Vd l) : okB ⟨l.toArray⟩ = true := by
  induction h with
  | nil => rfl
  | cons c l hc _ ih =>
    obtain ⟨h1, h4, hc⟩ := hc
    obtain ⟨s, hs⟩ : ∃ s : ByteArray, s = ⟨(c ++ l).toArray⟩ := ⟨_, rfl⟩
    rw [← hs]
    have hd : s.data.toList = c ++ l := by rw [hs]
    have hsz : s.size = c.length + l.length := by
      have : s.data.toList.length = s.size := by simp
      rw [← this, hd, List.length_append]
    have hB : ∀ j, j < c.length → bt c j = B s (0 + j) := fun j hj => by
      unfold bt B
      rw [hd, Nat.zero_add, List.getD_eq_getElem?_getD, List.getD_eq_getElem?_getD, List.getElem?_append_left hj]
    have hwide : wideI s 0 = c.length := (wide_iff s 0 c.length (by omega) h1 h4).2 ⟨by omega, char_congr (hB 0 (by omega)) (fun h => hB 1 h) (fun h => hB 2 h) (fun h => hB 3 h) hc⟩
    have hex : s.extract c.length s.size = ⟨l.toArray⟩ := by
      apply ByteArray.ext
      apply Array.ext'
      show seg s c.length s.size = l
      rw [seg_eq, hd, List.take_of_length_le (by rw [List.length_append]; omega), List.drop_left]
    unfold okB
    rw [hsz]
    obtain ⟨f, hf⟩ : ∃ f, c.length + l.length = f + 1 := ⟨c.length + l.length - 1, by omega⟩
    rw [hf, okF, if_pos (by omega)]
    rcases unit_cases s 0 (by omega) with ⟨_, h, _⟩ | ⟨w, _, _, _, h6, h7, h8, _, _⟩
    · omega
    · obtain rfl : w = c.length := by omega
      rw [h6, h8]
      simp only [Bool.false_eq_true, if_false]
      have hb := okF_behind s c.length (by omega) f 0
      rw [Nat.add_zero] at hb
      rw [Nat.zero_add, ← hb, hex]
      have : (⟨l.toArray⟩ : ByteArray).size = l.length := by show l.toArray.size = _; simp
      rw [okF_fuel _ f (⟨l.toArray⟩ : ByteArray).size 0 (by omega) (by omega)]
      exact ih

/-- What is mended by what is right is right. -/
theorem mend_vd (s by' : ByteArray) (whole : Bool) (hb : Vd by'.data.toList) : ∀ f i, i ≤ s.size → Vd (mendR s by' whole f i)
  | 0, _, _ => .nil
  | f + 1, i, hi => by
    rcases Nat.lt_or_ge i s.size with hlt | hge
    · rw [mendR, if_pos hlt]
      obtain ⟨k1, k2, _⟩ := badK_bd s i hlt
      rcases unit_cases s i hlt with ⟨h1, h2, h3⟩ | ⟨w, h1, h4, h5, h6, h7, h8, h9, _⟩
      · rw [if_pos h2]
        exact (hb.rep _).append (mend_vd s by' whole hb f _ k2)
      · rw [if_neg (by omega), h7, Int.toNat_natCast]
        exact .cons _ _ (seg_chr s i w hlt h1 h4 h7) (mend_vd s by' whole hb f _ h5)
    · rw [mendR_end s by' _ _ _ hge]; exact .nil
theorem mended_ok (s by' : ByteArray) (whole : Bool) (hb : okB by' = true) : okB ⟨(mendL s by' whole).toArray⟩ = true := by
  have := ok_vd by' by'.size 0 (Nat.zero_le _) (by omega) hb
  rw [seg_all] at this
  rw [mendL_R]
  exact vd_ok (mend_vd s by' whole this s.size 0 (Nat.zero_le _))
/-- What is right stays. -/
theorem mended_same (s by' : ByteArray) (whole : Bool) (h : okB s = true) : (⟨(mendL s by' whole).toArray⟩ : ByteArray) = s := by
  have hb := (bads_ok s s.size 0).2 h
  rw [mendL_R, mend_ok s by' whole s.size 0 (Nat.zero_le _) (by omega) hb, seg_all]
/-- U+FFFD in the place of each ill-formed byte: what Go's own conversions make. -/
theorem mended_fffd (s : ByteArray) : (⟨(mendL s ⟨#[239, 191, 189]⟩ false).toArray⟩ : ByteArray) = runesBytes (numsI s) := by
  rw [mendL_R, mend_fix s ⟨#[239, 191, 189]⟩ rfl s.size 0 s.size (Nat.zero_le _) (by omega) (by omega), ← text_runes]
theorem mended_len (s by' : ByteArray) : (mendL s by' true).length + sumK (bads s) = s.size + (bads s).length * by'.size ∧ (mendL s by' false).length + sumK (bads s) = s.size + sumK (bads s) * by'.size ∧ sumK (bads s) ≤ s.size := by
  have := mend_len s by' s.size 0 (Nat.zero_le _) (by omega)
  rw [mendL_R, mendL_R]
  unfold bads
  simpa using this
end Go.Proofs.YtpddpglccjbpfaaDoor
