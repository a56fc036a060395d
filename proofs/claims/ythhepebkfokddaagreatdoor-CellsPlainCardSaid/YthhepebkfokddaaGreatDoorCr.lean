/- Units there and back; the numbers of a text made of numbers. -/
import Derived.Test.YthhepebkfokddaaGreatDoorGz18
namespace Go.Proofs.YthhepebkfokddaaGreatDoor
open Go

/-- No unit begins within a character. -/
theorem no_unit_within (s : ByteArray) (p v i : Nat) (hp : p < s.size) (hv1 : 1 ≤ v) (hv4 : v ≤ 4) (hw : wideI s p = v) (h1 : p < i) (h2 : i < p + v) : ∀ f j, j ≤ p → i ∉ placesF s f j
  | 0, _, _ => by simp [placesF, unitsF]
  | f + 1, j, hj => by
    intro hm
    have hj' : j < s.size := by omega
    obtain ⟨d1, d2, d3⟩ := dec_width s j hj'
    rw [placesF_in s f j hj'] at hm
    rcases List.mem_cons.1 hm with h | h
    · omega
    · rcases Nat.lt_or_ge p (j + (Utf8.decode s j).2) with hlt | hge
      · rcases Nat.eq_or_lt_of_le hj with e | hjp
        · subst e
          rcases decode_wide s j hj' with ⟨h3, _⟩ | ⟨u, _, _, _, h6, h7⟩
          · omega
          · have := placesF_ge s f _ _ h; omega
        · have hc := in_char s j (p - j) hj' (by omega) (by omega)
          rw [Nat.add_sub_cancel' hj] at hc
          have := wide_cont s p hc.1 hc.2
          omega
      · exact no_unit_within s p v i hp hv1 hv4 hw h1 h2 f _ hge h
theorem units_places (s : ByteArray) (p : Nat × Nat) (h : p ∈ units s) : p.1 ∈ placesF s s.size 0 := List.mem_map.2 ⟨p, h, rfl⟩
theorem units_dec (s : ByteArray) : ∀ f i p, p ∈ unitsF s f i → p.2 = (Utf8.decode s p.1).1 ∧ p.1 < s.size
  | 0, _, p, h => by simp [unitsF] at h
  | f + 1, i, p, h => by
    rw [unitsF] at h
    split at h
    · rcases List.mem_cons.1 h with h | h
      · subst h; exact ⟨rfl, by assumption⟩
      · exact units_dec s f _ p h
    · simp at h
/-- The unit that ends where a unit ends. -/
theorem before_unit (s : ByteArray) (i : Nat) (hi : i < s.size) (hm : i ∈ placesF s s.size 0) : befP s ((i : Int) + (Utf8.decode s i).2) = (((Utf8.decode s i).1 : Int), ((Utf8.decode s i).2 : Int)) := by
  obtain ⟨d1, d2, d3⟩ := dec_width s i hi
  rw [show ((i : Int) + (Utf8.decode s i).2) = ((i + (Utf8.decode s i).2 : Nat) : Int) by omega, befP_in s _ (by omega) d3]
  rcases decode_wide s i hi with ⟨h3, h4⟩ | ⟨u, u1, u4, u5, h6, h7⟩
  · rw [h4]
    refine befK_none (fun v hv => ?_) 5 1 (by omega)
    obtain ⟨v1, v4, vn, hw⟩ := hv
    rcases Nat.eq_or_lt_of_le v1 with e | e
    · subst e
      rw [show i + 1 - 1 = i by omega] at hw
      omega
    · exact no_unit_within s (i + 1 - v) v i (by omega) v1 v4 hw (by omega) (by omega) s.size 0 (Nat.zero_le _) hm
  · rw [h7]
    have he : Ends s (i + u) u := ⟨u1, u4, by omega, by rw [Nat.add_sub_cancel]; exact h6⟩
    have := befK_ends (by omega) he 5 1 (by omega) u1 (by omega)
    rw [Nat.add_sub_cancel] at this
    exact this
/-- A unit of one byte that is not U+FFFD is that byte. -/
theorem unit_one (s : ByteArray) (i : Nat) (hi : i < s.size) (hw : (Utf8.decode s i).2 = 1) (hr : (Utf8.decode s i).1 ≠ 65533) : (Utf8.decode s i).1 = B s i ∧ B s i < 128 := by
  rcases unit_at s i hi with ⟨_, h⟩ | ⟨u, u1, u4, u5, h6, h7, h8⟩
  · rw [h] at hr; exact absurd rfl hr
  · obtain rfl : u = 1 := by omega
    have hc := ((wide_iff s i 1 hi (by omega) (by omega)).1 h6).2
    unfold numT at h8
    simp at h8
    refine ⟨by omega, ?_⟩
    rcases hc with ⟨_, h⟩ | ⟨h, _⟩ | ⟨h, _⟩ | ⟨h, _⟩
    · exact h
    · cases h
    · cases h
    · cases h

/-- What a number is read as, once it has been made a text. -/
def fixR (x : Int) : Int := if Utf8.valid x then x else 65533
theorem fixR_valid (x : Int) : Utf8.valid (fixR x) = true := by
  unfold fixR
  by_cases h : Utf8.valid x = true
  · rw [if_pos h]; exact h
  · rw [if_neg h]; rfl
theorem valid_bd (x : Int) (h : Utf8.valid x = true) : (0 ≤ x ∧ x < 55296) ∨ (57344 ≤ x ∧ x ≤ 1114111) := by
  simpa [Utf8.valid] using h
/-- The character that a text begins with. -/
theorem first_char (x : Int) (rest s : ByteArray) (hs : s.data.toList = (Utf8.encode x).data.toList ++ rest.data.toList) :
    (Utf8.decode s 0).2 = (Utf8.encode x).size ∧ ((Utf8.decode s 0).1 : Int) = fixR x ∧ 1 ≤ (Utf8.encode x).size ∧ s.size = (Utf8.encode x).size + rest.size := by
  have hb := valid_bd _ (fixR_valid x)
  have e : Utf8.encode x = encC (fixR x) := encode_C x
  have hsz : s.size = (Utf8.encode x).size + rest.size := by
    have h := congrArg List.length hs
    rw [List.length_append] at h
    have a1 : s.data.toList.length = s.size := by simp
    have a2 : (Utf8.encode x).data.toList.length = (Utf8.encode x).size := by simp
    have a3 : rest.data.toList.length = rest.size := by simp
    omega
  rw [e] at hs hsz ⊢
  generalize fixR x = c at *
  have hB : ∀ j (y : UInt8), (encC c).data.toList[j]? = some y → B s j = y.toNat := fun j y hy => by
    unfold B
    rw [hs, List.getD_eq_getElem?_getD, List.getElem?_append_left (List.getElem?_eq_some_iff.1 hy).1, hy]
    rfl
  have key : ∀ w : Nat, 1 ≤ w → w ≤ 4 → w ≤ s.size → CharAt w (B s 0) (B s 1) (B s 2) (B s 3) → numT w (B s 0) (B s 1) (B s 2) (B s 3) = c → (Utf8.decode s 0).2 = w ∧ ((Utf8.decode s 0).1 : Int) = c := by
    intro w w1 w4 hle hc hn
    have hw := (wide_iff s 0 w (by omega) w1 w4).2 ⟨by omega, hc⟩
    rcases unit_at s 0 (by omega) with ⟨h, _⟩ | ⟨u, _, _, _, h6, h7, h8⟩
    · omega
    · obtain rfl : u = w := by omega
      exact ⟨h7, h8.trans hn⟩
  unfold encC at hB hsz ⊢
  have bt : ∀ z : Int, 0 ≤ z → z < 256 → ((UInt8.ofNat z.toNat).toNat : Int) = z := fun z h0 h1 => by simp; omega
  by_cases a1 : c < 128
  · rw [if_pos a1] at hB hsz ⊢
    have q0 := hB 0 _ rfl
    have t0 := bt c (by omega) (by omega)
    have z1 : (⟨#[UInt8.ofNat c.toNat]⟩ : ByteArray).size = 1 := rfl
    rw [z1] at hsz ⊢
    obtain ⟨k1, k2⟩ := key 1 (by omega) (by omega) (by omega) (.inl ⟨rfl, by omega⟩) (by unfold numT; simp; omega)
    exact ⟨k1, k2, by omega, hsz⟩
  · rw [if_neg a1] at hB hsz ⊢
    by_cases a2 : c < 2048
    · rw [if_pos a2] at hB hsz ⊢
      have q0 := hB 0 _ rfl
      have q1 := hB 1 _ rfl
      have t0 := bt (192 + c / 64) (by omega) (by omega)
      have t1 := bt (128 + c % 64) (by omega) (by omega)
      have z1 : (⟨#[UInt8.ofNat (192 + c / 64).toNat, UInt8.ofNat (128 + c % 64).toNat]⟩ : ByteArray).size = 2 := rfl
      rw [z1] at hsz ⊢
      obtain ⟨k1, k2⟩ := key 2 (by omega) (by omega) (by omega) (.inr (.inl ⟨rfl, by omega, by omega, by omega, by omega⟩)) (by unfold numT; simp; omega)
      exact ⟨k1, k2, by omega, hsz⟩
    · rw [if_neg a2] at hB hsz ⊢
      by_cases a3 : c < 65536
      · rw [if_pos a3] at hB hsz ⊢
        have q0 := hB 0 _ rfl
        have q1 := hB 1 _ rfl
        have q2 := hB 2 _ rfl
        have t0 := bt (224 + c / 4096) (by omega) (by omega)
        have t1 := bt (128 + c / 64 % 64) (by omega) (by omega)
        have t2 := bt (128 + c % 64) (by omega) (by omega)
        have z1 : (⟨#[UInt8.ofNat (224 + c / 4096).toNat, UInt8.ofNat (128 + c / 64 % 64).toNat, UInt8.ofNat (128 + c % 64).toNat]⟩ : ByteArray).size = 3 := rfl
        rw [z1] at hsz ⊢
        obtain ⟨k1, k2⟩ := key 3 (by omega) (by omega) (by omega) (.inr (.inr (.inl ⟨rfl, by omega, by omega, by omega, by omega, by omega, by omega, by omega, by omega⟩))) (by unfold numT; simp; omega)
        exact ⟨k1, k2, by omega, hsz⟩
      · rw [if_neg a3] at hB hsz ⊢
        have q0 := hB 0 _ rfl
        have q1 := hB 1 _ rfl
        have q2 := hB 2 _ rfl
        have q3 := hB 3 _ rfl
        have t0 := bt (240 + c / 262144) (by omega) (by omega)
        have t1 := bt (128 + c / 4096 % 64) (by omega) (by omega)
        have t2 := bt (128 + c / 64 % 64) (by omega) (by omega)
        have t3 := bt (128 + c % 64) (by omega) (by omega)
        have z1 : (⟨#[UInt8.ofNat (240 + c / 262144).toNat, UInt8.ofNat (128 + c / 4096 % 64).toNat, UInt8.ofNat (128 + c / 64 % 64).toNat, UInt8.ofNat (128 + c % 64).toNat]⟩ : ByteArray).size = 4 := rfl
        rw [z1] at hsz ⊢
        obtain ⟨k1, k2⟩ := key 4 (by omega) (by omega) (by omega) (.inr (.inr (.inr ⟨rfl, by omega, by omega, by omega, by omega, by omega, by omega, by omega, by omega, by omega, by omega⟩))) (by unfold numT; simp; omega)
        exact ⟨k1, k2, by omega, hsz⟩

/-- The numbers of a text made of numbers. -/
theorem nums_text : ∀ l : List Int, numsI (runesBytes l) = l.map fixR
  | [] => rfl
  | x :: l => by
    obtain ⟨s, hs⟩ : ∃ s, runesBytes (x :: l) = s := ⟨_, rfl⟩
    have hsp : s.data.toList = (Utf8.encode x).data.toList ++ (runesBytes l).data.toList := by rw [← hs, runesBytes_cons]; simp
    obtain ⟨h1, h2, h3, h4⟩ := first_char x (runesBytes l) s hsp
    have hex : s.extract (Utf8.encode x).size s.size = runesBytes l := by
      apply ByteArray.ext
      apply Array.ext'
      show seg s _ _ = _
      have a1 : s.data.toList.length = s.size := by simp
      have a2 : (Utf8.encode x).data.toList.length = (Utf8.encode x).size := by simp
      rw [seg_eq, List.take_of_length_le (by omega), hsp, ← a2, List.drop_left]
    rw [hs]
    unfold numsI nums
    obtain ⟨f, hf⟩ : ∃ f, s.size = f + 1 := ⟨s.size - 1, by omega⟩
    rw [hf, numsF_in s f 0 (by omega), h1, List.map_cons, h2, List.map_cons]
    congr 1
    rw [← nums_text l]
    unfold numsI nums
    have := numsF_behind s (Utf8.encode x).size (by omega) f 0
    rw [Nat.add_zero] at this
    rw [Nat.zero_add, ← this, hex, numsF_fuel (runesBytes l) f (runesBytes l).size 0 (by omega) (by omega)]
theorem fix_same : ∀ l : List Int, decide (l.map fixR = l) = l.all Utf8.valid
  | [] => rfl
  | x :: l => by
    have ih := fix_same l
    rw [List.all_cons, ← ih, Bool.eq_iff_iff]
    simp only [List.map_cons, List.cons.injEq, decide_eq_true_iff, Bool.and_eq_true]
    constructor
    · rintro ⟨h1, h2⟩
      refine ⟨?_, h2⟩
      have := fixR_valid x
      rwa [h1] at this
    · rintro ⟨h1, h2⟩
      exact ⟨by unfold fixR; rw [if_pos h1], h2⟩
end Go.Proofs.YthhepebkfokddaaGreatDoor
