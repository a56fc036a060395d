import Derived.Test.YtpddpglccjbpfaaDoorM
namespace Go.Proofs.YtpddpglccjbpfaaDoor
open Go Go.RowKit Go.Lib

def decP (s : ByteArray) (a : Int) : Int × Int :=
  if 0 ≤ a ∧ a < s.size then (((Utf8.decode s a.toNat).1 : Int), ((Utf8.decode s a.toNat).2 : Int)) else (65533, 0)
theorem decP_in (s : ByteArray) (i : Nat) (h : i < s.size) : decP s i = (((Utf8.decode s i).1 : Int), ((Utf8.decode s i).2 : Int)) := by
  unfold decP; rw [if_pos (by omega)]; simp
theorem decP_out (s : ByteArray) (a : Int) (h : a < 0 ∨ s.size ≤ a) : decP s a = (65533, 0) := by
  unfold decP; rw [if_neg (by omega)]
theorem wideI_bd (s : ByteArray) (i : Nat) (h : i < s.size) : 0 ≤ wideI s i ∧ wideI s i ≤ 4 ∧ i + wideI s i ≤ s.size := by
  rcases unit_at s i h with ⟨h1, _⟩ | ⟨w, h1, h4, hw, he, _⟩
  · omega
  · omega

theorem B_extract (s : ByteArray) (i n k : Nat) (hn : i + n ≤ s.size) (h : k < n) : B (s.extract i (i + n)) k = B s (i + k) := by
  have := bAt_extract s i n k h hn
  rw [bAt_B] at this
  exact_mod_cast this
theorem B_out (s : ByteArray) (k : Nat) (h : s.size ≤ k) : B s k = 0 := by
  unfold B
  rw [List.getD_eq_getElem?_getD, List.getElem?_eq_none (by simpa using h)]; rfl
theorem B_tail (s : ByteArray) (i k : Nat) (hi : i ≤ s.size) : B (s.extract i s.size) k = B s (i + k) := by
  have hz : (s.extract i s.size).size = s.size - i := by rw [ByteArray.size_extract]; omega
  by_cases h : k < s.size - i
  · have := B_extract s i (s.size - i) k (by omega) h
    rw [show i + (s.size - i) = s.size by omega] at this
    exact this
  · rw [B_out _ _ (by omega), B_out _ _ (by omega)]
theorem decode_tail (s : ByteArray) (i : Nat) (hi : i < s.size) : decodeGo (s.extract i s.size) = Utf8.decode s i := by
  have hz : (s.extract i s.size).size = s.size - i := by rw [ByteArray.size_extract]; omega
  unfold decodeGo
  rw [if_neg (by omega), decode_B, decode_B, hz]
  simp only [B_tail s i _ (by omega), Nat.sub_zero, Nat.zero_add, Nat.add_zero]

theorem tabs_below {w w' : World} {n : Nat} (hT : Utf8Tabs 5 6 w) (hn : 7 ≤ n) (hb : Below n w w') : Utf8Tabs 5 6 w' :=
  ⟨fun c hc => (hb.cell (p := ⟨5, c, none⟩) (by show 5 < n; omega)).trans (hT.1 c hc), fun i hi => ⟨(hb.cell (p := ⟨6, 2 * i, none⟩) (by show 6 < n; omega)).trans (hT.2 i hi).1, (hb.cell (p := ⟨6, 2 * i + 1, none⟩) (by show 6 < n; omega)).trans (hT.2 i hi).2⟩⟩

theorem utfDecode_any (s : ByteArray) (a : Int) (w : World) (hT : Utf8Tabs 5 6 w) (_hs : s.size ≤ 4611686018427387904) :
    Calls Tryd.prog 88 #[.string s, .int .i64 a] w fun e w' => e = .returned (.tuple #[.int .i32 (decP s a).1, .int .i64 (decP s a).2]) ∧ Below w.heap.size w w' := by
  have HT := Lib.hid hT; clear hT
  by_cases hin : 0 ≤ a ∧ a < s.size
  · obtain ⟨i, rfl⟩ := Int.eq_ofNat_of_zero_le hin.1
    have hi : i < s.size := by omega
    have H := Lib.hid (decP_in s i hi)
    generalize decP s i = R at H ⊢
    have HD : Hid (∀ w, Utf8Tabs 5 6 w → Calls Tryd.prog 113 #[.string (s.extract i s.size)] w fun e w' => e = .returned (.tuple #[.int .i32 R.1, .int .i64 R.2]) ∧ Below w.heap.size w w') := Lib.hid fun w hT => by
      have := Tryd.utf8_DecodeRuneInString (s.extract i s.size) w hT
      rw [decode_tail s i hi] at this
      rw [H.out]; exact this
    clear H
    go_enter Tryd.func88, Tryd.ntmps88
    go_wp2_with (go_at_call 113; refine (HD.out _ HT.out).mono ?_; rintro e w' ⟨rfl, hb⟩)
    go_ret2
    exact ⟨rfl, hb⟩
  · have H := Lib.hid (decP_out s a (by omega))
    generalize decP s a = R at H ⊢
    by_cases h0 : a < 0
    · go_enter Tryd.func88, Tryd.ntmps88
      go_wp2
      go_ret2
      rw [H.out]; exact ⟨rfl, Below.refl _ _⟩
    · go_enter Tryd.func88, Tryd.ntmps88
      go_wp2
      go_ret2
      rw [H.out]; exact ⟨rfl, Below.refl _ _⟩
end Go.Proofs.YtpddpglccjbpfaaDoor
