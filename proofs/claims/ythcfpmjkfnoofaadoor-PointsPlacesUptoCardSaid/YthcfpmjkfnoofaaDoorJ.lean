import Derived.Test.YthcfpmjkfnoofaaDoorI
namespace Go.Proofs.YthcfpmjkfnoofaaDoor
open Go Go.RowKit Go.Lib

def pieceK (s : ByteArray) : Nat → Nat → Nat
  | 0, n => n
  | f + 1, n => if n < s.size ∧ fullB (s.extract 0 (n + 1)) = false then pieceK s f (n + 1) else n

theorem pieceK_le (s : ByteArray) : ∀ f n, n ≤ s.size → pieceK s f n ≤ s.size
  | 0, n, h => h
  | f + 1, n, h => by
    unfold pieceK
    split
    · exact pieceK_le s f (n + 1) (by omega)
    · exact h

set_option maxRecDepth 100000 in
theorem piece_any (s : ByteArray) (w : World) (hT : Utf8Tabs 1 2 w) (h2 : 3 ≤ w.heap.size) (hs : s.size ≤ 4611686018427387904) (h1 : 1 ≤ s.size) :
    Calls Tryd.prog 128 #[.string s] w fun e w' => e = .returned (.int .i64 (pieceK s s.size 1)) ∧ Below w.heap.size w w' := by
  have HT := Lib.hid hT; clear hT
  obtain ⟨R, hR⟩ : ∃ R, pieceK s s.size 1 = R := ⟨_, rfl⟩
  have HR := Lib.hid hR
  rw [hR]; clear hR
  go_enter Tryd.func128, Tryd.ntmps128
  go_wp2
  go_loopw [3] (fun v wr => ∃ (n f : Nat), 1 ≤ n ∧ n ≤ s.size ∧ v = .int .i64 n ∧ pieceK s f n = R ∧ s.size ≤ f + n ∧ Below w.heap.size w wr) (fun v _ => s.size - (RowKit.intOf v).toNat)
  case atStart => exact ⟨1, s.size, by omega, h1, rfl, HR.out, by omega, Below.refl _ _⟩
  case round =>
    obtain ⟨n, f, hn1, hn2, rfl, hp, hf, hb⟩ := hrel
    have HP := Lib.hid hp; clear hp
    have hTr : Hid (Utf8Tabs 1 2 wr) := Lib.hid (tabs_below HT.out h2 hb)
    by_cases hlt : n < s.size
    · obtain ⟨f', rfl⟩ : ∃ f', f = f' + 1 := ⟨f - 1, by omega⟩
      have stp : pieceK s (f' + 1) n = if n < s.size ∧ fullB (s.extract 0 (n + 1)) = false then pieceK s f' (n + 1) else n := rfl
      have Stp := Lib.hid stp; clear stp
      have c := Lib.hid (utfFull_any (s.extract 0 (n + 1)) wr hTr.out (by rw [ByteArray.size_extract]; omega))
      cases hfb : fullB (s.extract 0 (n + 1))
      all_goals
        have FB := Lib.hid hfb
        rw [hfb] at c
        clear hfb
        go_wp2_with (go_at_call 52; refine c.out.mono ?_; rintro e w' ⟨rfl, hb2⟩)
      · go_roundw
        case rel => exact ⟨n + 1, f', by omega, by omega, by go_num, by rw [← HP.out, Stp.out, if_pos ⟨hlt, FB.out⟩], by omega, hb.trans (hb2.mono hb.size)⟩
        case measure => simp [RowKit.intOf]; omega
      · go_ret
        have : R = n := by rw [← HP.out, Stp.out, if_neg (by rw [FB.out]; simp)]
        rw [this]; exact ⟨rfl, hb.trans (hb2.mono hb.size)⟩
    · have hfin : R = n := by
        rw [← HP.out]
        cases f with
        | zero => rfl
        | succ f => unfold pieceK; rw [if_neg (by omega)]
      have Fin := Lib.hid hfin; clear hfin
      go_wp2
      go_ret
      rw [Fin.out]; exact ⟨rfl, hb⟩

/-- Is the unit at a place, whose number is r, an ill-formed byte? -/
def illB (s : ByteArray) (i : Nat) : Bool := wideI s i == 0
theorem ill_any (s : ByteArray) (i : Nat) (w : World) (hi : i < s.size) (hT : Utf8Tabs 1 2 w) (hs : s.size ≤ 4611686018427387904) :
    Calls Tryd.prog 127 #[.string s, .int .i64 i, .int .i32 (Utf8.decode s i).1] w fun e w' => e = .returned (.bool (illB s i)) ∧ Below w.heap.size w w' := by
  have hd := decP_in s i hi
  have c := Lib.hid (utfDecode_any s i w hT hs)
  rw [hd] at c
  clear hT hd
  rcases unit_at s i hi with ⟨h1, h2⟩ | ⟨v, h1, h4, hw, he, hd2, hd1⟩
  · have H : Hid (illB s i = true) := Lib.hid (by unfold illB; simp [h1])
    rw [h2] at c ⊢
    clear h1 h2
    generalize illB s i = R at *
    go_enter Tryd.func127, Tryd.ntmps127
    go_wp2_with (go_at_call 48; refine c.out.mono ?_; rintro e w' ⟨rfl, hb⟩)
    go_ret
    rw [H.out]; exact ⟨rfl, hb⟩
  · have H : Hid (illB s i = false) := Lib.hid (by unfold illB; rw [he]; simp; omega)
    have hne : v = 1 → (Utf8.decode s i).1 ≠ 65533 := by
      intro e e1
      subst e
      have hb := ((wide_iff s i 1 hi (by omega) (by omega)).1 he).2
      unfold CharAt at hb
      rw [e1] at hd1
      simp [numT] at hd1
      omega
    rw [hd2] at c
    generalize (Utf8.decode s i).1 = r at *
    generalize illB s i = R at *
    clear hd1 he hd2
    by_cases h5 : r = 65533
    · have hv : ((v : Int) == 1) = false := beq_eq_false_iff_ne.2 (by have := fun e => hne e h5; omega)
      have hr : ((r : Int) != 65533) = false := by rw [h5]; rfl
      have H5 := Lib.hid h5; clear h5 hne
      go_enter Tryd.func127, Tryd.ntmps127
      go_wp2_with (go_at_call 48; refine c.out.mono ?_; rintro e w' ⟨rfl, hb⟩)
      go_ret
      rw [H.out]; exact ⟨rfl, hb⟩
    · have hr : ((r : Int) != 65533) = true := by rw [bne_iff_ne]; omega
      go_enter Tryd.func127, Tryd.ntmps127
      go_wp2
      go_ret
      rw [H.out]; exact ⟨rfl, Below.refl _ _⟩
end Go.Proofs.YthcfpmjkfnoofaaDoor
