/- The document's text of numbers; the kit's look at a lent list. -/
import Derived.Test.YtpddpglccjbpfaaDoorCj
namespace Go.Proofs.YtpddpglccjbpfaaDoor
open Go Go.RowKit Go.Kt Go.Shelf

theorem runesBytes_snoc (l : List Int) (x : Int) : runesBytes (l ++ [x]) = runesBytes l ++ Utf8.encode x := by simp [runesBytes]
theorem OwnB.below {Y : Nat → Prop} {v : Value} {l : List UInt8} {A B : World} (h : OwnB Y v l A) (hb : Below A.heap.size A B) : OwnB Y v l B :=
  ⟨ownsF_keep h.1 (X := fun _ => False) (.of_all hb) (fun _ _ h => h), h.2⟩
theorem encode_size (x : Int) : (Utf8.encode x).size ≤ 4 := by
  have := runesBytes_size_le [x]
  simpa [runesBytes] using this

set_option maxRecDepth 100000 in
theorem keptFull_any (ao : Option Addr) (n cap : Nat) (v : Value) (l : List Int) (w : World) (h1 : Sl .i32 w (.slice ao n cap) (l ++ marks 16)) (hn : n = l.length + 16) (h2 : Slg .i32 w v l) (hl : l.length ≤ 35184372087808) :
    Calls Tryd.prog 102 #[.slice ao n cap, v] w fun e w' => e = .returned (.bool true) ∧ w = w' := by
  obtain ⟨av, cv, rfl, h2⟩ := h2
  obtain ⟨ao', cap', he, h1⟩ := h1
  injection he with e1 e2 e3
  subst e1; subst e3
  obtain ⟨g, off, rfl, hcs⟩ : ∃ g off, ao = some ⟨g, off, none⟩ ∧ ∀ i x, (l ++ marks 16)[i]? = some x → w.cell? ⟨g, off + i, none⟩ = some (.int .i32 x) := by
    rcases h1 with h | h
    · have := congrArg List.length h; simp [marks_len] at this
    · exact h
  have H1 := Lib.hid hcs
  have H2 := Lib.hid h2
  have hne : ((n : Int) != (l.length : Int) + 16) = false := by subst hn; simp
  have HN := Lib.hid hn
  have hn1 : n ≤ 35184372087824 := by omega
  clear h1 hcs h2 e2 hn
  go_enter Tryd.func102, Tryd.ntmps102
  go_wp2
  go_loop [5] (fun i => ∃ k : Nat, k ≤ n ∧ i = .int .i64 k) (fun i => n - (RowKit.intOf i).toNat)
  case atStart => exact ⟨0, by omega, rfl⟩
  case round =>
    obtain ⟨k, hk, rfl⟩ := hrel
    by_cases hlt : k < n
    · obtain ⟨x, hx⟩ : ∃ x, (l ++ marks 16)[k]? = some x := ⟨(l ++ marks 16)[k]'(by simp [marks_len]; have := HN.out; omega), List.getElem?_eq_getElem _⟩
      have p1 := H1.out k x hx
      have hxx : (x != x) = false := by simp
      by_cases hin : k < l.length
      · obtain ⟨a, rfl, ha⟩ : ∃ a : Addr, av = some a ∧ ∀ i x, l[i]? = some x → w.cell? (a.add i) = some (.int .i32 x) := by
          rcases H2.out with h | h
          · subst h; simp at hin
          · exact h
        have p2 := ha k x (by rw [← hx, List.getElem?_append_left hin])
        clear ha hx
        go_wp2_with fail
        refine (mark_some _ _ (by omega) (by omega)).mono ?_
        rintro e w' ⟨y, rfl, rfl⟩
        go_wp2
        go_round
        case rel => exact ⟨k + 1, by omega, by go_num⟩
        case measure => simp [RowKit.intOf]; omega
      · have hx2 : x = -91000 - ((k : Int) - l.length) := by
          rw [List.getElem?_append_right (by omega)] at hx
          have h16 : k - l.length < 16 := by have := HN.out; omega
          simp [marks, h16] at hx
          omega
        have h16 : (k : Int) - l.length < 16 := by have := HN.out; omega
        clear hx
        subst hx2
        go_wp2_with fail
        refine (mark_any _ _ (by omega) (by omega)).mono ?_
        rintro e w' ⟨rfl, rfl⟩
        go_wp2
        go_round
        case rel => exact ⟨k + 1, by omega, by go_num⟩
        case measure => simp [RowKit.intOf]; omega
    · go_wp2
      go_ret
      exact ⟨rfl, rfl⟩

theorem keptRunes_any (g cap : Nat) (v : Value) (l : List Int) (w : World) (h1 : Sl .i32 w (.slice (some ⟨g, 0, none⟩) (l.length + 16) cap) (l ++ marks 16)) (h2 : Slg .i32 w v l) (hl : l.length ≤ 35184372087808) (hc : l.length + 16 ≤ cap) (_hc2 : cap ≤ 9223372036854775807) :
    Calls Tryd.prog 75 #[.slice (some ⟨g, 0, none⟩) l.length cap, v] w fun e w' => e = .returned (.bool true) ∧ w = w' := by
  have C := Lib.hid (keptFull_any _ _ cap v l w h1 rfl h2 hl)
  obtain ⟨av, cv, rfl, h2⟩ := h2
  clear h1 h2
  have hne : ((l.length : Int) != l.length) = false := by simp
  go_enter Tryd.func75, Tryd.ntmps75
  go_wp2_with fail
  refine (C.out).mono ?_
  rintro e w1 ⟨rfl, rfl⟩
  go_wp2
  go_ret
  exact ⟨rfl, rfl⟩
end Go.Proofs.YtpddpglccjbpfaaDoor
