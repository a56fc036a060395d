/- Lists that were handed in; the kit's lent and kept lists of numbers; the document's text of numbers. -/
import Derived.Test.YtpddpglccjbpfaaDoorCe
import Derived.Test.YtpddpglccjbpfaaDoorCf
namespace Go.Proofs.YtpddpglccjbpfaaDoor
open Go Go.RowKit Go.Kt Go.Shelf

/-- v is read as the numbers l, wherever it begins. -/
def Slg (k : IntKind) (W : World) (v : Value) (l : List Int) : Prop :=
  ∃ ao cap, v = .slice ao l.length cap ∧ (l = [] ∨ ∃ a : Addr, ao = some a ∧ ∀ i x, l[i]? = some x → W.cell? (a.add i) = some (.int k x))
theorem add_block (a : Addr) (i : Nat) : (a.add i).block = a.block := by unfold Addr.add; split <;> rfl
theorem Slg.below {k : IntKind} {A B : World} {v : Value} {l : List Int} (h : Slg k A v l) (hb : Below A.heap.size A B) : Slg k B v l := by
  obtain ⟨ao, cap, rfl, h⟩ := h
  refine ⟨ao, cap, rfl, ?_⟩
  rcases h with h | ⟨a, rfl, h⟩
  · exact .inl h
  · exact .inr ⟨a, rfl, fun i x hx => (hb.cell (lt_of_cell (h i x hx))).trans (h i x hx)⟩
theorem Slg.below' {k : IntKind} {n : Nat} {w A B : World} {v : Value} {l : List Int} (h : Slg k w v l) (hn : w.heap.size = n) (hA : Below n w A) (hB : Below n A B) : Slg k B v l :=
  h.below (by rw [hn]; exact hA.trans hB)
theorem Sl.toG {k : IntKind} {W : World} {v : Value} {l : List Int} (h : Sl k W v l) : Slg k W v l := by
  obtain ⟨ao, cap, rfl, h⟩ := h
  refine ⟨ao, cap, rfl, ?_⟩
  rcases h with h | ⟨g, off, rfl, h⟩
  · exact .inl h
  · exact .inr ⟨_, rfl, fun i x hx => by rw [Addr.add_lit]; exact h i x hx⟩

theorem textg_run (v : Value) (l : List Int) (w : World) (h : Slg .i32 w v l) : (convert 46 9 v).run Tryd.prog w = .ok (.string (runesBytes l)) w := by
  obtain ⟨ao, cap, rfl, h⟩ := h
  rcases h with rfl | ⟨a, rfl, h⟩
  · cases ao with
    | none => exact run_convert_runes_nil w 46 9 21 _ _ Tryd.underlying46 Tryd.underlying21 Tryd.underlying9
    | some a => exact run_convert_runes w 46 9 21 a 0 cap [] (Nat.le_refl _) Tryd.underlying46 Tryd.underlying21 Tryd.underlying9 (fun j hj => by simp at hj)
  · have := run_convert_runes w 46 9 21 a l.length cap l (Nat.le_refl _) Tryd.underlying46 Tryd.underlying21 Tryd.underlying9 (fun j hj =>
      h j _ (by rw [List.getD_eq_getElem?_getD, List.getElem?_eq_getElem hj]; rfl))
    rwa [List.take_length] at this
theorem mark_any (i : Int) (w : World) (h0 : 0 ≤ i) (h1 : i < 16) :
    Calls Tryd.prog 95 #[.int .i64 90, .int .i64 i] w fun e w' => e = .returned (.int .i32 (-91000 - i)) ∧ w = w' := by
  go_enter Tryd.func95, Tryd.ntmps95
  go_wp2
  go_ret
  exact ⟨rfl, rfl⟩
theorem mark_some (i : Int) (w : World) (_h0 : -9223372036854775808 ≤ i) (_h1 : i ≤ 9223372036854775807) :
    Calls Tryd.prog 95 #[.int .i64 90, .int .i64 i] w fun e w' => ∃ x, e = .returned (.int .i32 x) ∧ w = w' := by
  go_enter Tryd.func95, Tryd.ntmps95
  go_wp2
  go_ret
  exact ⟨_, rfl, rfl⟩

/-- The marks that the kit lays behind a lent list. -/
def marks (n : Nat) : List Int := (List.range n).map fun i : Nat => (-91000 - i : Int)
theorem marks_succ (n : Nat) : marks (n + 1) = marks n ++ [-91000 - (n : Int)] := by simp [marks, List.range_succ]
theorem marks_len (n : Nat) : (marks n).length = n := by simp [marks]
abbrev i32s (l : List Int) : List Value := l.map fun x => .int .i32 x

set_option maxRecDepth 100000 in
theorem fullRunes_any (v : Value) (l : List Int) (w : World) (h : Slg .i32 w v l) (hl : l.length ≤ 35184372087808) :
    Calls Tryd.prog 101 #[v] w fun e w' => ∃ ao cap, e = .returned (.slice ao (l.length + 16) cap) ∧ OwnS (fun b => w.heap.size ≤ b) 21 1 (.slice ao (l.length + 16) cap) (l.length + 16) (i32s (l ++ marks 16)) w' ∧ Below w.heap.size w w' := by
  obtain ⟨av, cv, rfl, h⟩ := h
  have H := Lib.hid h
  clear h
  go_enter Tryd.func101, Tryd.ntmps101
  go_wp2
  go_loopw [3, 4] (fun o i wr => ∃ (k : Nat) (ao : Option Addr) (cp : Nat), k ≤ l.length ∧ i = .int .i64 k ∧ o = .slice ao k cp ∧ OwnS (fun b => w.heap.size ≤ b) 21 1 (.slice ao k cp) k (i32s (l.take k)) wr ∧ Below w.heap.size w wr)
    (fun _ i _ => l.length - (RowKit.intOf i).toNat)
  case atStart => exact ⟨0, none, 0, by omega, rfl, rfl, own_nil _ _ _ _, Below.refl _ _⟩
  case round =>
    obtain ⟨k, ao, cp, hk, rfl, rfl, hown, hb⟩ := hrel
    by_cases hlt : k < l.length
    · obtain ⟨a, rfl, ha⟩ : ∃ a : Addr, av = some a ∧ ∀ i x, l[i]? = some x → w.cell? (a.add i) = some (.int .i32 x) := by
        rcases H.out with h | h
        · subst h; simp at hlt
        · exact h
      obtain ⟨x, hx⟩ : ∃ x, l[k]? = some x := ⟨l[k], List.getElem?_eq_getElem hlt⟩
      have q := ha k x hx
      have p1 := (hb.cell (lt_of_cell q)).trans q
      obtain ⟨g, cap, w2, hrun, hown2, hk2, hg2, hz2⟩ := append_x (P := Tryd.prog) wr 46 21 Tryd.underlying46 tinfo21 rfl (by omega) hown [.int .i32 x] rfl
        (by intro u hu; simp at hu; subst hu; rfl) (by unfold maxLen; omega) (by omega)
      have HG : Hid (OwnS (fun b => w.heap.size ≤ b) 21 1 (.slice (some ⟨g, 0, none⟩) (k + 1) cap) (k + 1) (i32s (l.take (k + 1))) w2 ∧ Below w.heap.size w w2) := Lib.hid (by
        have hge : w.heap.size ≤ g := by
          rcases hg2 with h | h
          · exact hown.2 g h
          · have := hb.size; omega
        refine ⟨?_, hb.trans (hk2.below hb.size fun b h => hown.2 b h)⟩
        have := hown2.weaken (Z := fun b => w.heap.size ≤ b) (fun b h => by subst h; exact hge)
        rw [List.take_add_one, hx]
        simpa [i32s] using this)
      have HRun := Lib.hid hrun
      clear hrun hown2 hk2 hg2 hz2 hown q ha hx
      go_wp2_with (at_builtin; refine wpList_append_eq rfl rfl rfl rfl HRun.out ?_)
      go_roundw
      case rel => exact ⟨k + 1, some ⟨g, 0, none⟩, cap, by omega, by go_num, rfl, HG.out.1, HG.out.2⟩
      case measure => simp [RowKit.intOf]; omega
    · obtain rfl : k = l.length := by omega
      rw [List.take_length] at hown
      have HO := Lib.hid hown
      have HB := Lib.hid hb
      clear hown hb
      go_wp2
      go_loopw [3, 5] (fun o i wr => ∃ (k : Nat) (ao : Option Addr) (cp m : Nat), m = l.length + k ∧ k ≤ 16 ∧ i = .int .i64 k ∧ o = .slice ao m cp ∧ OwnS (fun b => w.heap.size ≤ b) 21 1 (.slice ao m cp) m (i32s (l ++ marks k)) wr ∧ Below w.heap.size w wr)
        (fun _ i _ => 16 - (RowKit.intOf i).toNat)
      case atStart => exact ⟨0, ao, cp, _, rfl, by omega, rfl, rfl, by simpa [marks] using HO.out, HB.out⟩
      case round =>
        clear HO HB
        obtain ⟨k, ao, cp, m, hm, hk, rfl, rfl, hown, hb⟩ := hrel
        by_cases hlt : k < 16
        · obtain ⟨g, cap, w2, hrun, hown2, hk2, hg2, hz2⟩ := append_x (P := Tryd.prog) wr 46 21 Tryd.underlying46 tinfo21 rfl (by omega) hown [.int .i32 (-91000 - (k : Int))] rfl
            (by intro u hu; simp at hu; subst hu; rfl) (by unfold maxLen; omega) (by omega)
          have HG : Hid (OwnS (fun b => w.heap.size ≤ b) 21 1 (.slice (some ⟨g, 0, none⟩) (m + 1) cap) (m + 1) (i32s (l ++ marks (k + 1))) w2 ∧ Below w.heap.size w w2) := Lib.hid (by
            have hge : w.heap.size ≤ g := by
              rcases hg2 with h | h
              · exact hown.2 g h
              · have := hb.size; omega
            refine ⟨?_, hb.trans (hk2.below hb.size fun b h => hown.2 b h)⟩
            have := hown2.weaken (Z := fun b => w.heap.size ≤ b) (fun b h => by subst h; exact hge)
            rw [marks_succ]
            simpa [i32s] using this)
          have HRun := Lib.hid hrun
          have HM := Lib.hid hm
          clear hrun hown2 hk2 hg2 hz2 hown hm
          go_wp2_with (first | (go_at_call 95; refine (mark_any _ _ (by omega) (by omega)).mono ?_; rintro e w' ⟨rfl, rfl⟩) | (at_builtin; refine wpList_append_eq rfl rfl rfl rfl HRun.out ?_))
          go_roundw
          case rel => exact ⟨k + 1, some ⟨g, 0, none⟩, cap, m + 1, by have := HM.out; omega, by omega, by go_num, rfl, HG.out.1, HG.out.2⟩
          case measure => simp [RowKit.intOf]; omega
        · obtain rfl : k = 16 := by omega
          subst hm
          have HO := Lib.hid hown
          clear hown
          go_wp2
          go_ret
          exact ⟨ao, cp, rfl, HO.out, hb⟩

theorem lentRunes_any (v : Value) (l : List Int) (w : World) (h : Slg .i32 w v l) (hl : l.length ≤ 35184372087808) :
    Calls Tryd.prog 74 #[v] w fun e w' => ∃ g cap, e = .returned (.slice (some ⟨g, 0, none⟩) l.length cap) ∧ l.length + 16 ≤ cap ∧ cap ≤ 9223372036854775807 ∧ OwnS (fun b => w.heap.size ≤ b) 21 1 (.slice (some ⟨g, 0, none⟩) (l.length + 16) cap) (l.length + 16) (i32s (l ++ marks 16)) w' ∧ Below w.heap.size w w' := by
  have C := Lib.hid (fullRunes_any v l w h hl)
  obtain ⟨av, cv, rfl, h⟩ := h
  clear h
  go_enter Tryd.func74, Tryd.ntmps74
  go_wp2_with fail
  refine (C.out).mono ?_
  rintro e w1 ⟨ao, cap, rfl, hown, hb⟩
  obtain ⟨g, rfl, hcap, hcm⟩ : ∃ g, ao = some ⟨g, 0, none⟩ ∧ l.length + 16 ≤ cap ∧ cap ≤ maxLen := by
    rcases hown.1.2 with ⟨h, _⟩ | ⟨g, c, cur, h, _, _, h1, h2, _⟩
    · cases h
    · injection h with e1 e2 e3
      subst e3
      exact ⟨g, e1, h1, h2⟩
  unfold maxLen at hcm
  have HO := Lib.hid hown
  clear hown
  go_wp2
  go_ret
  exact ⟨g, cap, rfl, hcap, hcm, HO.out, hb⟩
end Go.Proofs.YtpddpglccjbpfaaDoor
