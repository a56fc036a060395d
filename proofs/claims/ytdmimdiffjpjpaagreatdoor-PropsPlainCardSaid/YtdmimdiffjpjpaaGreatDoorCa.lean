/- Lists that are read: two held against each other; a text of numbers; one unit; whether a text is right. -/
import Derived.Test.YtdmimdiffjpjpaaGreatDoorProg
import Derived.Test.YtdmimdiffjpjpaaGreatDoorGz1
import Derived.Test.YtdmimdiffjpjpaaGreatDoorGz5
import Derived.Lib.Hide
import Derived.Deep.QuietTactic
import Derived.BigQuiet
namespace Go.Proofs.YtdmimdiffjpjpaaGreatDoor
open Go Go.RowKit Go.Kt

/-- v is read as the numbers l. -/
def Sl (k : IntKind) (W : World) (v : Value) (l : List Int) : Prop :=
  ∃ ao cap, v = .slice ao l.length cap ∧ (l = [] ∨ ∃ g off, ao = some ⟨g, off, none⟩ ∧ ∀ i x, l[i]? = some x → W.cell? ⟨g, off + i, none⟩ = some (.int k x))

theorem Sl.keep {k : IntKind} {X : Nat → Prop} {A B : World} {v : Value} {l : List Int} (h : Sl k A v l) (hk : Keep X A B) (hX : ∀ ao n cap, v = .slice ao n cap → ∀ g off, ao = some ⟨g, off, none⟩ → ¬ X g) : Sl k B v l := by
  obtain ⟨ao, cap, rfl, h⟩ := h
  refine ⟨ao, cap, rfl, ?_⟩
  rcases h with h | ⟨g, off, rfl, h⟩
  · exact .inl h
  · exact .inr ⟨g, off, rfl, fun i x hx => hk.cell (h i x hx) (hX _ _ _ rfl g off rfl)⟩
theorem Sl.below {k : IntKind} {A B : World} {v : Value} {l : List Int} (h : Sl k A v l) (hb : Below A.heap.size A B) : Sl k B v l := h.keep (X := fun _ => False) (.of_all hb) (fun _ _ _ _ _ _ _ h => h)

theorem ret_b {a b : Bool} (h : a = b) : Ending.returned (.bool a) = .returned (.bool b) := by rw [h]
def Drawn (w w' : World) : Prop := ∃ n, w' = w.drewN n
theorem Drawn.below {w w' : World} (h : Drawn w w') : Below w.heap.size w w' := by obtain ⟨n, rfl⟩ := h; exact ⟨rfl, rfl, rfl, Nat.le_refl _, fun _ _ => rfl⟩
theorem Drawn.more {w w' : World} (h : Drawn w w') (n : Nat) : Drawn w (w'.drewN n) := by obtain ⟨m, rfl⟩ := h; exact ⟨m + n, World.drewN_drewN ..⟩
theorem Drawn.refl (w : World) : Drawn w w := ⟨0, rfl⟩
theorem Drawn.cell {w w' : World} (h : Drawn w w') (p : Addr) : w'.cell? p = w.cell? p := by obtain ⟨n, rfl⟩ := h; rfl
def SameOut (l1 l2 : List Int) (w : World) (e : Ending) (w' : World) : Prop := e = .returned (.bool (decide (l1 = l2))) ∧ Drawn w w'

set_option maxRecDepth 100000 in
theorem sameRunes_any (v1 v2 : Value) (l1 l2 : List Int) (w : World) (h1 : Sl .i32 w v1 l1) (h2 : Sl .i32 w v2 l2) (m1 : l1.length ≤ 4611686018427387904) (m2 : l2.length ≤ 4611686018427387904) :
    Calls Tryz.prog 16 #[v1, v2] w (SameOut l1 l2 w) := by
  obtain ⟨a1, c1, rfl, h1⟩ := h1
  obtain ⟨a2, c2, rfl, h2⟩ := h2
  by_cases hl : l1.length = l2.length
  · have hlt : (l1.length : Int) = l2.length := by omega
    have H1 := Lib.hid h1
    have H2 := Lib.hid h2
    have HL := Lib.hid hl
    have hne : ((l1.length : Int) != l2.length) = false := by simp [hl]
    clear h1 h2 hl hlt
    go_enter Tryz.func16, Tryz.ntmps16
    go_wp2
    go_loopw [5] (fun v wr => ∃ k : Nat, k ≤ l1.length ∧ v = .int .i64 k ∧ l1.take k = l2.take k ∧ Drawn w wr) (fun v _ => l1.length - (RowKit.intOf v).toNat)
    case atStart => exact ⟨0, by omega, rfl, by simp, Drawn.refl _⟩
    case round =>
      obtain ⟨k, hk, rfl, htk, hb⟩ := hrel
      have HT := Lib.hid htk
      clear htk
      by_cases hlt : k < l1.length
      · have hlt2 : k < l2.length := by have := HL.out; omega
        obtain ⟨g1, o1, rfl, k1⟩ : ∃ g off, a1 = some ⟨g, off, none⟩ ∧ ∀ i x, l1[i]? = some x → w.cell? ⟨g, off + i, none⟩ = some (.int .i32 x) := by
          rcases H1.out with h | h
          · subst h; simp at hlt
          · exact h
        obtain ⟨g2, o2, rfl, k2⟩ : ∃ g off, a2 = some ⟨g, off, none⟩ ∧ ∀ i x, l2[i]? = some x → w.cell? ⟨g, off + i, none⟩ = some (.int .i32 x) := by
          rcases H2.out with h | h
          · subst h; simp at hlt2
          · exact h
        obtain ⟨x1, e1⟩ : ∃ x, l1[k]? = some x := ⟨l1[k], List.getElem?_eq_getElem hlt⟩
        obtain ⟨x2, e2⟩ : ∃ x, l2[k]? = some x := ⟨l2[k], List.getElem?_eq_getElem hlt2⟩
        have q1 := k1 k x1 e1
        have q2 := k2 k x2 e2
        have p1 := (hb.cell _).trans q1
        have p2 := (hb.cell _).trans q2
        have E := Lib.hid (And.intro e1 e2)
        clear k1 k2 q1 q2 e1 e2
        by_cases hx : x1 = x2
        · subst hx
          have hxx : (x1 != x1) = false := by simp
          go_wp2
          go_quiet (fail)
          go_wp2
          go_roundw
          case rel =>
            refine ⟨k + 1, by omega, by go_num, ?_, hb.more _⟩
            rw [List.take_add_one, List.take_add_one, HT.out, E.out.1, E.out.2]
          case measure => simp [RowKit.intOf]; omega
        · have hxx : (x1 != x2) = true := by simp [hx]
          have hfin : decide (l1 = l2) = false := by
            simp only [decide_eq_false_iff_not]
            intro h; subst h; rw [E.out.1] at E
            exact hx (Option.some.inj E.out.2)
          go_wp2
          go_quiet (fail)
          go_wp2
          go_ret
          exact ⟨ret_b hfin.symm, hb.more _⟩
      · have hke : k = l1.length := by omega
        have hfin : decide (l1 = l2) = true := by
          have := HT.out
          rw [hke, List.take_length, HL.out, List.take_length] at this
          simpa using this
        clear hke
        go_wp2
        go_ret
        exact ⟨ret_b hfin.symm, hb⟩
  · have hne : ((l1.length : Int) != l2.length) = true := by simp; omega
    have hfin : decide (l1 = l2) = false := by
      simp only [decide_eq_false_iff_not]
      intro h; subst h; exact hl rfl
    clear h1 h2 hl
    go_enter Tryz.func16, Tryz.ntmps16
    go_wp2
    go_ret
    exact ⟨ret_b hfin.symm, Drawn.refl _⟩
end Go.Proofs.YtdmimdiffjpjpaaGreatDoor
