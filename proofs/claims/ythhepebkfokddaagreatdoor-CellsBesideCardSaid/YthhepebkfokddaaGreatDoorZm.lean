/- The document's answer for props: Parse. -/
import Derived.Test.YthhepebkfokddaaGreatDoorZf
import Derived.Test.YthhepebkfokddaaGreatDoorZl
import Derived.Test.YthhepebkfokddaaGreatDoorZg
import Derived.Test.YthhepebkfokddaaGreatDoorLk
namespace Go.Proofs.YthhepebkfokddaaGreatDoor
open Go Go.RowKit Go.Kt Go.Kt.Rg Go.Maps

theorem results_tc {P : Program} {fn : Func} {p a : Tmp} {ty : TypeId} (h : fn.results = #[.tmp a, .cell p ty]) (tmps : Array Value) (w : World) (g : Nat) (t : TypeId) (cs : Array Value) (fr : Nat × Nat) (d : TypeDesc)
    (hp : tmps.getD p undef = .pointer (some ⟨g, 0, none⟩)) (hg : w.heap[g]? = some (.cells cs t fr))
    (hu : P.underlying ty = some d) (hd : (match d with | .struct _ | .array _ _ => true | _ => false) = true) (hi : (P.info? ty).map (·.size) = some cs.size) :
    (results fn tmps).run P w = .ok (.tuple #[tmps.getD a undef, .agg cs]) w := by
  have hp' : tmps[p]?.getD undef = .pointer (some ⟨g, 0, none⟩) := by simpa using hp
  simp [results, h, hp', asAddr, run_loadVar_row w g t ty cs fr d hg hu hd hi]
theorem fault_w {W : World} {rb : Nat} {a b : Value} (h : W.heap[rb]? = some (.cells #[a, b] 74 (0, 0))) (x : Value) : W.cell? ⟨rb, 0, none⟩ = some a ∧ W.frozen? ⟨rb, 0, none⟩ = false ∧ (W.setCell ⟨rb, 0, none⟩ x).cell? ⟨rb, 1, none⟩ = some b ∧ (W.setCell ⟨rb, 0, none⟩ x).frozen? ⟨rb, 1, none⟩ = false := by
  have h1 := heap_setCell_same W rb 0 _ _ x h
  exact ⟨by rw [Lib.cell_of_heap h]; rfl, Lib.frozen_of_heap h _, by rw [Lib.cell_of_heap h1]; rfl, Lib.frozen_of_heap h1 _⟩
theorem fault_k (W : World) (rb : Nat) (x y : Value) : Keep (fun b => b = rb) W ((W.setCell ⟨rb, 0, none⟩ x).setCell ⟨rb, 1, none⟩ y) :=
  (Keep.setCell (X := fun b => b = rb) (Keep.refl _ W) (p := ⟨rb, 0, none⟩) rfl x).trans (Keep.setCell (X := fun b => b = rb) (Keep.refl _ _) (p := ⟨rb, 1, none⟩) rfl y)
def FineX (S : RdS) (w : World) (e : Ending) (w' : World) : Prop :=
  ∃ g X cv kv fv dv B0 ρ, e = .returned (.tuple #[.pointer (some ⟨g, 0, none⟩), .agg #[.int .i64 0, .int .i64 0]]) ∧ PxW B0 ρ g X cv kv fv dv w' ∧ XRel X S ∧ (X.fl.length ≤ 65536 ∧ X.dl.length ≤ 65536) ∧ Below w.heap.size w w'
def ParseX (l : List UInt8) (w : World) (e : Ending) (w' : World) : Prop :=
  ∃ no line S L, ParseR l no line S L ∧ ((no = 0 ∧ FineX S w e w') ∨ (no ≠ 0 ∧ Below w.heap.size w w' ∧ e = .returned (.tuple #[.pointer none, .agg #[.int .i64 (no : Nat), .int .i64 (line : Nat)]])))
def RdI (l : List UInt8) (i : Nat) (S : RdS) : Prop := readP 0 rd0 (linesP l) = readP i S ((linesP l).drop i) ∧ RdOk i S
theorem rdI0 (l : List UInt8) : RdI l 0 rd0 := ⟨by rw [List.drop_zero], rd0_ok⟩
theorem RdI.step {l : List UInt8} {i : Nat} {S : RdS} {x : List UInt8} (h : RdI l i S) (hx : (linesP l)[i]? = some x) (h0 : (takeP (i + 1) S (wrdP x)).1 = 0) : RdI l (i + 1) (takeP (i + 1) S (wrdP x)).2 := by
  obtain ⟨q1, q2⟩ := List.getElem?_eq_some_iff.1 hx
  refine ⟨?_, takeP_ok h.2 h0⟩
  rw [h.1, List.drop_eq_getElem_cons q1, q2, readP, if_neg (by simpa using h0)]
theorem RdI.bad {l : List UInt8} {i no : Nat} {S : RdS} {x : List UInt8} (h : RdI l i S) (hx : (linesP l)[i]? = some x) (h0 : (takeP (i + 1) S (wrdP x)).1 = no) (hn : no ≠ 0) (hsz : ¬ (1048576 < l.length ∨ 65536 < lnC l)) : ParseR l no (i + 1) S [] := by
  obtain ⟨q1, q2⟩ := List.getElem?_eq_some_iff.1 hx
  have hr : readP 0 rd0 (linesP l) = (no, i + 1, S) := by
    rw [h.1, List.drop_eq_getElem_cons q1, q2, readP, if_pos (by rw [h0]; exact hn), h0]
  exact .inr (.inl ⟨hsz, by rw [hr]; exact hn, by rw [hr], by rw [hr]⟩)
theorem RdI.done {l : List UInt8} {S : RdS} (h : RdI l (linesP l).length S) : (readP 0 rd0 (linesP l)).1 = 0 ∧ S = (readP 0 rd0 (linesP l)).2.2 := by
  rw [h.1, List.drop_eq_nil_of_le (Nat.le_refl _)]
  exact ⟨rfl, rfl⟩
theorem lnC_le (m : List UInt8) : lnC m ≤ m.length := by
  rw [← linesP_len]
  have : ∀ (n : Nat) (l : List UInt8), l.length ≤ n → (linesP l).length ≤ l.length := by
    intro n
    induction n with
    | zero =>
      intro l hl
      obtain rfl : l = [] := List.length_eq_zero_iff.1 (by omega)
      simp [linesP_nil]
    | succ n ih =>
      intro l hl
      rcases line_cut l with h | ⟨c, rest, rfl, h2, h3⟩
      · rw [lines_one l h]
        split
        · simp
        · rename_i hne
          have := List.length_pos_iff.2 hne
          simp; omega
      · rw [lines_cons c rest h2]
        have := ih rest (by omega)
        simp; omega
  exact this m.length m (Nat.le_refl _)
theorem pxw0 {w W : World} (hW : W = w.alloc (.cells #[.slice none 0 0, .slice none 0 0, .slice none 0 0, .slice none 0 0] 115)) : PxW w.heap.size (fun b => if b = w.heap.size then 1 else 0) w.heap.size ⟨[], [], [], []⟩ (.slice none 0 0) (.slice none 0 0) (.slice none 0 0) (.slice none 0 0) W := by
  subst hW
  exact {
    hr := fun b hb => by
      by_cases h : b = w.heap.size
      · omega
      · simp only [if_neg h] at hb; omega
    hB := by rw [World.size_alloc]; omega
    rg := if_pos rfl
    cell := heap_alloc_new _ _
    c := own_nil _ _ _ _
    k := own_nil _ _ _ _
    f := ⟨[], rfl, own_nil _ _ _ _, fun p hp => by cases hp⟩
    d := ⟨[], rfl, own_nil _ _ _ _, fun p hp => by cases hp⟩ }
theorem XRel.lens {X : XdS} {S : RdS} (h : XRel X S) {k : Nat} (hS : RdOk k S) : (X.cs.length ≤ k ∧ X.ks.length ≤ k) ∧ (∀ x ∈ X.dl, x.2.1.length ≤ 1048576 ∧ (∀ z ∈ x.2.1, z ≤ 1114111) ∧ x.1 ≤ 1114111) := by
  refine ⟨⟨by rw [← h.cs]; exact hS.cs.1, by rw [← h.ks]; exact hS.ks.1⟩, fun x hx => ?_⟩
  obtain ⟨q1, q2, q3⟩ := hS.ds _ _ (h.at hx).1
  exact ⟨by omega, fun z hz => valid_le (q3 z hz), valid_le q1.1⟩
end Go.Proofs.YthhepebkfokddaaGreatDoor
