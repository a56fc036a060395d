/- How many units; are all numbers characters; a list handed in held against one read. -/
import Derived.Test.YtpddpglccjbpfaaDoorCr
import Derived.Test.YtpddpglccjbpfaaDoorCj
namespace Go.Proofs.YtpddpglccjbpfaaDoor
open Go Go.RowKit Go.Kt Go.Shelf

set_option maxRecDepth 100000 in
theorem sameRunes_g (v1 v2 : Value) (l1 l2 : List Int) (w : World) (h1 : Sl .i32 w v1 l1) (h2 : Slg .i32 w v2 l2) (m1 : l1.length ≤ 4611686018427387904) (m2 : l2.length ≤ 4611686018427387904) :
    Calls Tryd.prog 25 #[v1, v2] w (SameOut l1 l2 w) := by
  obtain ⟨a1, c1, rfl, h1⟩ := h1
  obtain ⟨a2, c2, rfl, h2⟩ := h2
  by_cases hl : l1.length = l2.length
  · have hlt : (l1.length : Int) = l2.length := by omega
    have H1 := Lib.hid h1
    have H2 := Lib.hid h2
    have HL := Lib.hid hl
    have hne : ((l1.length : Int) != l2.length) = false := by simp [hl]
    clear h1 h2 hl hlt
    go_enter Tryd.func25, Tryd.ntmps25
    go_wp2
    go_loopw [5] (fun v wr => ∃ k : Nat, k ≤ l1.length ∧ v = .int .i64 k ∧ l1.take k = l2.take k ∧ Drawn w wr) (fun v _ => l1.length - (RowKit.intOf v).toNat)
    case atStart => exact ⟨0, by omega, rfl, by simp, Drawn.refl _⟩
    case round =>
      obtain ⟨k, hk, rfl, htk, hb⟩ := hrel
      have HT := Lib.hid htk
      clear htk
      by_cases hlt : k < l1.length
      · have hlt2 : k < l2.length := by have := HL.out; omega
        obtain ⟨g1, o1, rfl, k1⟩ : ∃ g off, a1 = some ⟨g, off, none⟩ ∧ ∀ i x, l1[i]? = some x → w.cell? ⟨g, off + i, none⟩ = some (.int .i32 x) := by
          rcases H1.out with h | h
          · subst h; simp at hlt
          · exact h
        obtain ⟨b2, rfl, k2⟩ : ∃ a : Addr, a2 = some a ∧ ∀ i x, l2[i]? = some x → w.cell? (a.add i) = some (.int .i32 x) := by
          rcases H2.out with h | h
          · subst h; simp at hlt2
          · exact h
        obtain ⟨x1, e1⟩ : ∃ x, l1[k]? = some x := ⟨l1[k], List.getElem?_eq_getElem hlt⟩
        obtain ⟨x2, e2⟩ : ∃ x, l2[k]? = some x := ⟨l2[k], List.getElem?_eq_getElem hlt2⟩
        have q1 := k1 k x1 e1
        have q2 := k2 k x2 e2
        have p1 := (hb.cell _).trans q1
        have p2 := (hb.cell _).trans q2
        have E := Lib.hid (And.intro e1 e2)
        clear k1 k2 q1 q2 e1 e2
        by_cases hx : x1 = x2
        · subst hx
          have hxx : (x1 != x1) = false := by simp
          go_wp2
          go_quiet (fail)
          go_wp2
          go_roundw
          case rel =>
            refine ⟨k + 1, by omega, by go_num, ?_, hb.more _⟩
            rw [List.take_add_one, List.take_add_one, HT.out, E.out.1, E.out.2]
          case measure => simp [RowKit.intOf]; omega
        · have hxx : (x1 != x2) = true := by simp [hx]
          have hfin : decide (l1 = l2) = false := by
            simp only [decide_eq_false_iff_not]
            intro h; subst h; rw [E.out.1] at E
            exact hx (Option.some.inj E.out.2)
          go_wp2
          go_quiet (fail)
          go_wp2
          go_ret
          exact ⟨ret_b hfin.symm, hb.more _⟩
      · have hke : k = l1.length := by omega
        have hfin : decide (l1 = l2) = true := by
          have := HT.out
          rw [hke, List.take_length, HL.out, List.take_length] at this
          simpa using this
        clear hke
        go_wp2
        go_ret
        exact ⟨ret_b hfin.symm, hb⟩
  · have hne : ((l1.length : Int) != l2.length) = true := by simp; omega
    have hfin : decide (l1 = l2) = false := by
      simp only [decide_eq_false_iff_not]
      intro h; subst h; exact hl rfl
    clear h1 h2 hl
    go_enter Tryd.func25, Tryd.ntmps25
    go_wp2
    go_ret
    exact ⟨ret_b hfin.symm, Drawn.refl _⟩

set_option maxRecDepth 100000 in
theorem utfCount_any (s : ByteArray) (w : World) (hs : s.size ≤ 4611686018427387904) :
    Calls Tryd.prog 56 #[.string s] w fun e w' => e = .returned (.int .i64 ((units s).length : Nat)) ∧ Below w.heap.size w w' := by
  have hul := units_len s
  obtain ⟨R, hR⟩ : ∃ R, (units s).length = R := ⟨_, rfl⟩
  rw [hR] at hul ⊢
  have HR := Lib.hid hR
  clear hR
  go_enter Tryd.func56, Tryd.ntmps56
  go_wp2
  go_loopw [3] (fun v wr => ∃ k pos f : Nat, v = .int .i64 k ∧ k + (unitsF s f pos).length = R ∧ s.size ≤ pos + f ∧ Below w.heap.size w wr ∧ w.heap.size < wr.heap.size ∧ wr.heap[w.heap.size]? = some (.stringIter s pos))
    (fun _ wr => s.size - iterPos wr w.heap.size)
  case atStart => exact ⟨0, 0, s.size, rfl, by have := HR.out; unfold units at this; omega, by omega, (Below.refl _ w).alloc (Nat.le_refl _) (.stringIter s 0), by show w.heap.size < (w.alloc (.stringIter s 0)).heap.size; rw [World.size_alloc]; omega, World.alloc_heap_new w _⟩
  case round =>
    obtain ⟨k, pos, f, rfl, hp, hf, hb, hlt, hit⟩ := hrel
    by_cases hpos : pos < s.size
    · obtain ⟨d1, d2, d3⟩ := dec_width s pos hpos
      obtain ⟨f', rfl⟩ : ∃ f', f = f' + 1 := ⟨f - 1, by omega⟩
      have hun : unitsF s (f' + 1) pos = (pos, (Utf8.decode s pos).1) :: unitsF s f' (pos + (Utf8.decode s pos).2) := by rw [unitsF, if_pos hpos]
      rw [hun, List.length_cons] at hp
      obtain ⟨W1, hW1⟩ : ∃ W1, wr.putObj w.heap.size (.stringIter s (pos + (Utf8.decode s pos).2)) = W1 := ⟨_, rfl⟩
      have hb1 : Below w.heap.size w W1 := by rw [← hW1]; exact hb.trans (below_putObj (Nat.le_refl _) _)
      have hit1 : W1.heap[w.heap.size]? = some (.stringIter s (pos + (Utf8.decode s pos).2)) := by rw [← hW1]; exact World.putObj_heap_same hlt
      have hnx : ∀ ty, (Instr.next (.pointer (some ⟨w.heap.size, 0, none⟩)) true ty).run Tryd.prog wr = .ok (.tuple #[.bool true, .int .i64 pos, .int .i32 (Utf8.decode s pos).1]) W1 := fun ty => by
        rw [← hW1]; exact run_next_str wr w.heap.size s pos ty hit hpos
      generalize Utf8.decode s pos = dd at *
      obtain ⟨r, wd⟩ := dd
      have hkb : (k : Int) ≤ 4611686018427387904 := by omega
      have Hdat := Lib.hid (And.intro hp (And.intro hit hit1))
      clear hp hun hit hit1 hW1
      go_wp2
      go_roundw
      case rel => exact ⟨k + 1, pos + wd, f', by go_num, by have := Hdat.out.1; simp only at this; omega, by omega, hb1, (Array.getElem?_eq_some_iff.1 Hdat.out.2.2).1, Hdat.out.2.2⟩
      case measure => rw [iterPos_eq Hdat.out.2.2, iterPos_eq Hdat.out.2.1]; omega
    · have hnx : ∀ ty, (Instr.next (.pointer (some ⟨w.heap.size, 0, none⟩)) true ty).run Tryd.prog wr = .ok (.tuple #[.bool false]) wr := fun ty => run_next_str_end wr w.heap.size s pos ty hit hpos
      have hk : k = R := by
        have : unitsF s f pos = [] := by
          cases f with
          | zero => rfl
          | succ f => rw [unitsF, if_neg hpos]
        rw [this] at hp; simpa using hp
      subst hk
      clear hp hit
      go_wp2
      go_ret
      exact ⟨rfl, hb⟩

def CharsOut (l : List Int) (w : World) (e : Ending) (w' : World) : Prop := e = .returned (.bool (l.all Utf8.valid)) ∧ Drawn w w'
end Go.Proofs.YtpddpglccjbpfaaDoor
