/- Whether a text is right; the text of numbers; one unit held; the ill-formed pieces held. -/
import Derived.Test.YtgjhingjheplfaaDoorCa
import Derived.Test.YtgjhingjheplfaaDoorX
import Derived.Test.YtgjhingjheplfaaDoorU
import Derived.Test.YtgjhingjheplfaaDoorK3
import Derived.Laws.Cover4
namespace Go.Proofs.YtgjhingjheplfaaDoor
open Go Go.RowKit Go.Kt Go.Shelf

def okF (s : ByteArray) : Nat → Nat → Bool
  | 0, _ => true
  | f + 1, i => if i < s.size then (if illB s i then false else okF s f (i + (Utf8.decode s i).2)) else true
/-- Is nothing ill-formed in it? -/
def okB (s : ByteArray) : Bool := okF s s.size 0

set_option maxRecDepth 100000 in
theorem utfValid_any (s : ByteArray) (w : World) (hT : Lib.Utf8Tabs 0 1 w) (h2 : 2 ≤ w.heap.size) (hs : s.size ≤ 4611686018427387904) :
    Calls Tryd.prog 21 #[.string s] w fun e w' => e = .returned (.bool (okB s)) ∧ Below w.heap.size w w' := by
  have HT := Lib.hid hT; clear hT
  obtain ⟨R, hR⟩ : ∃ R, okB s = R := ⟨_, rfl⟩
  rw [hR]
  have HR := Lib.hid hR
  clear hR
  go_enter Tryd.func21, Tryd.ntmps21
  go_wp2
  go_loopw [3] (fun _ wr => ∃ pos f : Nat, okF s f pos = R ∧ s.size ≤ pos + f ∧ Below w.heap.size w wr ∧ w.heap.size < wr.heap.size ∧ wr.heap[w.heap.size]? = some (.stringIter s pos))
    (fun _ wr => s.size - iterPos wr w.heap.size)
  case atStart => exact ⟨0, s.size, HR.out, by omega, (Below.refl _ w).alloc (Nat.le_refl _) (.stringIter s 0), by show w.heap.size < (w.alloc (.stringIter s 0)).heap.size; rw [World.size_alloc]; omega, World.alloc_heap_new w _⟩
  case round =>
    obtain ⟨pos, f, hp, hf, hb, hlt, hit⟩ := hrel
    by_cases hpos : pos < s.size
    · obtain ⟨d1, d2, d3⟩ := dec_width s pos hpos
      obtain ⟨f', rfl⟩ : ∃ f', f = f' + 1 := ⟨f - 1, by omega⟩
      have hun : okF s (f' + 1) pos = if illB s pos then false else okF s f' (pos + (Utf8.decode s pos).2) := by rw [okF, if_pos hpos]
      rw [hun] at hp
      obtain ⟨W1, hW1⟩ : ∃ W1, wr.putObj w.heap.size (.stringIter s (pos + (Utf8.decode s pos).2)) = W1 := ⟨_, rfl⟩
      have hb1 : Below w.heap.size w W1 := by rw [← hW1]; exact hb.trans (below_putObj (Nat.le_refl _) _)
      have hit1 : W1.heap[w.heap.size]? = some (.stringIter s (pos + (Utf8.decode s pos).2)) := by rw [← hW1]; exact World.putObj_heap_same hlt
      have hlt1 : w.heap.size < W1.heap.size := (Array.getElem?_eq_some_iff.1 hit1).1
      have hnx : ∀ ty, (Instr.next (.pointer (some ⟨w.heap.size, 0, none⟩)) true ty).run Tryd.prog wr = .ok (.tuple #[.bool true, .int .i64 pos, .int .i32 (Utf8.decode s pos).1]) W1 := fun ty => by
        rw [← hW1]; exact run_next_str wr w.heap.size s pos ty hit hpos
      have c := Lib.hid (ill_any s pos W1 hpos (tabs_below HT.out h2 hb1) hs)
      generalize Utf8.decode s pos = dd at *
      obtain ⟨r, wd⟩ := dd
      have Hdat := Lib.hid (And.intro hp (And.intro hit hit1))
      clear hp hun hit hit1 hW1
      generalize hbad : illB s pos = bad at *
      have HB := Lib.hid hbad
      clear hbad
      cases bad
      · go_wp2_with fail
        refine (c.out).mono ?_
        rintro e W2 ⟨rfl, hb2'⟩
        obtain ⟨hp, hit, hit1⟩ := Hdat.out
        have hit2 : W2.heap[w.heap.size]? = some (.stringIter s (pos + wd)) := (hb2'.block _ hlt1).trans hit1
        have hb2 := hb1.trans (hb2'.mono (by omega))
        go_wp2
        go_roundw
        case rel => exact ⟨pos + wd, f', by simpa using hp, by omega, hb2, (Array.getElem?_eq_some_iff.1 hit2).1, hit2⟩
        case measure => rw [iterPos_eq hit2, iterPos_eq hit]; omega
      · go_wp2_with fail
        refine (c.out).mono ?_
        rintro e W2 ⟨rfl, hb2'⟩
        have hb2 := hb1.trans (hb2'.mono (by omega))
        have hRf : R = false := by have := Hdat.out.1; simpa using this.symm
        go_wp2
        go_ret
        exact ⟨ret_b hRf.symm, hb2⟩
    · have hnx : ∀ ty, (Instr.next (.pointer (some ⟨w.heap.size, 0, none⟩)) true ty).run Tryd.prog wr = .ok (.tuple #[.bool false]) wr := fun ty => run_next_str_end wr w.heap.size s pos ty hit hpos
      have hRt : R = true := by
        rw [← hp]
        cases f with
        | zero => rfl
        | succ f => rw [okF, if_neg hpos]
      have HRt := Lib.hid hRt
      clear hp hit hRt
      go_wp2
      go_ret
      exact ⟨ret_b HRt.out.symm, hb⟩

/-- The text of numbers. -/
theorem text_run (v : Value) (l : List Int) (w : World) (h : Sl .i32 w v l) : (convert 23 9 v).run Tryd.prog w = .ok (.string (runesBytes l)) w := by
  obtain ⟨ao, cap, rfl, h⟩ := h
  rcases h with rfl | ⟨g, off, rfl, h⟩
  · cases ao with
    | none => exact run_convert_runes_nil w 23 9 21 _ _ Tryd.underlying23 Tryd.underlying21 Tryd.underlying9
    | some a => exact run_convert_runes w 23 9 21 a 0 cap [] (Nat.le_refl _) Tryd.underlying23 Tryd.underlying21 Tryd.underlying9 (fun j hj => by simp at hj)
  · have := run_convert_runes w 23 9 21 ⟨g, off, none⟩ l.length cap l (Nat.le_refl _) Tryd.underlying23 Tryd.underlying21 Tryd.underlying9 (fun j hj => by
      rw [Addr.add_lit]
      exact h j _ (by rw [List.getD_eq_getElem?_getD, List.getElem?_eq_getElem hj]; rfl))
    rwa [List.take_length] at this

theorem utfText_any (v : Value) (l : List Int) (w : World) (h : Sl .i32 w v l) :
    Calls Tryd.prog 33 #[v] w fun e w' => e = .returned (.string (runesBytes l)) ∧ w = w' := by
  have hcv := text_run v l w h
  clear h
  go_enter Tryd.func33, Tryd.ntmps33
  go_wp2_with (simp only [hcv])
  all_goals (go_ret; exact ⟨rfl, rfl⟩)

/-- What a slice of its own row is read as. -/
theorem sl_of_own {k : IntKind} {Y : Nat → Prop} {e : TypeId} {v : Value} {n : Nat} {l : List Int} {W : World} (h : OwnS Y e 1 v n (l.map fun x => .int k x) W) (hl : l.length = n) : Sl k W v l := by
  subst hl
  rcases h.1.2 with ⟨hv, hn⟩ | ⟨g, cap, cur, hv, rest⟩
  · exact ⟨none, 0, by rw [hv, hn], .inl (List.eq_nil_of_length_eq_zero hn)⟩
  · refine ⟨_, cap, hv, .inr ⟨g, 0, rfl, fun i x hx => ?_⟩⟩
    have hc := h.1.cells (g := g) (by rw [hv]; rfl)
    have c1 := hc i (.int k x) (by simp [hx])
    rw [Addr.add_lit] at c1
    exact c1
end Go.Proofs.YtgjhingjheplfaaDoor
