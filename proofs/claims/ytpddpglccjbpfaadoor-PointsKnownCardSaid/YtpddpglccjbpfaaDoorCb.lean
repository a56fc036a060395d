/- Whether a text is right; the text of numbers; one unit held; the ill-formed pieces held. -/
import Derived.Test.YtpddpglccjbpfaaDoorCa
import Derived.Test.YtpddpglccjbpfaaDoorX
import Derived.Test.YtpddpglccjbpfaaDoorU
import Derived.Test.YtpddpglccjbpfaaDoorK3
import Derived.Laws.Cover4
namespace Go.Proofs.YtpddpglccjbpfaaDoor
open Go Go.RowKit Go.Kt Go.Shelf

def okF (s : ByteArray) : Nat → Nat → Bool
  | 0, _ => true
  | f + 1, i => if i < s.size then (if illB s i then false else okF s f (i + (Utf8.decode s i).2)) else true
/-- Is nothing ill-formed in it? -/
def okB (s : ByteArray) : Bool := okF s s.size 0

/-- The text of numbers. -/
theorem text_run (v : Value) (l : List Int) (w : World) (h : Sl .i32 w v l) : (convert 46 9 v).run Tryd.prog w = .ok (.string (runesBytes l)) w := by
  obtain ⟨ao, cap, rfl, h⟩ := h
  rcases h with rfl | ⟨g, off, rfl, h⟩
  · cases ao with
    | none => exact run_convert_runes_nil w 46 9 21 _ _ Tryd.underlying46 Tryd.underlying21 Tryd.underlying9
    | some a => exact run_convert_runes w 46 9 21 a 0 cap [] (Nat.le_refl _) Tryd.underlying46 Tryd.underlying21 Tryd.underlying9 (fun j hj => by simp at hj)
  · have := run_convert_runes w 46 9 21 ⟨g, off, none⟩ l.length cap l (Nat.le_refl _) Tryd.underlying46 Tryd.underlying21 Tryd.underlying9 (fun j hj => by
      rw [Addr.add_lit]
      exact h j _ (by rw [List.getD_eq_getElem?_getD, List.getElem?_eq_getElem hj]; rfl))
    rwa [List.take_length] at this

/-- What a slice of its own row is read as. -/
theorem sl_of_own {k : IntKind} {Y : Nat → Prop} {e : TypeId} {v : Value} {n : Nat} {l : List Int} {W : World} (h : OwnS Y e 1 v n (l.map fun x => .int k x) W) (hl : l.length = n) : Sl k W v l := by
  subst hl
  rcases h.1.2 with ⟨hv, hn⟩ | ⟨g, cap, cur, hv, rest⟩
  · exact ⟨none, 0, by rw [hv, hn], .inl (List.eq_nil_of_length_eq_zero hn)⟩
  · refine ⟨_, cap, hv, .inr ⟨g, 0, rfl, fun i x hx => ?_⟩⟩
    have hc := h.1.cells (g := g) (by rw [hv]; rfl)
    have c1 := hc i (.int k x) (by simp [hx])
    rw [Addr.add_lit] at c1
    exact c1
end Go.Proofs.YtpddpglccjbpfaaDoor
