/- Parts of the proof of what the last text says. -/
import Derived.Test.YtbnnhbmnddaafaaGreatDoorGz9
import Derived.Laws.IdiomStrings
/- The scanner's piece in any state; add, since and a text's string, of a scanner that lies in memory. -/
namespace Go.Proofs.YtbnnhbmnddaafaaGreatDoor
open Go Go.RowKit Go.Kt Go.Shelf Go.Lib
attribute [local go_sem] Oper.semAt_some

theorem spiece_any (s : ByteArray) (c : Sc) (r : Int) (D g : Nat) (w0 w : World) (hD0 : D ≤ w0.heap.size) (hS : ScAt D g s c w) (hE : ∀ X, KeepG D g w0 X → SEnv X) (hW : KeepG D g w0 w) (hr : 0 ≤ r) (h92 : r = 92 → c.here.2.2 < s.size) (hi : c.here.2.2 ≤ s.size) (hs : s.size ≤ 1048576) (hm : c.text.length ≤ 8388000) :
    Calls Tryz.prog 38 #[.pointer (some ⟨g, 0, none⟩), .int .i32 r] w (PieceOut D g s w0 (pieceS s c r)) := by
  unfold pieceS
  by_cases h5 : c.st = 5
  · rw [if_pos h5]; exact piece_quoted s c r D g w0 w hD0 h5 hS hE hW hr h92 hi hs hm
  rw [if_neg h5]
  by_cases h6 : c.st = 6
  · rw [if_pos h6]; exact piece_closing s c r D g w0 w hD0 h6 hS hE hW hr h92 hi hs hm
  rw [if_neg h6]
  by_cases h7 : c.st = 7
  · rw [if_pos h7]; exact piece_escape s c r D g w0 w hD0 h7 hS hE hW hr h92 hi hs hm
  rw [if_neg h7]
  exact piece_plain s c r D g w0 w hD0 h5 h6 h7 hS hE hW hr h92 hi hs hm

theorem tksC_add (l : List Tk) (t : Tk) : tksC (l ++ [t]) = tksC l ++ tkC t := by simp [tksC]

theorem add_any (s : ByteArray) (c : Sc) (kind : Nat) (t : ByteArray) (g D : Nat) (w0 w : World) (hS : ScAt D g s c w) (hW : KeepG D g w0 w) (hD : D ≤ w.heap.size) (hn : c.toks.length ≤ 2097152) (ht : t.size ≤ 140737488351232) :
    Calls Tryz.prog 39 #[.pointer (some ⟨g, 0, none⟩), .int .i64 (kind : Nat), .string t] w fun e w' => e = .returned (.tuple #[]) ∧ ScAt D g s (addT c kind t.data.toList) w' ∧ KeepG D g w0 w' ∧ D ≤ w'.heap.size := by
  obtain ⟨tv, kv, hg, hDg, hR⟩ := hS
  have hR : Rows D g tv kv c.text c.toks w := hR
  refine (add_raw s _ _ _ _ _ _ _ _ _ _ _ tv kv g w (kind : Nat) t c.toks.length (tksC c.toks) hg (hR.2.weaken fun _ h => h.2.1) hn ht).mono ?_
  rintro e w' ⟨rfl, kv', hg', ho, hk⟩
  refine ⟨rfl, ?_, hW.trans (hR.belowk hD hDg hk), Nat.le_trans hD hk.size⟩
  have e1 : c.toks.length + 1 = (addT c kind t.data.toList).toks.length := by simp [addT]
  have e2 : tksC c.toks ++ [.int .i64 (kind : Nat), .string t, .int .i64 (c.from.1 : Nat), .int .i64 (c.from.2.1 : Nat), .int .i64 (c.from.2.2 : Nat)] = tksC (addT c kind t.data.toList).toks := by
    unfold addT
    simp only
    rw [tksC_add]
    rfl
  rw [e2] at ho
  exact .of (c := addT c kind t.data.toList) hg' hDg (hR.toks hD hk (by rw [← e1]; exact ho))

theorem conv_own {Y : Nat → Prop} {v : Value} {x : List UInt8} {w : World} (h : OwnS Y 5 1 v x.length (u8V x) w) : (convert 35 9 v).run Tryz.prog w = .ok (.string ⟨x.toArray⟩) w := by
  rcases h.shape with ⟨h1, h2⟩ | ⟨g, cap, h1, h2⟩
  · subst h1
    have hx : x = [] := List.eq_nil_of_length_eq_zero (by omega)
    subst hx
    exact run_convert_bytes_nil (w := w) _ 5 Tryz.underlying35 Tryz.underlying5 0 0 _ Tryz.underlying9
  · subst h1
    refine run_convert_bytes_back w _ _ 5 ⟨g, 0, none⟩ cap x Tryz.underlying35 Tryz.underlying5 Tryz.underlying9 fun j hj => ?_
    have := h.at0 (i := j) (u := .int .u8 (x[j].toNat : Int)) (by simp [u8V, List.getElem?_map, List.getElem?_eq_getElem hj])
    by_cases h0 : j = 0
    · subst h0; simpa [Addr.add] using this
    · simpa [Addr.add, h0] using this

theorem sgs_rest {r : Int} (h : isSgs r = true) (hs : isSgn (encL r) = false) (h35 : r ≠ 35) (h91 : r ≠ 91) (h93 : r ≠ 93) (h42 : r ≠ 42) (h39 : r ≠ 39) (h92 : r ≠ 92) : False := by
  unfold isSgs sgsI at h
  simp only [List.contains_cons, List.contains_nil, Bool.or_false, Bool.or_eq_true, beq_iff_eq] at h
  rcases h with rfl | rfl | rfl | rfl | rfl | rfl | rfl | rfl | rfl | rfl | rfl <;> first | contradiction | exact absurd hs (by decide)
theorem plain_left {s : ByteArray} {c c' : Sc} {r : Int} (h : plainS s c r = .left c') (hb : isBlk r = false) (hs : isSgn (encL r) = false) (h35 : r ≠ 35) (h91 : r ≠ 91) (h93 : r ≠ 93) (h42 : r ≠ 42) : False := by
  unfold plainS at h
  split at h
  · cases h
  · split at h
    · split at h <;> cases h
    · rw [if_neg (by rw [hb]; decide)] at h
      split at h
      · rename_i a b c
        exact sgs_rest c hs h35 h91 h93 h42 a b
      · cases h
end Go.Proofs.YtbnnhbmnddaafaaGreatDoor
