/- The law's own: same. -/
import Derived.Test.YtmcmdijfdhlnaaaDoorNr
import Derived.Test.YtmcmdijfdhlnaaaDoorNq
namespace Go.Proofs.YtmcmdijfdhlnaaaDoor
open Go Go.RowKit Go.Kt Go.Kt.Rg

/-- The tables of layer 3 lie. -/
def REnv (w : World) : Prop := PTab w ∧ BTab w ∧ 6 < w.heap.size
theorem REnv.below {w w' : World} (h : REnv w) (hb : Below w.heap.size w w') : REnv w' :=
  ⟨h.1.next hb, fun k hk => (hb.cell (p := ⟨6, k, none⟩) h.2.2).trans (h.2.1 k hk), Nat.lt_of_lt_of_le h.2.2 hb.size⟩

set_option maxRecDepth 100000 in
set_option maxHeartbeats 2000000 in
theorem same_yes (l : List Run) (a b : Nat) (w : World) (ha : SetAt l a w) (hb : SetAt l b w) (hc : Canon l) (hE : REnv w) :
    Calls Tryd.prog 8 #[ptrV a, ptrV b] w fun e w' => e = .returned (.bool true) ∧ Below w.heap.size w w' := by
  have hlen := canon_len hc (Int.le_refl _)
  have hsl : (spansL l).length = l.length := by simp [spansL]
  have hl : (spansL l).length ≤ 1112192 := by unfold allN at hlen; omega
  obtain ⟨S, hS⟩ : ∃ S : ByteArray, (⟨(91 :: printL (spansL l) ++ [93]).toArray⟩ : ByteArray) = S := ⟨_, rfl⟩
  have C1 := Lib.hid (rSpans_any l a w ha hc hE.1)
  have C2 : Hid (∀ V, Below w.heap.size w V → Calls Tryd.prog 17 #[ptrV b] V fun e w' => ∃ ao cp, e = .returned (.slice ao l.length cp) ∧ OwnS (fun b => V.heap.size ≤ b) 40 2 (.slice ao l.length cp) l.length (encSp (spansL l)) w' ∧ Below V.heap.size V w') := Lib.hid fun V hV => rSpans_any l b V (hb.below hV) hc (hE.1.next hV)
  have C3 : Hid (∀ V c, SetAt l c w → Below w.heap.size w V → Calls Tryd.prog 16 #[ptrV c] V fun e w' => e = .returned (.string S) ∧ Below V.heap.size V w') := Lib.hid fun V c h hV => by
    have hE2 := hE.below hV
    rw [← hS]
    exact rPrint_any l c V (h.below hV) hc hE2.1 hE2.2.1 hE2.2.2
  have CS : Hid (∀ V v1 v2, SpG V v1 (spansL l) → SpG V v2 (spansL l) → Calls Tryd.prog 20 #[v1, v2] V fun e w' => e = .returned (.bool true) ∧ Drawn V w') := Lib.hid fun V v1 v2 h1 h2 => sameSpans_yes v1 v2 _ V h1 h2 (by omega)
  have HA := Lib.hid ha
  have HB := Lib.hid hb
  have SG : Hid (∀ (Y : Nat → Prop) v V, OwnS Y 40 2 v l.length (encSp (spansL l)) V → SpG V v (spansL l)) := Lib.hid fun Y v V h => spg_of_own h hsl.symm
  clear ha hb hc hE hlen hsl hl hS
  go_enter Tryd.func8, Tryd.ntmps8
  go_wp2_with fail
  refine C1.out.mono ?_
  rintro e w1 ⟨ao1, cp1, rfl, ho1, hb1⟩
  have C2' := Lib.hid (C2.out w1 hb1)
  have H1 := Lib.hid (And.intro (SG.out _ _ _ ho1) hb1)
  clear ho1 hb1
  go_wp2_with fail
  refine C2'.out.mono ?_
  rintro e w2 ⟨ao2, cp2, rfl, ho2, hb2⟩
  have hb12 := H1.out.2.trans (hb2.mono H1.out.2.size)
  have CS' := Lib.hid (CS.out w2 _ _ (H1.out.1.below hb2) (SG.out _ _ _ ho2))
  have H2 := Lib.hid hb12
  clear ho2 hb2 hb12
  go_wp2_with fail
  refine CS'.out.mono ?_
  rintro e w3 ⟨rfl, hd3⟩
  have hb3 := H2.out.trans (hd3.below.mono H2.out.size)
  have C3a := Lib.hid (C3.out w3 a HA.out hb3)
  have H3 := Lib.hid hb3
  clear hd3 hb3
  go_wp2_with fail
  refine C3a.out.mono ?_
  rintro e w4 ⟨rfl, hb4⟩
  have hb4' := H3.out.trans (hb4.mono H3.out.size)
  have C3b := Lib.hid (C3.out w4 b HB.out hb4')
  have H4 := Lib.hid hb4'
  clear hb4 hb4'
  go_wp2_with fail
  refine C3b.out.mono ?_
  rintro e w5 ⟨rfl, hb5⟩
  have hb5' := H4.out.trans (hb5.mono H4.out.size)
  have H5 := Lib.hid hb5'
  clear hb5 hb5'
  go_wp2
  go_ret
  exact ⟨rfl, H5.out⟩
end Go.Proofs.YtmcmdijfdhlnaaaDoor
