/- Join, Of. -/
import Derived.Test.YtmcmdijfdhlnaaaDoorNj
import Derived.StillTailTactics
namespace Go.Proofs.YtmcmdijfdhlnaaaDoor
open Go Go.RowKit Go.Kt Go.Kt.Rg

theorem slr_slice {W : World} {v : Value} {l : List Run} (h : SlR W v l) : ∃ ao cap, v = .slice ao l.length cap := by
  obtain ⟨ao, cap, rfl, _⟩ := h
  exact ⟨_, _, rfl⟩

set_option maxRecDepth 100000 in
set_option maxHeartbeats 2000000 in
theorem rjoin_any (s t : List Run) (b c : Nat) (w : World) (h : SetAt s b w) (k : SetAt t c w) (hs : Canon s) (ht : Canon t) :
    Calls Tryd.prog 9 #[ptrV b, ptrV c] w (MadeS (joinL s t) w) := by
  have hlen := canon_len hs (Int.le_refl _)
  have hlen2 := canon_len ht (Int.le_refl _)
  have hl : s.length ≤ 1112192 := by unfold allN at hlen; omega
  have hl2 : t.length ≤ 1112192 := by unfold allN at hlen2; omega
  obtain ⟨v1, h1, h2⟩ := h
  obtain ⟨v2, k1, k2⟩ := k
  have l1 : b < w.heap.size := lt_of_cell h1
  have l2 : c < w.heap.size := lt_of_cell k1
  obtain ⟨a1, d1, rfl⟩ := slr_slice h2
  obtain ⟨a2, d2, rfl⟩ := slr_slice k2
  obtain ⟨n1, hn1⟩ : ∃ n, s.length = n := ⟨_, rfl⟩
  obtain ⟨n2, hn2⟩ : ∃ n, t.length = n := ⟨_, rfl⟩
  rw [hn1] at h1 h2 hl
  rw [hn2] at k1 k2 hl2
  obtain ⟨nL, hnL⟩ : ∃ nL, (s ++ t).length = nL := ⟨_, rfl⟩
  have CC : Hid (Calls Tryd.prog 22 #[.slice (some ⟨w.heap.size, 0, none⟩) 2 2] ((w.alloc (.cells #[.slice a1 n1 d1, .slice a2 n2 d2] 47)).drew) fun e w' => ∃ ao cp, e = .returned (.slice ao nL cp) ∧ OwnS (fun b => w.heap.size ≤ b) 51 2 (.slice ao nL cp) nL (encR (s ++ t)) w' ∧ Below w.heap.size w w') := Lib.hid (by
    have hbA : Below w.heap.size w ((w.alloc (.cells #[.slice a1 n1 d1, .slice a2 n2 d2] 47)).drew) := below_drewN ((Below.refl _ w).alloc (Nat.le_refl _) _) 1
    have hh : ((w.alloc (.cells #[.slice a1 n1 d1, .slice a2 n2 d2] 47)).drew).heap[w.heap.size]? = _ := World.alloc_heap_new w (.cells #[.slice a1 n1 d1, .slice a2 n2 d2] 47)
    rw [← hnL]
    refine (rconcat_any s t _ _ w.heap.size _ (by rw [Lib.cell_of_heap hh]; rfl) (by rw [Lib.cell_of_heap hh]; rfl) (h2.below hbA) (k2.below hbA) (by rw [hn1]; exact hl) (by rw [hn2]; exact hl2)).mono ?_
    rintro e w' ⟨v, rfl, ho, hb⟩
    obtain ⟨ao, cp, rfl⟩ := own_slice ho
    exact ⟨ao, cp, rfl, ho.weaken (fun b hb => Nat.le_trans hbA.size hb), hbA.trans (hb.mono hbA.size)⟩)
  have CM : Hid (∀ (ao : Option Addr) (cp : Nat) (V : World), OwnS (fun b => w.heap.size ≤ b) 51 2 (.slice ao nL cp) nL (encR (s ++ t)) V → Below w.heap.size w V →
      Calls Tryd.prog 21 #[.slice ao nL cp] V fun e w' => ∃ v, e = .returned v ∧ SlR w' v (joinL s t) ∧ Below w.heap.size w w') := Lib.hid fun ao cp V ho hb => by
    refine (rmelted_any (s ++ t) ao _ cp V ho hnL.symm (by rw [← hnL, List.length_append, hn1, hn2]; omega) (hs.fit.append ht.fit)).mono ?_
    rintro e w' ⟨ap, m, cap, rfl, hm, hown, hk⟩
    exact ⟨_, rfl, slr_of_own hown hm, hb.trans (hk.below hb.size fun b h => ho.2 b h)⟩
  have FIN : Hid (∀ (v : Value) (V : World), SlR V v (joinL s t) → Below w.heap.size w V → MadeS (joinL s t) w (.returned (.pointer (some ⟨V.heap.size, 0, none⟩))) (V.alloc (.cells #[v] 53))) :=
    Lib.hid fun v V hS hb => ⟨V.heap.size, rfl, set_box hS, hb.alloc hb.size _⟩
  clear h2 k2 hs ht hlen hlen2 hn1 hn2 hnL
  go_enter Tryd.func9, Tryd.ntmps9
  go_wp2
  go_still_tail 8, (by kernel_rfl)
  go_wp2_with fail
  refine CC.out.mono ?_
  rintro e w1 ⟨ao, cp, rfl, ho, hb⟩
  have C2 := Lib.hid (CM.out _ _ _ ho hb)
  clear ho hb
  go_wp2_with fail
  refine C2.out.mono ?_
  rintro e w2 ⟨v, rfl, hS, hb2⟩
  obtain ⟨a3, d3, rfl⟩ := slr_slice hS
  have HF := Lib.hid (FIN.out _ _ hS hb2)
  clear hS hb2
  go_wp2_with fail
  go_ret
  exact HF.out

/-- The set of spans: what numbers their points have. -/
def numsR (l : List (Int × Int)) : List Run := l.map fun x => ((numB x.1).1, (numB x.2).1 + 1)
/-- Is a span wrong, and how? -/
def badR (x : Int × Int) : Int := if (numB x.1).2 = false ∨ (numB x.2).2 = false then 8 else if (numB x.2).1 < (numB x.1).1 then 1 else 0
/-- A slice of spans that is read. -/
def SpG (W : World) (v : Value) (l : List (Int × Int)) : Prop :=
  ∃ ao cap, v = .slice ao l.length cap ∧ (l = [] ∨ ∃ g off, ao = some ⟨g, off, none⟩ ∧ ∀ (i : Nat) (x : Int × Int), l[i]? = some x → W.cell? ⟨g, off + i * 2, none⟩ = some (.int .i32 x.1) ∧ W.cell? ⟨g, off + i * 2 + 1, none⟩ = some (.int .i32 x.2))
end Go.Proofs.YtmcmdijfdhlnaaaDoor
