/- normal: Text. -/
import Derived.Test.YtcfhblbmpbfoaaaGreatDoorGv21
import Derived.Test.YtcfhblbmpbfoaaaGreatDoorGv24
namespace Go.Proofs.YtcfhblbmpbfoaaaGreatDoor
open Go Go.RowKit Go.Kt Go.Kt.Sg Go.Shelf Go.Lib Go.Sort Go.Kt.Rg Go.Maps Go.Kt.Bits
variable {md : MdT}
theorem enters_dec : ∀ args w, (callFunc 13 args).run Tryz.prog w = .ok (.enter 13 args) w := enters_of Tryz.func13 (by kernel_rfl) rfl
theorem sl_made {W : World} {Y : Nat → Prop} {ao : Option Addr} {n cap : Nat} {l : List Int} (h : OwnS Y 21 1 (.slice ao n cap) n (i32s l) W) (hn : n = l.length) : Sl .i32 W (.slice ao n cap) l := by
  subst hn
  exact sl_of_own h rfl

set_option maxRecDepth 100000 in
set_option maxHeartbeats 2000000 in
theorem nTextD {S : RdS} {fl : Int → List Int} {L : List Nat} {gp : Nat} (hN : PrN S fl L) (w : World) (hP : PrW gp S md w) (hT : Lib.Utf8Tabs 3 4 w) (h2 : 5 ≤ w.heap.size)
    (s : ByteArray) (hs : s.size ≤ 268435456) (hp : ∀ x ∈ barP (decR S fl (pts s)), pointB x = true) :
    Calls Tryz.prog 23 #[.pointer (some ⟨gp, 0, none⟩), .string s, .bool false] w fun e w' => e = .returned (.string ⟨(textP (barP (decR S fl (pts s)))).toArray⟩) ∧ Below w.heap.size w w' := by
  have hul := units_len s
  have hpl := pts_len s
  have hbd := pts_bd s
  have CO := Lib.hid (ptsOf_any s w hT h2 (by omega) (by omega))
  have CD : Hid (∀ W v, Below w.heap.size w W → Sl .i32 W v (pts s) → Calls Tryz.prog 13 #[.pointer (some ⟨gp, 0, none⟩), v] W fun e w' => NewZ W.heap.size (barP (decR S fl (pts s))) e w' ∧ Below W.heap.size W w') := Lib.hid fun W v hb hv =>
    nDecompose hN W (hP.below hb) v _ hv.toG (fun r hr => by have := hbd r hr; exact ⟨this.1, this.2⟩) (by omega)
  have hlb : (barP (decR S fl (pts s))).length ≤ 35184372087808 := by
    have := fulR_len hN.fe (pts s)
    unfold barP decR
    rw [List.length_map, ordL_len]
    simp only [List.length_nil]
    omega
  have hi : ∀ x ∈ barP (decR S fl (pts s)), -2147483648 ≤ x ∧ x ≤ 2147483647 := fun x hx => by have := (pointB_iff x).1 (hp x hx); omega
  obtain ⟨Y, hY⟩ : ∃ Y, barP (decR S fl (pts s)) = Y := ⟨_, rfl⟩
  rw [hY] at CD hlb hi hp ⊢
  have CT : Hid (∀ W v, Sl .i32 W v Y → Calls Tryz.prog 48 #[v] W (PTextAns Y Y.length W)) := Lib.hid fun W v hv => ptsText_any v Y Y.length W hv.toG hi hlb (firstBad_all hp)
  have eg := enters_dec
  clear hY hi hp hlb hbd hpl hul hs h2 hT hP hN
  go_enter Tryz.func23, Tryz.ntmps23
  go_wp2_with fail
  refine CO.out.mono ?_
  rintro e w1 ⟨a1, c1, rfl, ho1, hb1⟩
  have CQ := Lib.hid (CD.out w1 _ hb1 (sl_made ho1 rfl))
  have HB := Lib.hid hb1
  clear ho1 hb1 CD
  go_wp2_with fail
  refine CQ.out.mono ?_
  rintro e w2 ⟨h2, hb2⟩
  obtain ⟨v2, rfl, ho2⟩ := h2.sl
  have CR := Lib.hid (CT.out w2 _ ho2)
  have HB2 := Lib.hid (HB.out.trans (hb2.mono HB.out.size))
  clear h2 ho2 hb2 CT CQ HB
  go_wp2_with fail
  refine CR.out.mono ?_
  rintro e w3 ⟨h3 | h3, hb3⟩
  · obtain ⟨_, rfl⟩ := h3
    have HB3 := Lib.hid (HB2.out.trans (hb3.mono HB2.out.size))
    clear hb3 HB2 CR
    go_wp2
    go_ret
    exact ⟨rfl, HB3.out⟩
  · exact absurd h3.1 (Nat.lt_irrefl _)
end Go.Proofs.YtcfhblbmpbfoaaaGreatDoor
