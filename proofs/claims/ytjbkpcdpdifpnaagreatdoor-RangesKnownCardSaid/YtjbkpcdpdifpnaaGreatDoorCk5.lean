/- Parts of the proof of what the last text says. -/
import Derived.Test.YtjbkpcdpdifpnaaGreatDoorCk4
import Derived.Test.YtjbkpcdpdifpnaaGreatDoorCk1
import Derived.RegionTactic
import Derived.BigRegion
import Derived.Stop.RegionWithIn
import Derived.Deep.RegionWith
/- Rows of runs that a call makes; Not. -/
namespace Go.Proofs.YtjbkpcdpdifpnaaGreatDoor
open Go Go.RowKit Go.Kt Go.Kt.Rg

theorem tinfoRun : (Tryz.prog.info? 98).map (fun i => (i.zero, i.size, i.bytes)) = some (some (.agg #[.int .i64 0, .int .i64 0]), 2, 16) := by kernel_rfl
theorem encR_snoc (l : List Run) (x : Run) : encR (l ++ [x]) = encR l ++ [.int .i64 x.1, .int .i64 x.2] := by simp [encR]
theorem encR_len (l : List Run) : (encR l).length = l.length * 2 := by
  induction l with
  | nil => rfl
  | cons x t ih => simp only [encR, List.flatMap_cons, List.length_append, List.length_cons, List.length_nil] at ih ⊢; omega
theorem encR_get : ∀ (l : List Run) (i : Nat) (x : Run), l[i]? = some x → (encR l)[i * 2]? = some (.int .i64 x.1) ∧ (encR l)[i * 2 + 1]? = some (.int .i64 x.2)
  | [], i, x, h => by simp at h
  | y :: t, 0, x, h => by
    obtain rfl := Option.some.inj h
    exact ⟨rfl, rfl⟩
  | y :: t, i + 1, x, h => by
    have := encR_get t i x (by simpa using h)
    show ([Value.int .i64 y.1, .int .i64 y.2] ++ encR t)[(i + 1) * 2]? = _ ∧ ([Value.int .i64 y.1, .int .i64 y.2] ++ encR t)[(i + 1) * 2 + 1]? = _
    rw [List.getElem?_append_right (by simp; omega), List.getElem?_append_right (by simp; omega)]
    simp only [List.length_cons, List.length_nil]
    rw [show (i + 1) * 2 - (0 + 1 + 1) = i * 2 by omega, show (i + 1) * 2 + 1 - (0 + 1 + 1) = i * 2 + 1 by omega]
    exact this
theorem slr_of_own {Y : Nat → Prop} {v : Value} {n : Nat} {l : List Run} {W : World} (h : OwnS Y 98 2 v n (encR l) W) (hn : n = l.length) : SlR W v l := by
  subst hn
  rcases h.1.2 with ⟨hv, hn⟩ | ⟨g, cap, cur, hv, rest⟩
  · exact ⟨none, 0, by rw [hv, hn], .inl (List.eq_nil_of_length_eq_zero hn)⟩
  · refine ⟨_, cap, hv, .inr ⟨g, rfl, fun i x hx => ?_⟩⟩
    subst hv
    have e := encR_get l i x hx
    have c1 := h.1.cells (g := g) rfl _ _ e.1
    have c2 := h.1.cells (g := g) rfl _ _ e.2
    rw [Addr.add_lit, Nat.zero_add] at c1 c2
    exact ⟨c1, c2⟩
theorem set_box {v : Value} {l : List Run} {W : World} (h : SlR W v l) : SetAt l W.heap.size (W.alloc (.cells #[v] 101)) :=
  ⟨v, by rw [Lib.cell_of_heap (World.alloc_heap_new W _)]; rfl, h.below ((Below.refl _ W).alloc (Nat.le_refl _) _)⟩
def MadeS (l : List Run) (w : World) (e : Ending) (w' : World) : Prop := ∃ b, e = .returned (ptrV b) ∧ SetAt l b w' ∧ Below w.heap.size w w'

theorem mk_runs (W : World) (c : Nat) (hc : 16 * c ≤ 281474976710656) :
    ∃ w2, (Instr.makeSlice 91 (.int .i64 0) (.int .i64 (c : Int))).run Tryz.prog W = .ok (.slice (some ⟨W.heap.size, 0, none⟩) 0 c) w2 ∧
      OwnS (fun b => b = W.heap.size) 98 2 (.slice (some ⟨W.heap.size, 0, none⟩) 0 c) 0 (encR []) w2 ∧ w2.heap.size = W.heap.size + 1 ∧ Below W.heap.size W w2 := by
  obtain ⟨i, hi, hz, hs1, hbb1⟩ := info_parts tinfoRun
  have hb' : (i.bytes : Int) * (c : Int) ≤ 281474976710656 := by rw [hbb1]; omega
  have hr := run_make (P := Tryz.prog) W 91 98 i _ Tryz.underlying91 hi hz .i64 .i64 0 c (Int.le_refl _) (by omega) hb' (by omega)
  simp only [Int.toNat_zero, Int.toNat_natCast] at hr
  have hm : c ≤ maxLen := by unfold maxLen; omega
  have hq := World.ownsRow_made (base := 0) W (madeCells (Value.agg #[.int .i64 0, .int .i64 0]).cells (c * i.size)) c (Nat.zero_le _) hm (size_madeCells _ _) (e := 98)
  rw [hs1] at hq hr
  exact ⟨_, hr, ⟨hq, fun g h => by cases h; rfl⟩, by simp, (Below.refl _ W).alloc (Nat.le_refl _) _⟩

theorem own_ne {Y : Nat → Prop} {e : TypeId} {size n : Nat} {v : Value} {xs : List Value} {W : World} (h : OwnS Y e size v n xs W) {g : Nat} (hg : v.ownBlock = some g) : g < W.heap.size := by
  rcases h.shape with ⟨rfl, _⟩ | ⟨g', cap, rfl, _, hlt⟩
  · cases hg
  · cases hg; exact hlt
theorem append_run {B : Nat} {ao : Option Addr} {n cp : Nat} {l : List Run} {W0 W : World} (hown : OwnS (fun b => B ≤ b) 98 2 (.slice ao n cp) n (encR l) W) (hb : Below B W0 W) (hBW : B ≤ W.heap.size) (x : Run) (hn : n ≤ 2199023255552) :
    ∃ g cap w', (∀ ty, (Builtin.append_ #[91, 91] ty #[.slice ao n cp, .slice (some ⟨W.heap.size, 0, none⟩) 1 1]).run Tryz.prog (W.alloc (.cells #[.int .i64 x.1, .int .i64 x.2] 98)) = .ok (.slice (some ⟨g, 0, none⟩) (n + 1) cap) w') ∧
      OwnS (fun b => B ≤ b) 98 2 (.slice (some ⟨g, 0, none⟩) (n + 1) cap) (n + 1) (encR (l ++ [x])) w' ∧ Below B W0 w' ∧ W.heap.size < w'.heap.size ∧ Keep (fun b => (Value.slice ao n cp).ownBlock = some b) W w' := by
  obtain ⟨g, cap, w2, hrun, hown2, hk2, hg2, hz2⟩ := append_x (P := Tryz.prog) W 91 98 Tryz.underlying91 tinfoRun rfl (by omega) hown [.int .i64 x.1, .int .i64 x.2] rfl
    (by intro u hu; simp at hu; rcases hu with rfl | rfl <;> rfl) (by unfold maxLen; omega) (by omega)
  have hge : B ≤ g := by
    rcases hg2 with h | h
    · exact hown.2 g h
    · omega
  refine ⟨g, cap, w2, hrun, ?_, hb.trans (hk2.below hBW fun b h => hown.2 b h), hz2, hk2⟩
  rw [encR_snoc]; exact hown2.weaken (fun b h => by subst h; exact hge)

set_option maxRecDepth 100000 in
set_option maxHeartbeats 2000000 in
theorem rnot_any (l : List Run) (b : Nat) (w : World) (h : SetAt l b w) (hc : Canon l) :
    Calls Tryz.prog 37 #[ptrV b] w (MadeS (notL 0 l) w) := by
  have hlen := canon_len hc (Int.le_refl _)
  have hl : l.length ≤ 1112192 := by unfold allN at hlen; omega
  obtain ⟨v, h1, ao, cap, rfl, h2⟩ := h
  have H2 := Lib.hid h2
  have HC := Lib.hid hc
  obtain ⟨n, hn⟩ : ∃ n, l.length = n := ⟨_, rfl⟩
  rw [hn] at hl h1
  have HN := Lib.hid hn
  obtain ⟨w1, hrun, hown1, hz1, hb1⟩ := mk_runs w (n + 1) (by omega)
  have hltb := lt_of_cell h1
  have h1' := (hb1.cell hltb).trans h1
  have HRun := Lib.hid hrun
  have hrun' : (Instr.makeSlice 91 (.int .i64 0) (.int .i64 ((n : Int) + 1))).run Tryz.prog w = .ok (.slice (some ⟨w.heap.size, 0, none⟩) 0 (n + 1)) w1 := hrun
  have O1 := Lib.hid (And.intro hown1 hb1)
  clear h2 hc hlen hn hrun hown1 hb1
  go_enter Tryz.func37, Tryz.ntmps37
  go_wp2
  have hset := Lib.hid (And.intro h1' hltb)
  go_loopw [3, 4, 19] (fun o bh x wr => ∃ (k m cp : Nat) (ap : Option Addr) (done : List Run) (B : Int), x = .int .i64 k ∧ k ≤ n ∧ o = .slice ap m cp ∧ bh = .int .i64 B ∧ m = done.length ∧ m ≤ k ∧ 0 ≤ B ∧ B ≤ 1112192 ∧
      done ++ notL B (l.drop k) = notL 0 l ∧ OwnS (fun y => w.heap.size ≤ y) 98 2 (.slice ap m cp) m (encR done) wr ∧ Below w.heap.size w wr) (fun _ _ x _ => n - (RowKit.intOf x).toNat)
  case atStart => exact ⟨0, 0, n + 1, some ⟨w.heap.size, 0, none⟩, [], 0, rfl, by omega, rfl, rfl, rfl, by omega, by omega, by omega, rfl, O1.out.1.weaken (fun y h => by subst h; exact Nat.le_refl _), O1.out.2⟩
  case round =>
    obtain ⟨k, m, cp, ap, done, B, rfl, hk, rfl, rfl, hm, hmk, hB0, hB1, hdone, hown, hb⟩ := hrel
    have hbs := hb.size
    have HM := Lib.hid hm
    clear h1' hm
    by_cases hlt : k < n
    · have hlt' : (k : Int) < n := by omega
      obtain ⟨x, hx⟩ : ∃ x, l[k]? = some x := ⟨_, List.getElem?_eq_getElem (by rw [HN.out]; exact hlt)⟩
      obtain ⟨g, rfl, r1, r2⟩ : ∃ g, ao = some ⟨g, 0, none⟩ ∧ wr.cell? ⟨g, k * 2, none⟩ = some (.int .i64 x.1) ∧ wr.cell? ⟨g, k * 2 + 1, none⟩ = some (.int .i64 x.2) := by
        rcases H2.out with h | ⟨g, e, h⟩
        · subst h; simp at hx
        · exact ⟨g, e, (hb.cell (lt_of_cell (h k x hx).1)).trans (h k x hx).1, (hb.cell (lt_of_cell (h k x hx).2)).trans (h k x hx).2⟩
      have hf := Canon.fit HC.out x (List.mem_of_getElem? hx)
      have hdr : l.drop k = x :: l.drop (k + 1) := by
        obtain ⟨hkl, rfl⟩ := List.getElem?_eq_some_iff.1 hx
        exact List.drop_eq_getElem_cons hkl
      rw [hdr, notL] at hdone
      unfold allN at hf
      obtain ⟨x1, x2⟩ := x
      simp only at hf r1 r2 hdone
      obtain ⟨W, hW⟩ : ∃ W, wr.alloc (.cells #[.int .i64 x1, .int .i64 x2] 98) = W := ⟨_, rfl⟩
      have hzW : W.heap.size = wr.heap.size + 1 := by rw [← hW]; simp
      have hbW : Below w.heap.size w W := by rw [← hW]; exact hb.alloc hbs _
      have c0 : W.cell? ⟨wr.heap.size, 0, none⟩ = some (.int .i64 x1) := by rw [← hW, Lib.cell_of_heap (World.alloc_heap_new wr _)]; rfl
      have c1 : W.cell? ⟨wr.heap.size, 1, none⟩ = some (.int .i64 x2) := by rw [← hW, Lib.cell_of_heap (World.alloc_heap_new wr _)]; rfl
      have hownW : OwnS (fun y => w.heap.size ≤ y) 98 2 (.slice ap m cp) m (encR done) W := by rw [← hW]; exact ⟨hown.1.alloc _, hown.2⟩
      by_cases hlo : B < x1
      · rw [if_pos hlo] at hdone
        obtain ⟨g2, cap2, w2, hrun2, hown2, hb2, hz2, hk2⟩ := append_run hownW hbW (by rw [hzW]; omega) (B, x1) (by omega)
        have d1 := hk2.cell c1 (fun h => absurd (own_ne hown h) (Nat.lt_irrefl _))
        rw [hzW, ← hW] at hrun2
        have HRun2 := Lib.hid hrun2
        have HG := Lib.hid (And.intro hown2 (And.intro hb2 hdone))
        have HW := Lib.hid hW
        clear hrun2 hown2 hb2 hz2 hk2 hdone hown hownW hb hbW hW hzW hx hdr
        go_wp2_with (at_builtin; refine wpList_append_eq rfl rfl rfl rfl HRun2.out ?_)
        go_roundw
        case rel => exact ⟨k + 1, m + 1, cap2, some ⟨g2, 0, none⟩, done ++ [(B, x1)], x2, by go_num, by omega, rfl, rfl, by simp [HM.out], by omega, by omega, by omega, by rw [List.append_assoc]; exact HG.out.2.2, HG.out.1, HG.out.2.1⟩
        case measure => simp [RowKit.intOf]; omega
      · rw [if_neg hlo] at hdone
        have HG := Lib.hid (And.intro hownW (And.intro hbW hdone))
        have HW := Lib.hid hW
        clear hdone hown hownW hb hbW hW hzW hx hdr
        go_wp2_with fail
        rw [HW.out]
        go_roundw
        case rel => exact ⟨k + 1, m, cp, ap, done, x2, by go_num, by omega, rfl, rfl, HM.out, by omega, by omega, by omega, HG.out.2.2, HG.out.1, HG.out.2.1⟩
        case measure => simp [RowKit.intOf]; omega
    · have hlt' : ¬ (k : Int) < n := by omega
      obtain rfl : k = n := by omega
      have hdr : l.drop k = [] := by rw [← HN.out]; exact List.drop_length
      rw [hdr, notL] at hdone
      unfold allN at hdone
      by_cases hlo : B < 1112192
      · rw [if_pos hlo] at hdone
        obtain ⟨g2, cap2, w2, hrun2, hown2, hb2, hz2, hk2⟩ := append_run hown hb hbs (B, 1112192) (by omega)
        have hS := slr_of_own hown2 (by simp [HM.out])
        have HRun2 := Lib.hid hrun2
        have HG := Lib.hid (And.intro hS (And.intro hb2 hdone))
        clear hrun2 hown2 hb2 hz2 hk2 hdone hown hb hS hdr
        go_wp2_with (at_builtin; refine wpList_append_eq rfl rfl rfl rfl HRun2.out ?_)
        go_ret
        obtain ⟨hS, hb2, hdone⟩ := HG.out
        rw [← hdone]
        exact ⟨w2.heap.size, rfl, set_box hS, hb2.alloc hb2.size _⟩
      · rw [if_neg hlo] at hdone
        have hS := slr_of_own hown HM.out
        have HG := Lib.hid (And.intro hS (And.intro hb hdone))
        clear hdone hown hb hS hdr
        go_wp2_with fail
        go_ret
        obtain ⟨hS, hb2, hdone⟩ := HG.out
        rw [List.append_nil] at hdone
        rw [← hdone]
        exact ⟨wr.heap.size, rfl, set_box hS, hb2.alloc hb2.size _⟩
end Go.Proofs.YtjbkpcdpdifpnaaGreatDoor
/- Both and Less. -/
namespace Go.Proofs.YtjbkpcdpdifpnaaGreatDoor
open Go Go.RowKit Go.Kt Go.Kt.Rg

theorem SlR.at_ {W : World} {ao : Option Addr} {n cap : Nat} {l : List Run} (h : SlR W (.slice ao n cap) l) {i : Nat} {x : Run} (hx : l[i]? = some x) : ∃ g, ao = some ⟨g, 0, none⟩ ∧ W.cell? ⟨g, i * 2, none⟩ = some (.int .i64 x.1) ∧ W.cell? ⟨g, i * 2 + 1, none⟩ = some (.int .i64 x.2) := by
  obtain ⟨ax, cx, e, h⟩ := h
  injection e with e1 _ _
  subst e1
  rcases h with h | ⟨g, e, h⟩
  · subst h; simp at hx
  · exact ⟨g, e, h i x hx⟩
theorem SlR.len {W : World} {ao : Option Addr} {n cap : Nat} {l : List Run} (h : SlR W (.slice ao n cap) l) : l.length = n := by
  obtain ⟨ax, cx, e, h⟩ := h
  injection e with _ e2 _
  exact e2.symm
theorem one_zero (x : Run) (h : x = (0, 0)) : oneR x = [] := if_pos h
theorem one_some (x : Run) (h : x ≠ (0, 0)) : oneR x = [x] := if_neg h

set_option maxRecDepth 100000 in
set_option maxHeartbeats 2000000 in
theorem rboth_any (s t : List Run) (b c : Nat) (w : World) (h : SetAt s b w) (k : SetAt t c w) (hs : Canon s) (ht : Canon t) :
    Calls Tryz.prog 33 #[ptrV b, ptrV c] w (MadeS (bothL s t) w) := by
  have hlen := canon_len hs (Int.le_refl _)
  have hlen2 := canon_len ht (Int.le_refl _)
  have hl : s.length ≤ 1112192 := by unfold allN at hlen; omega
  have hl2 : t.length ≤ 1112192 := by unfold allN at hlen2; omega
  obtain ⟨v, h1, h2⟩ := h
  obtain ⟨v', k1, k2⟩ := k
  have H2 := Lib.hid h2
  have K2 := Lib.hid k2
  obtain ⟨ao, cap, rfl, _⟩ := h2
  obtain ⟨ao2, cap2, rfl, _⟩ := k2
  have HC := Lib.hid hs
  have KC := Lib.hid ht
  have CC := Lib.hid rcommon_any
  obtain ⟨n, hn⟩ : ∃ n, s.length = n := ⟨_, rfl⟩
  obtain ⟨n2, hn2⟩ : ∃ n, t.length = n := ⟨_, rfl⟩
  rw [hn] at hl h1
  rw [hn2] at hl2 k1
  have HN := Lib.hid hn
  have KN := Lib.hid hn2
  have hltb := lt_of_cell h1
  have hltc := lt_of_cell k1
  have P0 := Lib.hid (And.intro h1 k1)
  clear hs ht hlen hlen2 hn hn2 h1 k1
  go_enter Tryz.func33, Tryz.ntmps33
  go_wp2
  go_loopw [5, 6, 7] (fun o x y wr => ∃ (i j m cp : Nat) (ap : Option Addr) (done : List Run), x = .int .i64 i ∧ y = .int .i64 j ∧ i ≤ n ∧ j ≤ n2 ∧ o = .slice ap m cp ∧ m = done.length ∧ m ≤ i + j ∧
      done ++ bothL (s.drop i) (t.drop j) = bothL s t ∧ OwnS (fun y => w.heap.size ≤ y) 98 2 (.slice ap m cp) m (encR done) wr ∧ Below w.heap.size w wr) (fun _ x y _ => n + n2 - ((RowKit.intOf x).toNat + (RowKit.intOf y).toNat))
  case atStart => exact ⟨0, 0, 0, 0, none, [], rfl, rfl, by omega, by omega, rfl, rfl, by omega, rfl, own_nil _ _ _ _, Below.refl _ _⟩
  case round =>
    obtain ⟨i, j, m, cp, ap, done, rfl, rfl, hi, hj, rfl, hm, hmk, hdone, hown, hb⟩ := hrel
    have hbs := hb.size
    have HM := Lib.hid hm
    have p1 := (hb.cell hltb).trans P0.out.1
    have p2 := (hb.cell hltc).trans P0.out.2
    have HB := Lib.hid (And.intro hb (And.intro hown hdone))
    clear hm hb hown hdone
    by_cases hlt : i < n ∧ j < n2
    · obtain ⟨hi1, hj1⟩ := hlt
      have hi1' : (i : Int) < n := by omega
      have hj1' : (j : Int) < n2 := by omega
      obtain ⟨x, hx⟩ : ∃ x, s[i]? = some x := ⟨_, List.getElem?_eq_getElem (by rw [HN.out]; exact hi1)⟩
      obtain ⟨y, hy⟩ : ∃ y, t[j]? = some y := ⟨_, List.getElem?_eq_getElem (by rw [KN.out]; exact hj1)⟩
      obtain ⟨g, rfl, r1, r2⟩ := (H2.out.below HB.out.1).at_ hx
      obtain ⟨g', rfl, r3, r4⟩ := (K2.out.below HB.out.1).at_ hy
      have hf := Canon.fit HC.out x (List.mem_of_getElem? hx)
      have hf2 := Canon.fit KC.out y (List.mem_of_getElem? hy)
      have hdr : s.drop i = x :: s.drop (i + 1) := by
        obtain ⟨hkl, rfl⟩ := List.getElem?_eq_some_iff.1 hx
        exact List.drop_eq_getElem_cons hkl
      have hdr2 : t.drop j = y :: t.drop (j + 1) := by
        obtain ⟨hkl, rfl⟩ := List.getElem?_eq_some_iff.1 hy
        exact List.drop_eq_getElem_cons hkl
      have HD := Lib.hid (And.intro hdr hdr2)
      obtain ⟨x1, x2⟩ := x
      obtain ⟨y1, y2⟩ := y
      simp only at r1 r2 r3 r4
      have FF := Lib.hid (And.intro hf hf2)
      clear hx hy hdr hdr2 hf hf2
      have l1 : b < wr.heap.size := lt_of_cell p1
      have l2 : c < wr.heap.size := lt_of_cell p2
      have l3 : g < wr.heap.size := lt_of_cell r1
      have l4 : g' < wr.heap.size := lt_of_cell r3
      go_wp2_with fail
      go_region
      all_goals first
        | (obtain ⟨V, hV⟩ : ∃ V, ((wr.alloc (.cells #[.int .i64 y1, .int .i64 y2] 98)).alloc (.cells #[.int .i64 x1, .int .i64 x2] 98)).drew = V := ⟨_, rfl⟩
           rw [hV]
           obtain ⟨e8, he8⟩ : ∃ e, e = wr.heap.size + 1 := ⟨_, rfl⟩
           obtain ⟨e9, he9⟩ : ∃ e, e = wr.heap.size := ⟨_, rfl⟩
           have hzV : V.heap.size = wr.heap.size + 2 := by rw [← hV]; show ((wr.alloc _).alloc _).heap.size = _; simp
           have f1 : V.cell? ⟨wr.heap.size + 1, 0, none⟩ = some (.int .i64 x1) := by rw [← hV]; show ((wr.alloc _).alloc _).cell? _ = _; rw [show wr.heap.size + 1 = (wr.alloc (.cells #[.int .i64 y1, .int .i64 y2] 98)).heap.size by simp, Lib.cell_of_heap (World.alloc_heap_new (wr.alloc (.cells #[.int .i64 y1, .int .i64 y2] 98)) _)]; rfl
           have f2 : V.cell? ⟨wr.heap.size + 1, 1, none⟩ = some (.int .i64 x2) := by rw [← hV]; show ((wr.alloc _).alloc _).cell? _ = _; rw [show wr.heap.size + 1 = (wr.alloc (.cells #[.int .i64 y1, .int .i64 y2] 98)).heap.size by simp, Lib.cell_of_heap (World.alloc_heap_new (wr.alloc (.cells #[.int .i64 y1, .int .i64 y2] 98)) _)]; rfl
           have f3 : V.cell? ⟨wr.heap.size, 0, none⟩ = some (.int .i64 y1) := by rw [← hV]; show ((wr.alloc _).alloc _).cell? _ = _; rw [Lib.cell_of_heap (alloc_old (alloc_at (A := wr) rfl))]; rfl
           have f4 : V.cell? ⟨wr.heap.size, 1, none⟩ = some (.int .i64 y2) := by rw [← hV]; show ((wr.alloc _).alloc _).cell? _ = _; rw [Lib.cell_of_heap (alloc_old (alloc_at (A := wr) rfl))]; rfl
           have hbV : Below wr.heap.size wr V := by rw [← hV]; exact below_drewN (((Below.refl _ wr).alloc (Nat.le_refl _) _).alloc (by simp) _) 1
           have hownV : OwnS (fun y => w.heap.size ≤ y) 98 2 (.slice ap m cp) m (encR done) V := HB.out.2.1.keep (X := fun _ => False) (.of_all hbV) (fun _ h => h.elim)
           have k8 : wr.heap.size ≤ e8 ∧ e8 < V.heap.size := by omega
           have k9 : wr.heap.size ≤ e9 ∧ e9 < V.heap.size := by omega
           rw [← he8] at f1 f2
           rw [← he9] at f3 f4
           rw [← he8, ← he9]
           clear he8 he9 hV hzV)
        | (obtain ⟨V, hV⟩ : ∃ V, ((wr.alloc (.cells #[.int .i64 x1, .int .i64 x2] 98)).alloc (.cells #[.int .i64 y1, .int .i64 y2] 98)).drew = V := ⟨_, rfl⟩
           rw [hV]
           obtain ⟨e8, he8⟩ : ∃ e, e = wr.heap.size := ⟨_, rfl⟩
           obtain ⟨e9, he9⟩ : ∃ e, e = wr.heap.size + 1 := ⟨_, rfl⟩
           have hzV : V.heap.size = wr.heap.size + 2 := by rw [← hV]; show ((wr.alloc _).alloc _).heap.size = _; simp
           have f1 : V.cell? ⟨wr.heap.size, 0, none⟩ = some (.int .i64 x1) := by rw [← hV]; show ((wr.alloc _).alloc _).cell? _ = _; rw [Lib.cell_of_heap (alloc_old (alloc_at (A := wr) rfl))]; rfl
           have f2 : V.cell? ⟨wr.heap.size, 1, none⟩ = some (.int .i64 x2) := by rw [← hV]; show ((wr.alloc _).alloc _).cell? _ = _; rw [Lib.cell_of_heap (alloc_old (alloc_at (A := wr) rfl))]; rfl
           have f3 : V.cell? ⟨wr.heap.size + 1, 0, none⟩ = some (.int .i64 y1) := by rw [← hV]; show ((wr.alloc _).alloc _).cell? _ = _; rw [show wr.heap.size + 1 = (wr.alloc (.cells #[.int .i64 x1, .int .i64 x2] 98)).heap.size by simp, Lib.cell_of_heap (World.alloc_heap_new (wr.alloc (.cells #[.int .i64 x1, .int .i64 x2] 98)) _)]; rfl
           have f4 : V.cell? ⟨wr.heap.size + 1, 1, none⟩ = some (.int .i64 y2) := by rw [← hV]; show ((wr.alloc _).alloc _).cell? _ = _; rw [show wr.heap.size + 1 = (wr.alloc (.cells #[.int .i64 x1, .int .i64 x2] 98)).heap.size by simp, Lib.cell_of_heap (World.alloc_heap_new (wr.alloc (.cells #[.int .i64 x1, .int .i64 x2] 98)) _)]; rfl
           have hbV : Below wr.heap.size wr V := by rw [← hV]; exact below_drewN (((Below.refl _ wr).alloc (Nat.le_refl _) _).alloc (by simp) _) 1
           have hownV : OwnS (fun y => w.heap.size ≤ y) 98 2 (.slice ap m cp) m (encR done) V := HB.out.2.1.keep (X := fun _ => False) (.of_all hbV) (fun _ h => h.elim)
           have k8 : wr.heap.size ≤ e8 ∧ e8 < V.heap.size := by omega
           have k9 : wr.heap.size ≤ e9 ∧ e9 < V.heap.size := by omega
           rw [← he8] at f1 f2
           rw [← he9] at f3 f4
           rw [← he9, ← he8]
           clear he8 he9 hV hzV)
      all_goals
        clear p1 p2 r1 r2 r3 r4 l1 l2 l3 l4
        have C1 := Lib.hid (CC.out (x1, x2) (y1, y2) V FF.out.1 FF.out.2)
        have HV := Lib.hid (And.intro hbV hownV)
        clear hbV hownV
        go_wp2_with fail
        refine C1.out.mono ?_
        rintro e V2 ⟨rfl, hb2⟩
        obtain ⟨R, hR⟩ : ∃ R, commonR (x1, x2) (y1, y2) = R := ⟨_, rfl⟩
        rw [hR]
        have HR : Hid (R = (0, 0) ∨ (R.2 ≠ 0 ∧ oneR R = [R])) := Lib.hid (by
          by_cases e : R = (0, 0)
          · exact .inl e
          · refine .inr ⟨?_, one_some R e⟩
            have f1 := FF.out.1
            have f2 := FF.out.2
            unfold commonR at hR
            simp only at hR f1 f2
            split at hR
            · exact absurd hR.symm e
            · rw [← hR]; simp only; omega)
        have g2 := (hb2.cell k8.2).trans f2
        have g4 := (hb2.cell k9.2).trans f4
        have hz2 := hb2.size
        have k8' : e8 < V2.heap.size := by omega
        have k9' : e9 < V2.heap.size := by omega
        have hbV2 := HV.out.1.trans (hb2.mono HV.out.1.size)
        have hw2 := HB.out.1.trans (hbV2.mono hbs)
        have hown2 : OwnS (fun y => w.heap.size ≤ y) 98 2 (.slice ap m cp) m (encR done) V2 := HV.out.2.keep (X := fun _ => False) (.of_all hb2) (fun _ h => h.elim)
        have hlo2 : ∀ g, (Value.slice ap m cp).ownBlock = some g → g < wr.heap.size := fun g hg => own_ne HB.out.2.1 hg
        have HD2 : Hid (done ++ (oneR R ++ if x2 < y2 then bothL (s.drop (i + 1)) (t.drop j) else bothL (s.drop i) (t.drop (j + 1))) = bothL s t) := Lib.hid (by
          rw [← HB.out.2.2, HD.out.1, HD.out.2]
          conv => rhs; rw [bothL]
          simp only [hR]
          split <;> rfl)
        clear f1 f2 f3 f4 C1 hb2 hbV2 hR
        obtain ⟨c1, c2⟩ := R
        simp only at HR HD2
        obtain ⟨W, hW⟩ : ∃ W, V2.alloc (.cells #[.int .i64 c1, .int .i64 c2] 98) = W := ⟨_, rfl⟩
        have hzW : W.heap.size = V2.heap.size + 1 := by rw [← hW]; simp
        have hbW : Below w.heap.size w W := by rw [← hW]; exact hw2.alloc hw2.size _
        have hownW : OwnS (fun y => w.heap.size ≤ y) 98 2 (.slice ap m cp) m (encR done) W := by rw [← hW]; exact ⟨hown2.1.alloc _, hown2.2⟩
        have u2 : W.cell? ⟨e8, 1, none⟩ = some (.int .i64 x2) := by rw [← hW]; exact (((Below.refl _ V2).alloc (Nat.le_refl _) _).cell k8').trans g2
        have u4 : W.cell? ⟨e9, 1, none⟩ = some (.int .i64 y2) := by rw [← hW]; exact (((Below.refl _ V2).alloc (Nat.le_refl _) _).cell k9').trans g4
        rcases HR.out with e | ⟨e1, e2⟩
        · obtain ⟨rfl, rfl⟩ := Prod.mk.inj e
          have hone := one_zero ((0, 0) : Run) rfl
          have hd := HD2.out
          rw [hone, List.nil_append] at hd
          have HG := Lib.hid (And.intro hownW (And.intro hbW hd))
          have HW := Lib.hid hW
          clear hone hd hownW hbW hW hown2 hw2 u2 u4 hlo2 hzW e
          by_cases hlt : x2 < y2
          · have HE := Lib.hid hlt
            go_wp2_with fail
            rw [HW.out]
            go_roundw
            case rel => exact ⟨i + 1, j, m, cp, ap, done, by go_num, rfl, by omega, by omega, rfl, HM.out, by omega, by have := HG.out.2.2; rw [if_pos HE.out] at this; exact this, HG.out.1, HG.out.2.1⟩
            case measure => simp [RowKit.intOf]; omega
          · have HE := Lib.hid hlt
            go_wp2_with fail
            rw [HW.out]
            go_roundw
            case rel => exact ⟨i, j + 1, m, cp, ap, done, rfl, by go_num, by omega, by omega, rfl, HM.out, by omega, by have := HG.out.2.2; rw [if_neg (by have := HE.out; omega)] at this; exact this, HG.out.1, HG.out.2.1⟩
            case measure => simp [RowKit.intOf]; omega
        · try simp only at e1
          have hne : (c2 == 0) = false := by simpa using e1
          have hd := HD2.out
          rw [e2, ← List.append_assoc] at hd
          obtain ⟨g3, cap3, w3, hrun3, hown3, hb3, hz3, hk3⟩ := append_run hownW hbW (by have := hw2.size; omega) (c1, c2) (by omega)
          have d2 := hk3.cell u2 (fun h => by have := hlo2 _ h; simp only at this; omega)
          have d4 := hk3.cell u4 (fun h => by have := hlo2 _ h; simp only at this; omega)
          rw [hzW, ← hW] at hrun3
          have HRun3 := Lib.hid hrun3
          have HG := Lib.hid (And.intro hown3 (And.intro hb3 hd))
          clear hd hownW hbW hW hown2 hw2 u2 u4 hlo2 hzW hrun3 hown3 hb3 hk3 e2 HR
          by_cases hlt : x2 < y2
          · have HE := Lib.hid hlt
            go_wp2_with (at_builtin; refine wpList_append_eq rfl rfl rfl rfl HRun3.out ?_)
            go_roundw
            case rel => exact ⟨i + 1, j, m + 1, cap3, some ⟨g3, 0, none⟩, done ++ [(c1, c2)], by go_num, rfl, by omega, by omega, rfl, by simp [HM.out], by omega, by have := HG.out.2.2; rw [if_pos HE.out] at this; exact this, HG.out.1, HG.out.2.1⟩
            case measure => simp [RowKit.intOf]; omega
          · have HE := Lib.hid hlt
            go_wp2_with (at_builtin; refine wpList_append_eq rfl rfl rfl rfl HRun3.out ?_)
            go_roundw
            case rel => exact ⟨i, j + 1, m + 1, cap3, some ⟨g3, 0, none⟩, done ++ [(c1, c2)], rfl, by go_num, by omega, by omega, rfl, by simp [HM.out], by omega, by have := HG.out.2.2; rw [if_neg (by have := HE.out; omega)] at this; exact this, HG.out.1, HG.out.2.1⟩
            case measure => simp [RowKit.intOf]; omega
    · have fin : done ++ [] = bothL s t := by
        rw [← HB.out.2.2]
        by_cases hi1 : i < n
        · have hdr2 : t.drop j = [] := List.drop_eq_nil_of_le (by rw [KN.out]; omega)
          rw [hdr2, bothL_nil_r]
        · have hdr2 : s.drop i = [] := List.drop_eq_nil_of_le (by rw [HN.out]; omega)
          rw [hdr2, bothL]
      rw [List.append_nil] at fin
      have hS := slr_of_own HB.out.2.1 HM.out
      rw [fin] at hS
      have HS := Lib.hid (And.intro hS HB.out.1)
      clear fin hS
      by_cases hi1 : i < n
      · have hi1' : (i : Int) < n := by omega
        have hj1' : ¬ (j : Int) < n2 := by omega
        clear hlt
        go_wp2_with fail
        go_ret
        exact ⟨wr.heap.size, rfl, set_box HS.out.1, HS.out.2.alloc hbs _⟩
      · have hi1' : ¬ (i : Int) < n := by omega
        clear hlt
        go_wp2_with fail
        go_ret
        exact ⟨wr.heap.size, rfl, set_box HS.out.1, HS.out.2.alloc hbs _⟩

set_option maxRecDepth 100000 in
theorem rless_any (s t : List Run) (b c : Nat) (w : World) (h : SetAt s b w) (k : SetAt t c w) (hs : Canon s) (ht : Canon t) :
    Calls Tryz.prog 35 #[ptrV b, ptrV c] w (MadeS (lessL s t) w) := by
  have H := Lib.hid (And.intro h k)
  have C1 := Lib.hid (rnot_any t c w k ht)
  have HC := Lib.hid (And.intro hs ht)
  clear h k hs ht
  go_enter Tryz.func35, Tryz.ntmps35
  go_wp2_with fail
  refine C1.out.mono ?_
  rintro e w1 ⟨d, rfl, hd, hb⟩
  have C2 := Lib.hid (rboth_any s (notL 0 t) b d w1 (H.out.1.below hb) hd HC.out.1 (not_canon t HC.out.2))
  have HB := Lib.hid hb
  clear hd hb
  go_wp2_with fail
  refine C2.out.mono ?_
  rintro e w2 ⟨d2, rfl, hd2, hb2⟩
  have HD := Lib.hid (And.intro hd2 hb2)
  clear hd2 hb2
  go_wp2
  go_ret
  exact ⟨d2, rfl, HD.out.1, HB.out.trans (HD.out.2.mono HB.out.size)⟩
end Go.Proofs.YtjbkpcdpdifpnaaGreatDoor
/- The iterator of a set's spans. -/
namespace Go.Proofs.YtjbkpcdpdifpnaaGreatDoor
open Go Go.RowKit Go.Kt Go.Kt.Rg

def spanP (x : Run) : Int × Int := (pntI x.1, pntI (x.2 - 1))
def spansL (l : List Run) : List (Int × Int) := l.map spanP
def encS (x : Int × Int) : Array Value := #[.agg #[.int .i32 x.1, .int .i32 x.2]]
theorem rspans_call (b : Nat) (w : World) :
    Calls Tryz.prog 55 #[ptrV b] w fun e w' => e = .returned (.func (.func 104) #[] #[.pointer (some ⟨w.heap.size, 0, none⟩)]) ∧ w.alloc (.cells #[ptrV b] 36) = w' := by
  go_enter Tryz.func55, Tryz.ntmps55
  go_wp2
  go_ret
  exact ⟨rfl, rfl⟩

set_option maxRecDepth 100000 in
set_option maxHeartbeats 2000000 in
theorem spans_iter (l : List Run) (bs b : Nat) (g : Nat) (w0 : World) (hbs : w0.cell? ⟨bs, 0, none⟩ = some (ptrV b)) (hS : ∃ ao cap, w0.cell? ⟨b, 0, none⟩ = some (.slice ao l.length cap) ∧ (l = [] ∨ ao = some ⟨g, 0, none⟩ ∧ ∀ (i : Nat) (x : Run), l[i]? = some x → w0.cell? ⟨g, i * 2, none⟩ = some (.int .i64 x.1) ∧ w0.cell? ⟨g, i * 2 + 1, none⟩ = some (.int .i64 x.2))) (hc : Canon l) (hT : PTab w0) :
    Iter Tryz.prog 104 #[.pointer (some ⟨bs, 0, none⟩)] encS (spansL l) (fun x => x = bs ∨ x = b ∨ x = g ∨ x = 0) w0 := by
  intro m X J Jx W hNd hX hsame hsz hJ hJx hY h0
  obtain ⟨ao, cap, hb0, hrow⟩ := hS
  have hlen := canon_len hc (Int.le_refl _)
  have hl : l.length ≤ 1112192 := by unfold allN at hlen; omega
  have same : ∀ (p : Addr), (p.block = bs ∨ p.block = b ∨ p.block = g ∨ p.block = 0) → W.cell? p = w0.cell? p := fun p hp => World.cell?_of_block (hsame _ hp)
  have q1 : W.cell? ⟨bs, 0, none⟩ = some (ptrV b) := (same _ (.inl rfl)).trans hbs
  have q2 : W.cell? ⟨b, 0, none⟩ = some (.slice ao l.length cap) := (same _ (.inr (.inl rfl))).trans hb0
  have HT : Hid (PTab W) := Lib.hid ⟨(same ⟨0, _, none⟩ (.inr (.inr (.inr rfl)))).trans hT.1, (same ⟨0, _, none⟩ (.inr (.inr (.inr rfl)))).trans hT.2.1, (same ⟨0, _, none⟩ (.inr (.inr (.inr rfl)))).trans hT.2.2.1,
    (same ⟨0, _, none⟩ (.inr (.inr (.inr rfl)))).trans hT.2.2.2.1, (same ⟨0, _, none⟩ (.inr (.inr (.inr rfl)))).trans hT.2.2.2.2.1, (same ⟨0, _, none⟩ (.inr (.inr (.inr rfl)))).trans hT.2.2.2.2.2⟩
  have HR : Hid (∀ (i : Nat) (x : Run), l[i]? = some x → ao = some ⟨g, 0, none⟩ ∧ W.cell? ⟨g, i * 2, none⟩ = some (.int .i64 x.1) ∧ W.cell? ⟨g, i * 2 + 1, none⟩ = some (.int .i64 x.2)) := Lib.hid fun i x hx => by
    rcases hrow with h | ⟨e, h⟩
    · subst h; simp at hx
    · exact ⟨e, (same ⟨g, _, none⟩ (.inr (.inr (.inl rfl)))).trans (h i x hx).1, (same ⟨g, _, none⟩ (.inr (.inr (.inl rfl)))).trans (h i x hx).2⟩
  have HC := Lib.hid hc
  have HK := Lib.hid (And.intro hX (And.intro hJ hJx))
  have HX' : Hid (¬ X bs ∧ ¬ X b ∧ ¬ X g ∧ ¬ X 0) := Lib.hid ⟨hNd _ (.inl rfl), hNd _ (.inr (.inl rfl)), hNd _ (.inr (.inr (.inl rfl))), hNd _ (.inr (.inr (.inr rfl)))⟩
  obtain ⟨n, hn⟩ : ∃ n, l.length = n := ⟨_, rfl⟩
  rw [hn] at hl q2
  have HN := Lib.hid hn
  clear hNd hsame hsz hc hT hrow hb0 hbs same hlen hn hX
  refine (callsIn_wide (n := 0)).1 ?_
  refine callsIn_of_wp Tryz.func104 rfl trivial ?_ rfl
  simp only [Tryz.ntmps104, List.size_toArray, List.length_cons, List.length_nil, Nat.reduceAdd, Nat.reduceSub, Array.replicate_succ, Array.replicate_zero, List.push_toArray, List.append_toArray, List.nil_append, List.cons_append]
  gi_wp2
  gi_loopw [10] (fun x wr => ∃ (k : Nat) (Y : Nat → Prop), x = .int .i64 k ∧ k ≤ n ∧ (∀ y, Y y → W.heap.size ≤ y) ∧ J (spansL (l.take k)) Y wr ∧ Keep X W wr)
    (fun x _ => n - (RowKit.intOf x).toNat)
  case atStart => exact ⟨0, _, rfl, by omega, fun _ h => h.elim, h0, Keep.refl _ _⟩
  case round =>
    obtain ⟨k, Y, rfl, hk, hYl, hJs, hkp⟩ := hrel
    by_cases hlt : k < n
    · have hlt' : (k : Int) < n := by omega
      obtain ⟨x, hx⟩ : ∃ x, l[k]? = some x := ⟨_, List.getElem?_eq_getElem (by rw [HN.out]; exact hlt)⟩
      obtain ⟨rfl, r1', r2'⟩ := HR.out k x hx
      have r1 := hkp.cell r1' HX'.out.2.2.1
      have r2 := hkp.cell r2' HX'.out.2.2.1
      have hf := Canon.fit HC.out x (List.mem_of_getElem? hx)
      unfold allN at hf
      have hts : spansL (l.take (k + 1)) = spansL (l.take k) ++ [(pntI x.1, pntI (x.2 - 1))] := by
        rw [List.take_add_one, hx]; simp [spansL, spanP]
      have hpre : spansL (l.take k) ++ [(pntI x.1, pntI (x.2 - 1))] <+: spansL l := by
        rw [← hts]
        exact ⟨spansL (l.drop (k + 1)), by rw [spansL, spansL, ← List.map_append, List.take_append_drop]; rfl⟩
      obtain ⟨x1, x2⟩ := x
      simp only at r1 r2 hf hts hpre
      obtain ⟨q, hq⟩ : ∃ q, wr.heap.size = q := ⟨_, rfl⟩
      have hWq : W.heap.size ≤ q := by rw [← hq]; exact hkp.size
      have hPw : PTab wr := ⟨hkp.cell HT.out.1 HX'.out.2.2.2, hkp.cell HT.out.2.1 HX'.out.2.2.2, hkp.cell HT.out.2.2.1 HX'.out.2.2.2, hkp.cell HT.out.2.2.2.1 HX'.out.2.2.2, hkp.cell HT.out.2.2.2.2.1 HX'.out.2.2.2, hkp.cell HT.out.2.2.2.2.2 HX'.out.2.2.2⟩
      have CP : Hid (∀ (i : Int) (V : World), (0 ≤ i ∧ i < 1112192) → Below q wr V → V.cell? ⟨q, 0, none⟩ = some (.int .i64 x1) → V.cell? ⟨q, 1, none⟩ = some (.int .i64 x2) → q < V.heap.size →
          Calls Tryz.prog 89 #[.int .i64 i] V fun e w' => e = .returned (.int .i32 (pntI i)) ∧ Below q wr w' ∧ w'.cell? ⟨q, 0, none⟩ = some (.int .i64 x1) ∧ w'.cell? ⟨q, 1, none⟩ = some (.int .i64 x2) ∧ q < w'.heap.size) := Lib.hid fun i V hi hb h1 h2 h3 => by
        refine (rpoint_any i V (hPw.below (by rw [← hq]; exact hPw.lt) hb) hi).mono ?_
        rintro e w' ⟨rfl, hb2⟩
        exact ⟨rfl, hb.trans (hb2.mono (Nat.le_of_lt h3)), (hb2.cell h3).trans h1, (hb2.cell h3).trans h2, Nat.lt_of_lt_of_le h3 hb2.size⟩
      have CY : Hid (∀ V : World, Below q wr V → YieldAt Fence.wide 0 Tryz.prog m #[.agg #[.int .i32 (pntI x1), .int .i32 (pntI (x2 - 1))]] V fun e W' => ∃ t, e = .returned (.bool t) ∧ ∃ Y', Keep (fun b => X b ∨ Y b) V W' ∧ (∀ b, Y' b → Y b ∨ V.heap.size ≤ b) ∧ ((t = true ∧ J (spansL (l.take (k + 1))) Y' W') ∨ (t = false ∧ Jx (spansL (l.take (k + 1))) Y' W'))) := Lib.hid fun V hb => by
        have hb' : Below wr.heap.size wr V := by rw [hq]; exact hb
        obtain ⟨fn, tmps, assign, body, hy, hR⟩ := hY _ (pntI x1, pntI (x2 - 1)) Y V hpre (hJ _ _ _ _ (.of_all hb') hJs) (Nat.le_trans hkp.size hb'.size) hYl
        refine ⟨fn, tmps, assign, body, hy, hR.mono ?_⟩
        rintro e W' ⟨Y', hk2, hY', (⟨rfl, h⟩ | ⟨rfl, h⟩)⟩
        · exact ⟨true, rfl, Y', hk2, hY', .inl ⟨rfl, by rw [hts]; exact h⟩⟩
        · exact ⟨false, rfl, Y', hk2, hY', .inr ⟨rfl, by rw [hts]; exact h⟩⟩
      have a0 : Below q wr (wr.alloc (.cells #[.int .i64 x1, .int .i64 x2] 98)) := (Below.refl _ _).alloc (by omega) _
      have a1 : (wr.alloc (.cells #[.int .i64 x1, .int .i64 x2] 98)).drew.cell? ⟨q, 0, none⟩ = some (.int .i64 x1) := by
        show (wr.alloc _).cell? _ = _; rw [Lib.cell_of_heap (alloc_at hq.symm)]; rfl
      have a2 : (wr.alloc (.cells #[.int .i64 x1, .int .i64 x2] 98)).drew.cell? ⟨q, 1, none⟩ = some (.int .i64 x2) := by
        show (wr.alloc _).cell? _ = _; rw [Lib.cell_of_heap (alloc_at hq.symm)]; rfl
      have a3 : q < (wr.alloc (.cells #[.int .i64 x1, .int .i64 x2] 98)).drew.heap.size := by show q < (wr.alloc _).heap.size; simp; omega
      have A0 : Hid (Below q wr (wr.alloc (.cells #[.int .i64 x1, .int .i64 x2] 98)).drew) := Lib.hid (show Below q wr ((wr.alloc (.cells #[.int .i64 x1, .int .i64 x2] 98)).drewN 1) from below_drewN a0 1)
      have HPRE : Hid (spansL (l.take (k + 1)) <+: spansL l) := Lib.hid (by rw [hts]; exact hpre)
      have HQ := Lib.hid (And.intro hq (And.intro hkp (And.intro hYl hWq)))
      have AA := Lib.hid (And.intro a1 (And.intro a2 a3))
      clear hq hkp hYl hWq hPw hts hpre hx hJs r1' r2' a0 a1 a2 a3
      gi_wp2_with fail
      rw [HQ.out.1]
      obtain ⟨a1, a2, a3⟩ := AA.out
      have b0 := A0.out
      have hfn : ∀ k, Fence.wide.fn k := fun _ => trivial
      have hdep : Fence.wide.depth = none := rfl
      have hwr : IntKind.i64.wrap (x2 - 1) = x2 - 1 := by rw [IntKind.wrap_i64]; omega
      gi_region_with (first
        | (gi_at_call 89; (try rw [hwr]); refine (callsIn_wide.2 (CP.out _ _ (by omega) (by assumption) (by assumption) (by assumption) (by assumption))).mono ?_; rintro e v1 ⟨rfl, b1, c1, c2, c3⟩; (try (obtain ⟨fn, tmps, assign, body, hy, hR⟩ := CY.out _ b1)))
        | (refine hR.mono ?_; rintro e W2 ⟨t, rfl, hpost⟩))
      all_goals
        obtain ⟨Y', hk2, hY', hor⟩ := hpost
        obtain ⟨hq, hkp, hYl, hWq⟩ := HQ.out
        have hbw : Below wr.heap.size wr v1 := by rw [hq]; assumption
        have hk1 : Keep X W v1 := hkp.then (hbw.mono hkp.size)
        have hkW : Keep X W W2 := ⟨hk2.os.trans hk1.os, hk2.tape.trans hk1.tape, hk2.output.trans hk1.output, Nat.le_trans hk1.size hk2.size, fun b hb hx => (hk2.same b (Nat.lt_of_lt_of_le hb hk1.size) (fun h => by rcases h with h | h; exact hx h; have := hYl b h; omega)).trans (hk1.same b hb hx)⟩
        have hYY : ∀ y, Y' y → W.heap.size ≤ y := fun y hy => by
          rcases hY' y hy with h | h
          · exact hYl y h
          · have := hk1.size; omega
        have HF := Lib.hid (And.intro hkW hYY)
        clear hk2 hY' hkp hYl hWq hbw hk1 hkW hYY hq
        rcases hor with ⟨rfl, hJ2⟩ | ⟨rfl, hJ2⟩
        · have HJ2 := Lib.hid hJ2
          clear hJ2
          gi_wp2_with fail
          go_roundw
          case rel => exact ⟨k + 1, Y', by go_num, by omega, HF.out.2, HJ2.out, HF.out.1⟩
          case measure => simp [RowKit.intOf]; omega
        · have HJ2 := Lib.hid hJ2
          clear hJ2
          gi_wp2_with fail
          refine bodyPost_ret (results_none rfl _ _ _) rfl ?_
          exact ⟨⟨_, rfl⟩, HF.out.1, .inr ⟨_, Y', HPRE.out, HF.out.2, HJ2.out⟩⟩
    · have hlt' : ¬ (k : Int) < n := by omega
      obtain rfl : k = n := by omega
      have e : l.take k = l := by rw [← HN.out, List.take_length]
      rw [e] at hJs
      have HF := Lib.hid (And.intro hkp (And.intro hYl hJs))
      clear hkp hYl hJs e
      gi_wp2_with fail
      go_end0
      exact ⟨⟨_, rfl⟩, HF.out.1, .inl ⟨Y, HF.out.2.1, HF.out.2.2⟩⟩
end Go.Proofs.YtjbkpcdpdifpnaaGreatDoor
/- slices.AppendSeq of spans; Spans. -/
namespace Go.Proofs.YtjbkpcdpdifpnaaGreatDoor
open Go Go.RowKit Go.Kt Go.Kt.Rg
attribute [local go_sem] Oper.semAt_some

theorem tinfoSpan : (Tryz.prog.info? 27).map (fun i => (i.zero, i.size, i.bytes)) = some (some (.agg #[.int .i32 0, .int .i32 0]), 2, 8) := by kernel_rfl
def encSp (l : List (Int × Int)) : List Value := l.flatMap fun x => [.int .i32 x.1, .int .i32 x.2]
theorem encSp_snoc (l : List (Int × Int)) (x : Int × Int) : encSp (l ++ [x]) = encSp l ++ [.int .i32 x.1, .int .i32 x.2] := by simp [encSp]

set_option maxRecDepth 100000 in
set_option maxHeartbeats 2000000 in
theorem rappend_any (L : List (Int × Int)) (gf : Nat) (lb : Array Value) (Nd : Nat → Prop) (h c : Nat) (w w0 : World) (eg : ∀ args w, (callFunc gf args).run Tryz.prog w = .ok (.enter gf args) w)
    (hit : Iter Tryz.prog gf lb encS L Nd w0) (hNd : ∀ b, Nd b → b ≠ h ∧ b < w.heap.size) (hNdw : ∀ b, Nd b → w.heap[b]? = w0.heap[b]?) (hw0 : w0.heap.size ≤ w.heap.size) (hL : L.length ≤ 1112192)
    (ho : OwnS (fun b => b = h) 27 2 (.slice (some ⟨h, 0, none⟩) 0 c) 0 (encSp []) w) :
    Calls Tryz.prog 54 #[.slice (some ⟨h, 0, none⟩) 0 c, .func (.func gf) #[] lb] w fun e w' => ∃ ao m cp, e = .returned (.slice ao m cp) ∧ m = L.length ∧ OwnS (fun b => b = h ∨ w.heap.size ≤ b) 27 2 (.slice ao m cp) m (encSp L) w' ∧ Keep (fun b => b = h) w w' := by
  have hh : h < w.heap.size := own_ne ho rfl
  obtain ⟨n, hn⟩ : ∃ n, w.heap.size = n := ⟨_, rfl⟩
  have hfn : ∀ k, Fence.wide.fn k := fun _ => trivial
  have hdep : Fence.wide.depth = none := rfl
  refine (callsIn_wide (n := 0)).1 ?_
  refine callsIn_of_wp_marks Tryz.func54 rfl trivial ?_ rfl
  simp only [Tryz.ntmps54, List.size_toArray, List.length_cons, List.length_nil, Nat.reduceAdd, Nat.reduceSub, Array.replicate_succ, Array.replicate_zero, List.push_toArray, List.append_toArray, List.nil_append, List.cons_append]
  obtain ⟨w1, hw1⟩ : ∃ w1, w.alloc (.cells #[.slice (some ⟨h, 0, none⟩) 0 c] 25) = w1 := ⟨_, rfl⟩
  have hz1 : w1.heap.size = n + 1 := by rw [← hw1]; simp [hn]
  have b0 : w1.heap[n]? = some (.cells #[.slice (some ⟨h, 0, none⟩) 0 c] 25 (0, 0)) := by rw [← hw1]; exact alloc_at hn.symm
  have hb1 : Below n w w1 := by rw [← hw1]; exact (Below.refl _ _).alloc (by omega) _
  have ho1 : OwnS (fun b => b = h) 27 2 (.slice (some ⟨h, 0, none⟩) 0 c) 0 (encSp []) w1 := ho.keep (X := fun _ => False) (.of_all (by rw [hn]; exact hb1)) (fun _ h => h.elim)
  have HW1 := Lib.hid hw1
  have HIT := Lib.hid hit
  have HN := Lib.hid hn
  clear hw1 hit ho
  gi_wp2_with fail
  rw [HW1.out]
  refine loop_out (gf := gf) (lb := lb) (encs := encS) rfl eg
    HIT.out (fun _ => rfl) (X := fun b => b = n ∨ b = h)
    (fun b hb => by omega) (fun b hb => by have := hNd b hb; rw [HN.out] at this; refine ⟨by omega, by omega⟩) (fun b hb => (hb1.block b (by have := hNd b hb; rw [HN.out] at this; omega)).trans (hNdw b hb)) (by rw [HN.out] at hw0; omega)
    (fun pre Y W => ∃ ao cv, W.heap[n]? = some (.cells #[.slice ao pre.length cv] 25 (0, 0)) ∧ OwnS (fun b => b = h ∨ Y b) 27 2 (.slice ao pre.length cv) pre.length (encSp pre) W)
    (fun _ _ _ _ => False)
    (fun pre Y W W' hk h' => by
      obtain ⟨ao, cv, h1, h2⟩ := h'
      exact ⟨ao, cv, hk.heap h1 (fun hx => by have := hx.1; omega), h2.keep hk (fun b hx hy => by rcases hy with hy | hy; have := hx.1; rw [HN.out] at hh; omega; exact hx.2 hy)⟩)
    (fun _ _ _ _ _ _ h => h) ⟨_, _, b0, ho1.weaken (fun b h => .inl h)⟩ ?round ?done ?stop
  case stop => intro D c pre Y W _ _ _ h; exact h.elim
  case round =>
    rintro l' hl' pre ⟨lo, hi⟩ Y W hpre hi' hk hY hlt hr
    simp only [encS]
    have HI := Lib.hid hi'
    have HPre := Lib.hid hpre
    have HY := Lib.hid hY
    have HK := Lib.hid hk
    have HR := Lib.hid hr
    clear eg hNd hNdw hi' hk hpre hY hr
    gi_wp2
    refine ⟨(Keep.refl _ _).alloc _, ?_⟩
    rintro W2 hk1 hk2 ⟨ao, cv, hv, hown⟩ hr2
    have hsz := hk1.size
    simp at hsz
    have c5 : W2.cell? ⟨W.heap.size, 0, none⟩ = some (.int .i32 lo) := hk1.cell (by simp) (fun h => by have h : W.heap.size = l' := h; omega)
    have c6 : W2.cell? ⟨W.heap.size, 1, none⟩ = some (.int .i32 hi) := hk1.cell (by simp) (fun h => by have h : W.heap.size = l' := h; omega)
    have hYY := HY.out
    have hlen : pre.length < L.length := by
      obtain ⟨rest, hrest⟩ := HPre.out
      rw [← hrest]; simp
    have hW := HK.out.size
    have hz2 : n < W2.heap.size := by have := hk2.size; omega
    have hnh : h ≠ n := by omega
    have hYn : ∀ b, Y b → b ≠ n := fun b hb => by have := (hYY b hb).1; omega
    obtain ⟨v, hvv⟩ : ∃ v, Value.slice ao pre.length cv = v := ⟨_, rfl⟩
    rw [hvv] at hown hv
    obtain ⟨g, cap, w3, hrun, hown3, hk3, hg3, hz3⟩ := append_x (P := Tryz.prog) W2 25 27 Tryz.underlying25 tinfoSpan rfl (by omega) hown [.int .i32 lo, .int .i32 hi] rfl
      (by intro u hu; simp at hu; rcases hu with rfl | rfl <;> rfl) (by unfold maxLen; omega) (by omega)
    have hvY : ∀ b, v.ownBlock = some b → b = h ∨ Y b := hown.2
    have hg3Y : (g = h ∨ Y g) ∨ W2.heap.size ≤ g := by
      rcases hg3 with hx | hx
      · exact .inl (hvY g hx)
      · exact .inr (by omega)
    have hgn : g ≠ n := by
      rcases hg3Y with (hx | hx) | hx
      · omega
      · exact hYn g hx
      · omega
    have k0 := cell_one hv
    have hvn : ∀ b, v.ownBlock = some b → b ≠ n := fun b hx => by
      rcases hvY b hx with hy | hy
      · omega
      · exact hYn b hy
    have hv3 : w3.heap[n]? = some (.cells #[v] 25 (0, 0)) := hk3.heap hv (fun hx => hvn n hx rfl)
    obtain ⟨w4, hw4⟩ : ∃ w4, w3.setCell ⟨n, 0, none⟩ (.slice (some ⟨g, 0, none⟩) (pre.length + 1) cap) = w4 := ⟨_, rfl⟩
    have hk4 : Keep (fun b => b = n) w3 w4 := by rw [← hw4]; exact Keep.setCell (X := fun b => b = n) (p := ⟨n, 0, none⟩) (Keep.refl _ _) rfl _
    have hv4 : w4.heap[n]? = some (.cells #[.slice (some ⟨g, 0, none⟩) (pre.length + 1) cap] 25 (0, 0)) := by rw [← hw4]; exact set_at hv3
    have hown4 := hown3.keep hk4 (fun b hb hy => hgn (by rw [← hy, hb]))
    have k3 := cell_one hv3
    have f3 := frozen_one hv3
    have hfin : Kt.Left (fun b => b = n ∨ b = h) Y (fun pre Y W => ∃ ao cv, W.heap[n]? = some (.cells #[.slice ao pre.length cv] 25 (0, 0)) ∧ OwnS (fun b => b = h ∨ Y b) 27 2 (.slice ao pre.length cv) pre.length (encSp pre) W) (pre ++ [(lo, hi)]) W2 w4 := by
      refine ⟨fun b => b = g ∧ b ≠ h, ?_, ?_, some ⟨g, 0, none⟩, cap, ?_, ?_⟩
      · exact (hk3.weaken (Y := fun b => (b = n ∨ b = h) ∨ Y b) (fun b _ hx => by rcases hvY b hx with hy | hy; exact .inl (.inr hy); exact .inr hy)).trans (hk4.weaken fun b _ hx => .inl (.inl hx))
      · rintro b ⟨rfl, hb⟩
        rcases hg3Y with (hx | hx) | hx
        · exact absurd hx hb
        · exact .inl hx
        · exact .inr hx
      · have e1 : (pre ++ [(lo, hi)]).length = pre.length + 1 := by simp
        rw [e1]; exact hv4
      · have e1 : (pre ++ [(lo, hi)]).length = pre.length + 1 := by simp
        rw [e1, encSp_snoc]
        exact hown4.weaken fun b hb => by
          by_cases hbh : b = h
          · exact .inl hbh
          · exact .inr ⟨hb, hbh⟩
    have HF := Lib.hid hfin
    have H3 := Lib.hid hrun
    have HW4 := Lib.hid hw4
    clear hfin hrun hw4 hown hown3 hown4 hk3 hk4 hg3 hvY hvn hv hv3 hv4 hg3Y hYY hYn hk1 hk2 hr2 hgn hnh hlen
    gi_wp2_with (first | (refine wpListIn_append_eq (o := ⟨some 11, _, _, _, _, _⟩) (by rfl) (by rfl) (by rfl) (by rfl) H3.out ?_))
    rw [HW4.out]
    exact HF.out
  case done =>
    rintro D Y W hD hDd ⟨ao, cv, hv, hown⟩ hY hkW
    have hk2 : Keep (fun b => b = h) w W := by
      have h1 : Keep (fun b => b = n ∨ b = h) w W := (Keep.of_all (by rw [HN.out]; exact hb1)).trans hkW
      refine h1.weaken fun b hb h2 => ?_
      rw [HN.out] at hb; omega
    have b2 := cell_one hv
    have hDw : W.heap.size = W.heap.size := rfl
    have HF := Lib.hid (And.intro hown (And.intro hk2 hY))
    have HDD := Lib.hid hDd
    clear hown hk2 hkW hY hDd eg hNd hNdw hw0 hDw
    gi_wp2
    refine leaves_marks (Ds := [D]) (by simp) (fun D' h => by simp at h; subst h; exact HDD.out) (fun W' hk' => ⟨_, results_tmp rfl _ _ _, ?_⟩)
    obtain ⟨ho, hkk, hY⟩ := HF.out
    have hk' : Keep (fun b => b = D) W W' := hk'.weaken fun b _ hb => by simpa using hb
    have ho2 := ho.keep hk' (fun b hb hy => by
      have hb : b = D := hb
      rcases hy with hy | hy
      · omega
      · exact (hY b hy).2 hb)
    refine ⟨_, _, _, rfl, rfl, ho2.weaken (fun b hy => ?_), hkk.plus hk' (fun b hb hy => ?_)⟩
    · rcases hy with hy | hy
      · exact .inl hy
      · have := (hY b hy).1; rw [HN.out]; exact .inr (by omega)
    · have hy : b = D := hy
      rw [HN.out] at hb
      exact absurd hb (by omega)
end Go.Proofs.YtjbkpcdpdifpnaaGreatDoor
/- Spans of a set. -/
namespace Go.Proofs.YtjbkpcdpdifpnaaGreatDoor
open Go Go.RowKit Go.Kt Go.Kt.Rg

def mkW (W : World) (c : Nat) : World := W.alloc (.cells (madeCells (Value.agg #[.int .i32 0, .int .i32 0]).cells (c * 2)) 27)
theorem mk_spans (W : World) (c : Nat) (hc : 8 * c ≤ 281474976710656) :
    (Instr.makeSlice 25 (.int .i64 0) (.int .i64 (c : Int))).run Tryz.prog W = .ok (.slice (some ⟨W.heap.size, 0, none⟩) 0 c) (mkW W c) ∧
      OwnS (fun b => b = W.heap.size) 27 2 (.slice (some ⟨W.heap.size, 0, none⟩) 0 c) 0 (encSp []) (mkW W c) ∧ (mkW W c).heap.size = W.heap.size + 1 ∧ Below W.heap.size W (mkW W c) := by
  obtain ⟨i, hi, hz, hs1, hbb1⟩ := info_parts tinfoSpan
  have hb' : (i.bytes : Int) * (c : Int) ≤ 281474976710656 := by rw [hbb1]; omega
  have hr := run_make (P := Tryz.prog) W 25 27 i _ Tryz.underlying25 hi hz .i64 .i64 0 c (Int.le_refl _) (by omega) hb' (by omega)
  simp only [Int.toNat_zero, Int.toNat_natCast] at hr
  have hm : c ≤ maxLen := by unfold maxLen; omega
  have hq := World.ownsRow_made (base := 0) W (madeCells (Value.agg #[.int .i32 0, .int .i32 0]).cells (c * i.size)) c (Nat.zero_le _) hm (size_madeCells _ _) (e := 27)
  rw [hs1] at hq hr
  exact ⟨hr, ⟨hq, fun g h => by cases h; rfl⟩, by simp [mkW], (Below.refl _ W).alloc (Nat.le_refl _) _⟩

theorem enters_spans : ∀ args w, (callFunc 104 args).run Tryz.prog w = .ok (.enter 104 args) w := enters_of Tryz.func104 (by kernel_rfl) rfl

theorem set_row {l : List Run} {b : Nat} {w : World} (h : SetAt l b w) :
    b < w.heap.size ∧ ∃ g, g < w.heap.size ∧ ∃ ao cap, ∀ V, Below w.heap.size w V → (V.cell? ⟨b, 0, none⟩ = some (.slice ao l.length cap) ∧ (l = [] ∨ ao = some ⟨g, 0, none⟩ ∧ ∀ (i : Nat) (x : Run), l[i]? = some x → V.cell? ⟨g, i * 2, none⟩ = some (.int .i64 x.1) ∧ V.cell? ⟨g, i * 2 + 1, none⟩ = some (.int .i64 x.2))) := by
  obtain ⟨v, h1, ao, cap, rfl, h2⟩ := h
  have hb := lt_of_cell h1
  refine ⟨hb, ?_⟩
  cases l with
  | nil => exact ⟨b, hb, ao, cap, fun V hV => ⟨(hV.cell hb).trans h1, .inl rfl⟩⟩
  | cons x t =>
    rcases h2 with h2 | ⟨g, rfl, h2⟩
    · cases h2
    · have hg := lt_of_cell (h2 0 x rfl).1
      refine ⟨g, hg, _, cap, fun V hV => ⟨(hV.cell hb).trans h1, .inr ⟨rfl, fun i y hy => ?_⟩⟩⟩
      have h3 := h2 i y hy
      have e1 : V.cell? ⟨g, i * 2, none⟩ = w.cell? ⟨g, i * 2, none⟩ := hV.cell hg
      have e2 : V.cell? ⟨g, i * 2 + 1, none⟩ = w.cell? ⟨g, i * 2 + 1, none⟩ := hV.cell hg
      exact ⟨e1.trans h3.1, e2.trans h3.2⟩

set_option maxRecDepth 100000 in
set_option maxHeartbeats 2000000 in
theorem rSpans_any (l : List Run) (b : Nat) (w : World) (h : SetAt l b w) (hc : Canon l) (hT : PTab w) :
    Calls Tryz.prog 21 #[ptrV b] w fun e w' => ∃ ao cp, e = .returned (.slice ao l.length cp) ∧ OwnS (fun b => w.heap.size ≤ b) 27 2 (.slice ao l.length cp) l.length (encSp (spansL l)) w' ∧ Below w.heap.size w w' := by
  have hlen := canon_len hc (Int.le_refl _)
  have hl : l.length ≤ 1112192 := by unfold allN at hlen; omega
  obtain ⟨hb, g, hg, ao, cap, hrow⟩ := set_row h
  have q2 := (hrow w (Below.refl _ _)).1
  have hpt := hT.lt
  have CA : Hid (∀ (V : World) (h' c bs : Nat), Below w.heap.size w V → w.heap.size ≤ h' → w.heap.size ≤ bs → h' ≠ bs → OwnS (fun b => b = h') 27 2 (.slice (some ⟨h', 0, none⟩) 0 c) 0 (encSp []) V → V.cell? ⟨bs, 0, none⟩ = some (ptrV b) →
      Calls Tryz.prog 54 #[.slice (some ⟨h', 0, none⟩) 0 c, .func (.func 104) #[] #[.pointer (some ⟨bs, 0, none⟩)]] V fun e w' => ∃ ao cp, e = .returned (.slice ao l.length cp) ∧ OwnS (fun b => w.heap.size ≤ b) 27 2 (.slice ao l.length cp) l.length (encSp (spansL l)) w' ∧ Below w.heap.size w w') := Lib.hid fun V h' c bs hV h1 h2 h3 ho hbs => by
    have hVs := hV.size
    have hbs' := lt_of_cell hbs
    have it := spans_iter l bs b g V hbs ⟨ao, cap, hrow V hV⟩ hc (hT.next hV)
    have hsl : (spansL l).length = l.length := by simp [spansL]
    refine (rappend_any (spansL l) _ _ _ h' c V V enters_spans it (fun x hx => ?_) (fun _ _ => rfl) (Nat.le_refl _) (by omega) ho).mono ?_
    · simp only at hbs'
      rcases hx with rfl | rfl | rfl | rfl <;> omega
    · rintro e w' ⟨ao2, m, cp2, rfl, rfl, ho2, hk2⟩
      rw [hsl] at ho2 ⊢
      exact ⟨ao2, cp2, rfl, ho2.weaken (fun x hx => by rcases hx with hx | hx <;> omega), hV.trans (hk2.below hVs (fun x hx => by have hx : x = h' := hx; omega))⟩
  have CM : Hid (∀ (V : World) (o : Obj), Below w.heap.size w V → (Below w.heap.size w (mkW V l.length) ∧ OwnS (fun x => x = V.heap.size) 27 2 (.slice (some ⟨V.heap.size, 0, none⟩) 0 l.length) 0 (encSp []) (mkW V l.length) ∧ (mkW V l.length).heap.size = V.heap.size + 1)) := Lib.hid fun V o hV => by
    obtain ⟨_, a2, a3, a4⟩ := mk_spans V l.length (by omega)
    exact ⟨hV.trans (a4.mono hV.size), a2, a3⟩
  have mk : ∀ V, (Instr.makeSlice 25 (.int .i64 0) (.int .i64 (l.length : Int))).run Tryz.prog V = .ok (.slice (some ⟨V.heap.size, 0, none⟩) 0 l.length) (mkW V l.length) := fun V => (mk_spans V l.length (by omega)).1
  have hbd : Below w.heap.size w w.drew := show Below w.heap.size w (w.drewN 1) from below_drewN (Below.refl _ _) 1
  have LA : Hid (∀ w1 : World, (mkW w.drew l.length).alloc (.cells #[ptrV b] 36) = w1 → Calls Tryz.prog 54 #[.slice (some ⟨w.heap.size, 0, none⟩) 0 l.length, .func (.func 104) #[] #[.pointer (some ⟨(mkW w.drew l.length).heap.size, 0, none⟩)]] w1 fun e w' => ∃ ao cp, e = .returned (.slice ao l.length cp) ∧ OwnS (fun b => w.heap.size ≤ b) 27 2 (.slice ao l.length cp) l.length (encSp (spansL l)) w' ∧ Below w.heap.size w w') := Lib.hid fun w1 e1 => by
    obtain ⟨b1, b2, b3⟩ := CM.out w.drew (.cells #[] 0) hbd
    have hz : w.drew.heap.size = w.heap.size := rfl
    rw [hz] at b2 b3
    have hal := (Below.refl (mkW w.drew l.length).heap.size (mkW w.drew l.length)).alloc (Nat.le_refl _) (.cells #[ptrV b] 36)
    rw [e1] at hal
    refine CA.out w1 _ _ _ (b1.trans (hal.mono b1.size)) (Nat.le_refl _) (by omega) (by omega) (b2.keep (X := fun _ => False) (.of_all hal) (fun _ h => h.elim)) ?_
    rw [← e1]
    rw [Lib.cell_of_heap (alloc_at rfl)]; rfl
  have LB : Hid (∀ w1 : World, w.drew.alloc (.cells #[ptrV b] 36) = w1 → Calls Tryz.prog 54 #[.slice (some ⟨w1.heap.size, 0, none⟩) 0 l.length, .func (.func 104) #[] #[.pointer (some ⟨w.heap.size, 0, none⟩)]] (mkW w1 l.length) fun e w' => ∃ ao cp, e = .returned (.slice ao l.length cp) ∧ OwnS (fun b => w.heap.size ≤ b) 27 2 (.slice ao l.length cp) l.length (encSp (spansL l)) w' ∧ Below w.heap.size w w') := Lib.hid fun w1 e1 => by
    have hz : w.drew.heap.size = w.heap.size := rfl
    have hal := (Below.refl w.drew.heap.size w.drew).alloc (Nat.le_refl _) (.cells #[ptrV b] 36)
    rw [e1, hz] at hal
    have hs1 : w1.heap.size = w.heap.size + 1 := by rw [← e1]; simp
    have hc1 : w1.cell? ⟨w.heap.size, 0, none⟩ = some (ptrV b) := by rw [← e1, Lib.cell_of_heap (alloc_at hz.symm)]; rfl
    obtain ⟨b1, b2, b3⟩ := CM.out w1 (.cells #[] 0) (hbd.trans hal)
    obtain ⟨_, _, _, b4⟩ := mk_spans w1 l.length (by omega)
    exact CA.out _ _ _ _ b1 (by omega) (Nat.le_refl _) (by omega) b2 ((b4.cell (by rw [hs1]; exact Nat.lt_succ_self _)).trans hc1)
  have CQ : Hid (∀ w1 : World, w.drew.alloc (.cells #[ptrV b] 36) = w1 → w1.cell? ⟨b, 0, none⟩ = some (.slice ao l.length cap)) := Lib.hid fun w1 e1 => by
    have hal := (Below.refl w.drew.heap.size w.drew).alloc (Nat.le_refl _) (.cells #[ptrV b] 36)
    rw [e1] at hal
    exact (hrow w1 (hbd.trans hal)).1
  clear hrow h hc hT hlen hbd
  go_enter Tryz.func21, Tryz.ntmps21
  go_wp2
  go_region_with (first
    | (go_at_call 55; refine (rspans_call b _).mono ?_; rintro e w1 ⟨rfl, hw1⟩; (have HW1 := Lib.hid hw1); (try (have q2b := CQ.out _ hw1)); clear hw1)
    | (go_at_call 54; (first | refine (LA.out _ HW1.out).mono ?_ | refine (LB.out _ HW1.out).mono ?_); rintro e w2 ⟨ao2, cp2, rfl, HF⟩))
  all_goals
    go_wp2
    go_ret
    exact ⟨_, _, rfl, HF⟩
end Go.Proofs.YtjbkpcdpdifpnaaGreatDoor
