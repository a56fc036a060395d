/- The walk of RangesOf. -/
import Derived.Test.YtjbkpcdpdifpnaaGreatDoorYd
import Derived.Test.YtjbkpcdpdifpnaaGreatDoorYi
namespace Go.Proofs.YtjbkpcdpdifpnaaGreatDoor
open Go Go.RowKit Go.Kt Go.Kt.Rg

theorem spg_take {W : World} {g n cap : Nat} {l m : List (Int × Int)} (h : SpG W (.slice (some ⟨g, 0, none⟩) n cap) (l ++ m)) (hm : m ≠ []) : SpG W (.slice (some ⟨g, 0, none⟩) l.length cap) l := by
  obtain ⟨ao, cap', e, h⟩ := h
  injection e with e1 e2 e3
  rcases h with h | ⟨g', off, e4, h⟩
  · exact absurd (List.append_eq_nil_iff.1 h).2 hm
  · refine ⟨_, cap, rfl, .inr ⟨g', off, e1.trans e4, fun i x hx => h i x ?_⟩⟩
    rw [List.getElem?_append_left (List.getElem?_eq_some_iff.1 hx).1]
    exact hx
theorem cell_far {W : World} {p q : Addr} {v x u : Value} (hp : W.cell? p = some v) (hq : W.cell? q = some x) (h : v ≠ x) : (W.setCell p u).cell? q = some x := by
  rw [World.cell?_setCell_other _ _ _ _ (by intro e; subst e; rw [hp] at hq; exact h (Option.some.inj hq))]
  exact hq
theorem slr_cell32 {W : World} {v u : Value} {l : List Run} {p : Addr} {z : Int} (h : SlR W v l) (hp : W.cell? p = some (.int .i32 z)) : SlR (W.setCell p u) v l := by
  obtain ⟨ao, cap, rfl, h⟩ := h
  refine ⟨ao, cap, rfl, ?_⟩
  rcases h with h | ⟨g, rfl, h⟩
  · exact .inl h
  · exact .inr ⟨g, rfl, fun i x hx => ⟨cell_far hp (h i x hx).1 (by simp), cell_far hp (h i x hx).2 (by simp)⟩⟩
theorem setAt_cell32 {W : World} {b : Nat} {u : Value} {l : List Run} {p : Addr} {z : Int} (h : SetAt l b W) (hp : W.cell? p = some (.int .i32 z)) : SetAt l b (W.setCell p u) := by
  obtain ⟨v, h1, h2⟩ := h
  have hs : ∃ ao n c, v = .slice ao n c := by obtain ⟨ao, c, e, _⟩ := h2; exact ⟨_, _, _, e⟩
  obtain ⟨ao, n, c, rfl⟩ := hs
  exact ⟨_, cell_far hp h1 (by simp), slr_cell32 h2 hp⟩
def FW (w : World) (P : List Run) (b c p1 g n cap : Nat) (sx : Value) (X : World) : Prop :=
  Below w.heap.size w X ∧ SetAt P b X ∧ SetAt P c X ∧ X.heap[p1]? = some (.cells #[sx] 44 (0, 0)) ∧ SlR X sx (P.map dnR) ∧
    ∃ xs, OwnS (fun y => w.heap.size ≤ y ∧ y ≠ p1) 27 2 (.slice (some ⟨g, 0, none⟩) n cap) n xs X ∧ ∀ u ∈ xs, ∃ z, u = .int .i32 z
theorem FW.store {w : World} {P : List Run} {b c p1 g n cap o : Nat} {sx : Value} {X : World} (h : FW w P b c p1 g n cap sx X) (ho : o < n * 2) (z : Int) : FW w P b c p1 g n cap sx (X.setCell ⟨g, o, none⟩ (.int .i32 z)) := by
  obtain ⟨h1, h2, h3, h4, h5, xs, h6, h7⟩ := h
  have hl := h6.1.1
  obtain ⟨u, hu⟩ : ∃ u, xs[o]? = some u := ⟨_, List.getElem?_eq_getElem (by rw [hl]; exact ho)⟩
  obtain ⟨z0, rfl⟩ := h7 u (List.mem_of_getElem? hu)
  have hc := Lx.at_row h6 hu
  have hgp := h6.2 g rfl
  have hk : Keep (fun y => y = g) X (X.setCell ⟨g, o, none⟩ (.int .i32 z)) := Keep.setCell (X := fun y => y = g) (Keep.refl _ _) (p := ⟨g, o, none⟩) rfl _
  refine ⟨h1.trans (hk.below h1.size (fun y hy => by subst hy; exact hgp.1)), setAt_cell32 h2 hc, setAt_cell32 h3 hc, hk.heap h4 (fun e => hgp.2 e.symm), slr_cell32 h5 hc, xs.set o (.int .i32 z), ⟨(h6.1.stored o _).1, h6.2⟩, fun u hu => ?_⟩
  rcases List.mem_or_eq_of_mem_set hu with hu | hu
  · exact h7 u hu
  · exact ⟨z, hu⟩
theorem encSp_i32 (l : List (Int × Int)) : ∀ u ∈ encSp l, ∃ z, u = .int .i32 z := fun u hu => by
  unfold encSp at hu
  obtain ⟨x, _, hx⟩ := List.mem_flatMap.1 hu
  simp at hx
  rcases hx with rfl | rfl <;> exact ⟨_, rfl⟩

set_option maxRecDepth 100000 in
set_option maxHeartbeats 8000000 in
theorem rof_c (l : List (Int × Int)) (ask : List Int) (vl va : Value) (w : World) (hF : FEnv w) (hl : SpA w vl l) (ha : Slg .i32 w va ask) (hrl : Runy l) (hra : ∀ x ∈ ask, -2147483648 ≤ x ∧ x ≤ 2147483647) (hal : ask.length ≤ 4611686018427387904) :
    Calls Tryz.prog 7 #[vl, va] w fun e w' => e = .returned (.bool true) ∧ Below w.heap.size w w' := by
  have HL := Lib.hid hl
  obtain ⟨al, cl, rfl, _⟩ := hl
  by_cases h1 : 200 < l.length
  · obtain ⟨nl, hnl⟩ : ∃ n, l.length = n := ⟨_, rfl⟩
    rw [hnl] at h1 ⊢
    have h1' : (200 : Int) < nl := by omega
    clear h1 hnl hF hrl hra hal ha HL
    go_enter Tryz.func7, Tryz.ntmps7
    go_wp2_with fail
    go_ret
    exact ⟨rfl, Below.refl _ _⟩
  · have HF := Lib.hid (fun V (hb : Below w.heap.size w V) => hF.below hb)
    have CLN := Lib.hid (lentSpans_any _ l w HL.out (by omega))
    have CK := Lib.hid (fun V g cap (hb : Below w.heap.size w V) (hg : SpG V (.slice (some ⟨g, 0, none⟩) (l.length + 16) cap) (l ++ marksS 16)) (hc : l.length + 16 ≤ cap) (hm : cap ≤ 9223372036854775807) => keptSpans_any g cap _ l V hg (HL.out.below hb) (by omega) hrl hc hm)
    have CO := Lib.hid (fun V v (hb : Below w.heap.size w V) (hg : SpG V v l) => rof_e l v V hg (hF.below hb).1.1 (by omega) hrl)
    have CX := Lib.hid (fun V (hb : Below w.heap.size w V) => xof_e l _ V (HL.out.below hb) (by omega) hrl)
    have CW := Lib.hid (fun V (hb : Below w.heap.size w V) => rworks_any V (hF.below hb).1)
    have CIS := Lib.hid (fun V (hb : Below w.heap.size w V) (R : List Run) v1 v2 (hs : SetP R v1 V) (hc : Canon R) (hv : SlP R v2 V) => is_p R v1 v2 va ask V (hF.below hb).1 hs hc hv (ha.below hb) hra hal)
    have HSG := Lib.hid (fun V g cap Y (ho : OwnS Y 27 2 (.slice (some ⟨g, 0, none⟩) (l.length + 16) cap) (l.length + 16) (encSp (l ++ marksS 16)) V) => spg_of_own ho (by rw [List.length_append, marksS_len]))
    have HGL : Hid ((errN 0 l).1 = 0 → Canon (canonOf (numsR l))) := Lib.hid fun h => by
      rcases errN_spec l 0 with ⟨_, _, g3⟩ | ⟨k', x', g1, g2, g3, g4⟩
      · exact canonOf_canon _ (good_fit g3)
      · rw [g1] at h; exact absurd h g2
    obtain ⟨el, hel⟩ : ∃ n, errN 0 l = n := ⟨_, rfl⟩
    obtain ⟨no1, at1⟩ := el
    obtain ⟨P, hP⟩ : ∃ P, canonOf (numsR l) = P := ⟨_, rfl⟩
    obtain ⟨nl, hnl⟩ : ∃ n, l.length = n := ⟨_, rfl⟩
    rw [hel] at CO CX HGL
    rw [hP] at CX HGL
    simp only at CO CX HGL
    rw [hnl] at CLN CK CX HSG h1 ⊢
    have h1' : ¬ (200 : Int) < nl := by omega
    have HPL := Lib.hid (And.intro hP hnl)
    rw [hnl] at HL
    clear h1 hnl hF hrl hra hal ha hel hP
    go_enter Tryz.func7, Tryz.ntmps7
    go_wp2_with fail
    refine CLN.out.mono ?_
    rintro e w1 ⟨g, cap, rfl, hcap, hcm, ho1, hb1⟩
    have hsg := HSG.out _ _ _ _ ho1
    have HO1 := Lib.hid (And.intro ho1 (And.intro hcap hcm))
    have HS1 := Lib.hid (And.intro hsg (HPL.out.2 ▸ spg_take hsg (by simp [marksS, List.range_succ])))
    have HB1 := Lib.hid hb1
    have CO1 := Lib.hid (CO.out w1 _ hb1 HS1.out.2)
    clear hsg ho1 hb1
    go_wp2_with fail
    refine CO1.out.mono ?_
    rintro e w2 ⟨pa, ea, rfl, he2, hb2⟩
    have HB2 := Lib.hid (HB1.out.trans (hb2.mono HB1.out.size))
    have HE2 := Lib.hid (And.intro he2 hb2)
    have CK2 := Lib.hid (CK.out w2 _ _ HB2.out (HS1.out.1.below hb2) HO1.out.2.1 HO1.out.2.2)
    clear he2 hb2
    go_wp2_with fail
    refine CK2.out.mono ?_
    rintro e w3 ⟨rfl, hb3⟩
    have HB3 := Lib.hid (HB2.out.trans (hb3.mono HB2.out.size))
    have HE3 := Lib.hid (And.intro (HE2.out.1.below hb3) (HE2.out.2.trans (hb3.mono HE2.out.2.size)))
    have CO3 := Lib.hid (CO.out w3 _ HB3.out (HS1.out.2.below HE3.out.2))
    clear hb3
    go_wp2_with fail
    refine CO3.out.mono ?_
    rintro e w4 ⟨pb, eb, rfl, he4, hb4⟩
    have HB4 := Lib.hid (HB3.out.trans (hb4.mono HB3.out.size))
    have HE4 := Lib.hid (And.intro (HE3.out.1.below hb4) (And.intro he4 (HE3.out.2.trans (hb4.mono HE3.out.2.size))))
    clear he4 hb4
    go_wp2_with fail
    refine (CX.out _ HB4.out).mono ?_
    rintro e w5 ⟨ax, nx, cx, rfl, hx5, hb5⟩
    have hb5' := HB4.out.trans (hb5.mono HB4.out.size)
    obtain ⟨w6, hw6⟩ : ∃ W, w5.alloc (.cells #[.slice ax nx cx] 44) = W := ⟨_, rfl⟩
    have hal6 : Below w5.heap.size w5 w6 := by rw [← hw6]; exact (Below.refl _ _).alloc (Nat.le_refl _) _
    have h6 : w6.heap[w5.heap.size]? = some (.cells #[.slice ax nx cx] 44 (0, 0)) := by rw [← hw6]; exact alloc_at rfl
    have hb46 : Below w4.heap.size w4 w6 := hb5.trans (hal6.mono hb5.size)
    have HB6 := Lib.hid (HB4.out.trans (hb46.mono HB4.out.size))
    have HE6 := Lib.hid (And.intro (HE4.out.1.below hb46) (And.intro (HE4.out.2.1.below hb46) (And.intro (HE4.out.2.2.trans (hb46.mono HE4.out.2.2.size)) (And.intro (fun h => (hx5 h).below hal6) (And.intro h6 (Nat.le_trans HE4.out.2.2.size hb5.size))))))
    have HW6 := Lib.hid hw6
    clear hx5 hb5 hb5' hw6 hal6 h6 hb46
    have CT1 := Lib.hid (told_e l pa ea no1 (at1 : Nat) w6 w6 HE6.out.1 (HF.out _ HB6.out).2)
    go_wp2_with fail
    rw [HW6.out]
    refine CT1.out.mono ?_
    rintro e w7 ⟨rfl, hb7⟩
    have HB7 := Lib.hid (HB6.out.trans (hb7.mono HB6.out.size))
    have CT2 := Lib.hid (told_e l pb eb no1 (at1 : Nat) w6 w7 HE6.out.2.1 (HF.out _ HB7.out).2)
    have H67 := Lib.hid hb7
    clear hb7
    go_wp2_with fail
    refine CT2.out.mono ?_
    rintro e w8 ⟨rfl, hb8⟩
    have HB8 := Lib.hid (HB7.out.trans (hb8.mono HB7.out.size))
    have H68 := Lib.hid (H67.out.trans (hb8.mono H67.out.size))
    clear hb8
    go_wp2_with fail
    refine (CW.out _ HB8.out).mono ?_
    rintro e w9 ⟨rfl, hb9⟩
    have HB9 := Lib.hid (HB8.out.trans (hb9.mono HB8.out.size))
    have H69 := Lib.hid (H68.out.trans (hb9.mono H68.out.size))
    clear hb9
    by_cases z1 : no1 = 0
    · subst z1
      obtain ⟨b, rfl, hsb⟩ : ∃ b, pa = ptrV b ∧ SetAt P b w6 := by
        rcases HE6.out.1 with ⟨_, _, _, _, b, h1, h2⟩ | ⟨h, _⟩
        · rw [HPL.out.1] at h2; exact ⟨b, h1, h2⟩
        · exact absurd rfl h
      obtain ⟨c, rfl, hsc⟩ : ∃ b, pb = ptrV b ∧ SetAt P b w6 := by
        rcases HE6.out.2.1 with ⟨_, _, _, _, b, h1, h2⟩ | ⟨h, _⟩
        · rw [HPL.out.1] at h2; exact ⟨b, h1, h2⟩
        · exact absurd rfl h
      have hsx := HE6.out.2.2.2.1 rfl
      have HCP := Lib.hid (HGL.out rfl)
      obtain ⟨p1, hp1⟩ : ∃ n, w5.heap.size = n := ⟨_, rfl⟩
      have hbox := HE6.out.2.2.2.2.1
      have hgl : g < w1.heap.size := (HO1.out.1.1.lt g rfl).2
      have hp1g : g ≠ p1 := by
        have := HE6.out.2.2.2.2.2
        omega
      rw [hp1] at hbox ⊢
      have hno := own_nx HO1.out.1 (HE6.out.2.2.1.trans (H69.out.mono HE6.out.2.2.1.size))
      have HFW : Hid (FW w P b c p1 g (nl + 16) cap (.slice ax nx cx) w9) := Lib.hid ⟨HB9.out, hsb.below H69.out, hsc.below H69.out, (H69.out.block _ (Array.getElem?_eq_some_iff.1 hbox).1).trans hbox, hsx.below H69.out, _, ⟨hno.1, fun y hy => ⟨hno.2 y hy, by
        have e : g = y := by simpa [Value.ownBlock] using hy
        omega⟩⟩, encSp_i32 _⟩
      clear hno hsb hsc hsx hbox hgl hp1g hp1
      go_wp2_with fail
      go_loopw [13] (fun x X => ∃ i : Nat, x = .int .i64 i ∧ i ≤ nl ∧ FW w P b c p1 g (nl + 16) cap (.slice ax nx cx) X) (fun x _ => nl - (RowKit.intOf x).toNat)
      case atStart => exact ⟨0, rfl, by omega, HFW.out⟩
      case round =>
        clear HFW
        obtain ⟨i, rfl, hi, hfw⟩ := hrel
        have HW := Lib.hid hfw
        by_cases hlt : i < nl
        · have hlt' : (i : Int) < nl := by omega
          obtain ⟨_, _, _, _, _, xs, ho, _⟩ := hfw
          have hl := ho.1.1
          obtain ⟨⟨u0, q0⟩, ⟨u1, q1⟩, f0, f1⟩ := twoS ho (o := i * 2) (by omega) (.int .i32 1)
          have HN := Lib.hid ((HW.out.store (o := i * 2) (by omega) 1).store (o := i * 2 + 1) (by omega) 1)
          clear ho hl
          go_wp2_with fail
          go_roundw
          case rel => exact ⟨i + 1, by go_num, by omega, HN.out⟩
          case measure => simp [RowKit.intOf]; omega
        · have hlt' : ¬ (i : Int) < nl := by omega
          obtain rfl : i = nl := by omega
          have k0 := cell_one hfw.2.2.2.1
          have CI1 := Lib.hid (CIS.out wr hfw.1 P (ptrV b) (.agg #[.slice ax nx cx]) ⟨b, rfl, hfw.2.1⟩ HCP.out ⟨_, rfl, hfw.2.2.2.2.1⟩)
          clear hfw
          go_wp2_with fail
          refine CI1.out.mono ?_
          rintro e y1 ⟨rfl, hb1⟩
          have k1 : y1.cell? ⟨p1, 0, none⟩ = some (.slice ax nx cx) := (hb1.cell (lt_of_cell k0)).trans k0
          have CI2 := Lib.hid (CIS.out y1 (HW.out.1.trans (hb1.mono HW.out.1.size)) P (ptrV c) (.agg #[.slice ax nx cx]) ⟨c, rfl, HW.out.2.2.1.below hb1⟩ HCP.out ⟨_, rfl, HW.out.2.2.2.2.1.below hb1⟩)
          have HY1 := Lib.hid hb1
          clear hb1 k0
          go_wp2_with fail
          refine CI2.out.mono ?_
          rintro e y2 ⟨rfl, hb2⟩
          have HY2 := Lib.hid (HY1.out.trans (hb2.mono HY1.out.size))
          clear hb2 k1
          obtain ⟨y3, hy3⟩ : ∃ Y, y2.alloc (.cells #[.slice none 0 0, .slice none 0 0, .slice none 0 0, .slice none 0 0, .slice none 0 0, .slice none 0 0, .slice none 0 0, .slice none 0 0, .slice none 0 0, .slice none 0 0, .slice none 0 0, .slice none 0 0, .slice none 0 0, .slice none 0 0, .slice none 0 0, .slice none 0 0, .slice none 0 0, .slice none 0 0, .slice none 0 0, .slice none 0 0, .slice none 0 0, .slice none 0 0, .slice none 0 0, .slice none 0 0] 74) = Y := ⟨_, rfl⟩
          have hk3 : BkS y2 y2.heap.size (.slice none 0 0) [] y3 := Bk.BookW.start y2 (by rw [← hy3]; rfl)
          have HY3 := Lib.hid hy3
          have hw3 : Below y2.heap.size y2 y3 := hk3.below
          clear hy3
          have HSET : Hid (∀ X, Below y2.heap.size y2 X → SetAt P b X ∧ SetAt P c X ∧ Below w.heap.size w X ∧ X.heap[p1]? = some (.cells #[.slice ax nx cx] 44 (0, 0)) ∧ SlR X (.slice ax nx cx) (P.map dnR)) := Lib.hid fun X hX => by
            have hb : Below wr.heap.size wr X := HY2.out.trans (hX.mono HY2.out.size)
            exact ⟨HW.out.2.1.below hb, HW.out.2.2.1.below hb, HW.out.1.trans (hb.mono HW.out.1.size), (hb.block _ (Array.getElem?_eq_some_iff.1 HW.out.2.2.2.1).1).trans HW.out.2.2.2.1, HW.out.2.2.2.2.1.below hb⟩
          have hPn : P.length ≤ 1112192 := by have := canon_len HCP.out (Int.le_refl _); unfold allN at this; omega
          obtain ⟨np, hnp⟩ : ∃ n, P.length = n := ⟨_, rfl⟩
          rw [hnp] at hPn
          have HNP := Lib.hid hnp
          clear hnp
          have CS4 := Lib.hid (rSpans_any P b y3 (HSET.out y3 hw3).1 HCP.out (HF.out _ (HSET.out y3 hw3).2.2.1).1.1)
          rw [HNP.out] at CS4
          have HW3 := Lib.hid hw3
          have HK3 := Lib.hid hk3
          clear hw3 hk3
          go_wp2_with fail
          rw [HY3.out]
          refine CS4.out.mono ?_
          rintro e y4 ⟨ao4, cp4, rfl, ho4, hb4⟩
          have CB4 := Lib.hid (bookSpans_any y2 y3 y4 _ np cp4 ao4 _ _ _ HK3.out hb4 ho4 (by omega) (by simp))
          have HB4' := Lib.hid hb4
          clear ho4 hb4
          go_wp2_with fail
          refine CB4.out.mono ?_
          rintro e y5 ⟨rfl, sv5, hk5⟩
          have hw5 : Below y2.heap.size y2 y5 := hk5.below
          have CS6 := Lib.hid (rSpans_any P b y5 (HSET.out y5 hw5).1 HCP.out (HF.out _ (HSET.out y5 hw5).2.2.1).1.1)
          rw [HNP.out] at CS6
          have HW5 := Lib.hid hw5
          have HK5 := Lib.hid hk5
          clear hw5 hk5
          go_wp2_with fail
          refine CS6.out.mono ?_
          rintro e y6 ⟨ao6, cp6, rfl, ho6, hb6⟩
          have CB6 := Lib.hid (bookSpans_any y2 y5 y6 _ np cp6 ao6 _ _ _ HK5.out hb6 ho6 (by omega) (by simp))
          have HB6' := Lib.hid hb6
          clear ho6 hb6
          go_wp2_with fail
          refine CB6.out.mono ?_
          rintro e y7 ⟨rfl, sv7, hk7⟩
          have hw7 : Below y2.heap.size y2 y7 := hk7.below
          have CS8 := Lib.hid (rSpans_any P c y7 (HSET.out y7 hw7).2.1 HCP.out (HF.out _ (HSET.out y7 hw7).2.2.1).1.1)
          rw [HNP.out] at CS8
          have HW7 := Lib.hid hw7
          have HK7 := Lib.hid hk7
          clear hw7 hk7
          go_wp2_with fail
          refine CS8.out.mono ?_
          rintro e y8 ⟨ao8, cp8, rfl, ho8, hb8⟩
          have CB8 := Lib.hid (bookSpans_any y2 y7 y8 _ np cp8 ao8 _ _ _ HK7.out hb8 ho8 (by omega) (by simp))
          have HB8' := Lib.hid hb8
          clear ho8 hb8
          go_wp2_with fail
          refine CB8.out.mono ?_
          rintro e y9 ⟨rfl, sv9, hk9⟩
          have hw9 : Below y2.heap.size y2 y9 := hk9.below
          have CA := Lib.hid (bookApart_any y2 y9 _ _ _ hk9 (by simp) (by simp))
          clear hk9 hw9
          go_wp2_with fail
          refine CA.out.mono ?_
          rintro e y10 ⟨rfl, hb10⟩
          have h10 := HSET.out y10 hb10
          have k10 := cell_one h10.2.2.2.1
          have CI3 := Lib.hid (CIS.out y10 h10.2.2.1 P (ptrV b) (.agg #[.slice ax nx cx]) ⟨b, rfl, h10.1⟩ HCP.out ⟨_, rfl, h10.2.2.2.2⟩)
          have H10 := Lib.hid h10.2.2.1
          clear h10 hb10
          go_wp2_with fail
          refine CI3.out.mono ?_
          rintro e y11 ⟨rfl, hb11⟩
          have H11 := Lib.hid (H10.out.trans (hb11.mono H10.out.size))
          clear hb11 k10
          go_wp2_with fail
          go_ret
          exact ⟨rfl, H11.out⟩
    · have z1' : (no1 != 0) = true := by rw [bne_iff_ne]; exact z1
      obtain ⟨rfl, rfl⟩ : pa = .pointer none ∧ pb = .pointer none := by
        refine ⟨?_, ?_⟩
        · rcases HE6.out.1 with ⟨h, _⟩ | ⟨_, h, _⟩
          · exact absurd h z1
          · exact h
        · rcases HE6.out.2.1 with ⟨h, _⟩ | ⟨_, h, _⟩
          · exact absurd h z1
          · exact h
      clear z1
      go_wp2_with fail
      go_ret
      exact ⟨rfl, HB9.out⟩
end Go.Proofs.YtjbkpcdpdifpnaaGreatDoor
