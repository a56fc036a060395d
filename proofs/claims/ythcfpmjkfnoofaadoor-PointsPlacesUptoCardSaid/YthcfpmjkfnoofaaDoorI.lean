import Derived.Test.YthcfpmjkfnoofaaDoorH
namespace Go.Proofs.YthcfpmjkfnoofaaDoor
open Go Go.RowKit Go.Lib

/-- Is the first unit settled? -/
def fullB (s : ByteArray) : Bool := if s.size = 0 then false else (((begunI s 0).1 == (begunI s 0).2) || decide ((begunI s 0).1 < s.size))

theorem fullK_bgT (k lo hi n b1 b2 b3 : Nat) (hk2 : 2 ≤ k) (hk4 : k ≤ 4) (hn : 1 ≤ n) :
    fullK k lo hi n b1 b2 = ((bgT ((k : Int), (lo : Int), (hi : Int)) n b1 b2 b3 == (k : Int)) || decide (bgT ((k : Int), (lo : Int), (hi : Int)) n b1 b2 b3 < n)) := by
  unfold fullK bgT
  simp only [inB_iff]
  rcases (by omega : k = 2 ∨ k = 3 ∨ k = 4) with rfl | rfl | rfl
  all_goals
    repeat' split
    all_goals first | (simp; done) | (simp; omega) | (exfalso; omega)

theorem fullB_lead (s : ByteArray) (k lo hi : Nat) (h0 : 0 < s.size) (hl : leadI (B s 0) = ((k : Int), (lo : Int), (hi : Int))) (hk2 : 2 ≤ k) (hk4 : k ≤ 4) :
    fullB s = fullK k lo hi s.size (B s 1) (B s 2) := by
  rw [fullK_bgT k lo hi s.size (B s 1) (B s 2) (B s 3) hk2 hk4 (by omega)]
  unfold fullB
  rw [if_neg (by omega), begunI_eq, hl, if_neg (by simp; omega)]
  simp

theorem fullRune_any (s : ByteArray) (w : World) (hT : Utf8Tabs 1 2 w) (hs : s.size ≤ 4611686018427387904) :
    Calls Tryd.prog 96 #[.string s] w fun e w' => e = .returned (.bool (fullB s)) ∧ Below w.heap.size w w' := by
  by_cases h : s.size = 0
  · have : fullB s = false := by unfold fullB; rw [if_pos h]
    rw [this]; exact full_empty s w h
  have h0 : 0 < s.size := by omega
  have hc := hT.1 (B s 0) (B_lt s 0)
  have a0 := hT.2 0 (by omega)
  have a1 := hT.2 1 (by omega)
  have a2 := hT.2 2 (by omega)
  have a3 := hT.2 3 (by omega)
  have a4 := hT.2 4 (by omega)
  by_cases c1 : B s 0 < 128
  · have e : fullB s = true := by
      unfold fullB; rw [if_neg h, begunI_eq, lead_1 _ c1, if_neg (by simp)]; simp [bgT]
    rw [e]
    exact full_240 s w h0 hs (by rw [hc]; simp [firstT, c1])
  by_cases c2 : (128 ≤ B s 0 ∧ B s 0 < 194) ∨ 245 ≤ B s 0
  · have e : fullB s = true := by
      unfold fullB; rw [if_neg h, begunI_eq, lead_bad _ c2, if_pos rfl]; simp
    rw [e]
    exact full_241 s w h0 hs (by rw [hc, show firstT (B s 0) = 241 by unfold firstT; repeat' (first | omega | split)]; rfl)
  by_cases c3 : B s 0 < 224
  · rw [fullB_lead s 2 128 191 h0 (lead_2 _ (by omega)) (by omega) (by omega)]
    exact full_2 s w h0 hs (by rw [hc, show firstT (B s 0) = 2 by unfold firstT; repeat' (first | omega | split)]; rfl) a0.1 a0.2
  by_cases c4 : B s 0 < 240
  · have hl := lead_3 (B s 0) (by omega)
    by_cases c5 : B s 0 = 224
    · rw [if_pos c5, if_neg (by omega)] at hl
      rw [fullB_lead s 3 160 191 h0 hl (by omega) (by omega)]
      exact full_19 s w h0 hs (by rw [hc, show firstT (B s 0) = 19 by unfold firstT; repeat' (first | omega | split)]; rfl) a1.1 a1.2
    · by_cases c6 : B s 0 = 237
      · rw [if_neg c5, if_pos c6] at hl
        rw [fullB_lead s 3 128 159 h0 hl (by omega) (by omega)]
        exact full_35 s w h0 hs (by rw [hc, show firstT (B s 0) = 35 by unfold firstT; repeat' (first | omega | split)]; rfl) a2.1 a2.2
      · rw [if_neg c5, if_neg c6] at hl
        rw [fullB_lead s 3 128 191 h0 hl (by omega) (by omega)]
        exact full_3 s w h0 hs (by rw [hc, show firstT (B s 0) = 3 by unfold firstT; repeat' (first | omega | split)]; rfl) a0.1 a0.2
  · have hl := lead_4 (B s 0) (by omega)
    by_cases c5 : B s 0 = 240
    · rw [if_pos c5, if_neg (by omega)] at hl
      rw [fullB_lead s 4 144 191 h0 hl (by omega) (by omega)]
      exact full_52 s w h0 hs (by rw [hc, show firstT (B s 0) = 52 by unfold firstT; repeat' (first | omega | split)]; rfl) a3.1 a3.2
    · by_cases c6 : B s 0 = 244
      · rw [if_neg c5, if_pos c6] at hl
        rw [fullB_lead s 4 128 143 h0 hl (by omega) (by omega)]
        exact full_68 s w h0 hs (by rw [hc, show firstT (B s 0) = 68 by unfold firstT; repeat' (first | omega | split)]; rfl) a4.1 a4.2
      · rw [if_neg c5, if_neg c6] at hl
        rw [fullB_lead s 4 128 191 h0 hl (by omega) (by omega)]
        exact full_4 s w h0 hs (by rw [hc, show firstT (B s 0) = 4 by unfold firstT; repeat' (first | omega | split)]; rfl) a0.1 a0.2

theorem utfFull_any (s : ByteArray) (w : World) (hT : Utf8Tabs 1 2 w) (hs : s.size ≤ 4611686018427387904) :
    Calls Tryd.prog 52 #[.string s] w fun e w' => e = .returned (.bool (fullB s)) ∧ Below w.heap.size w w' := by
  have c := Lib.hid (fullRune_any s w hT hs)
  clear hT
  generalize fullB s = R at *
  go_enter Tryd.func52, Tryd.ntmps52
  go_wp2_with (go_at_call 96; refine c.out.mono ?_; rintro e w' ⟨rfl, hb⟩)
  go_ret
  exact ⟨rfl, hb⟩

end Go.Proofs.YthcfpmjkfnoofaaDoor
